package tests

import (
	"math"
	"math/rand/v2"
	"slices"
	"strings"

	"loop.example/g03326/impl"
)

// amountsOfGains are numbers that the Least and the Sat of a valid set may be.
var amountsOfGains = []float32{0, negativeZero, 1e-45, 0.125, 1, 1.5, 15.999999, 16}

// noAmountsOfGains are numbers that the Least and the Sat of a valid set cannot be.
var noAmountsOfGains = []float32{-1e-45, -0.125, -1, -16, above(16), 17, 1e30, -1e30, infinite, -infinite, notANumber}

// farNumbers are numbers that no size of a valid set has.
var farNumbers = []int{0, -1, -2, -4, -8, -64, 65, 66, 67, 68, 72, 100, 128, 1 << 32, 1<<32 + 4, 1<<62 + 4, -1 << 62, math.MaxInt, math.MaxInt - 3, math.MinInt, math.MinInt + 4}

func sameSet(a, b impl.Set) bool {
	return a.Cells == b.Cells && a.Rows == b.Rows && sameFloat(a.Slice, b.Slice) && sameFloat(a.Least, b.Least) &&
		sameFloat(a.Sat, b.Sat) && slices.Equal(a.Log, b.Log)
}

// isZeroSet reports whether the set is the zero value.
func isZeroSet(s impl.Set) bool { return sameSet(s, impl.Set{}) }

// newSet returns the set that the document describes, valid or not.
func newSet(cells, rows int) impl.Set {
	return impl.Set{Cells: cells, Rows: rows, Slice: -24, Least: 0.125, Sat: 1}
}

// setInRange reports whether the document accepts the set.
func setInRange(s impl.Set) bool {
	inRange := func(x, low, high float32) bool { return x >= low && x <= high }
	return s.Cells > 0 && s.Cells < 65 && s.Rows > 0 && s.Rows < 65 && s.Rows%4 == 0 && inRange(s.Slice, -1024, 1024) &&
		inRange(s.Least, 0, 16) && inRange(s.Sat, 0, 16) && len(s.Log) <= 100
}

// logOf returns a log of so many strings, no two of which are the same.
func logOf(n int) []string {
	log := make([]string, n)
	for i := range log {
		log[i] = "saturation 1." + impl.FormatInt(100+i)
	}
	return log
}

// someSet returns a valid set.
func someSet(r *rand.Rand) impl.Set {
	gain := func() float32 {
		return []float32{r.Float32(), r.Float32() * 16, amountsOfGains[r.IntN(len(amountsOfGains))]}[r.IntN(3)]
	}
	slice := []float32{(r.Float32()*2 - 1) * 1024, (r.Float32()*2 - 1) * 64, around(1024)[r.IntN(len(around(1024)))]}[r.IntN(3)]
	log := logOf([]int{0, 1, r.IntN(101), 99, 100}[r.IntN(5)])
	return impl.Set{Cells: 1 + r.IntN(64), Rows: 4 + 4*r.IntN(16), Slice: slice, Least: gain(), Sat: gain(), Log: log}
}

// brokenSets returns sets that are not valid, most of them for one reason.
func brokenSets() []impl.Set {
	sets := []impl.Set{{}, {Cells: -1, Rows: 3, Slice: notANumber, Least: -1, Sat: infinite, Log: logOf(101)}}
	broken := func(change func(s *impl.Set)) {
		s := newSet(3, 8)
		s.Log = logOf(2)
		change(&s)
		sets = append(sets, s)
	}
	for _, n := range farNumbers {
		broken(func(s *impl.Set) { s.Cells = n })
		broken(func(s *impl.Set) { s.Rows = n })
	}
	for _, n := range []int{1, 2, 3, 5, 6, 7, 9, 10, 11, 62, 63} {
		broken(func(s *impl.Set) { s.Rows = n })
	}
	for _, x := range beyond(1024) {
		broken(func(s *impl.Set) { s.Slice = x })
	}
	for _, x := range noAmountsOfGains {
		broken(func(s *impl.Set) { s.Least = x })
		broken(func(s *impl.Set) { s.Sat = x })
	}
	for _, n := range []int{101, 102, 1000} {
		broken(func(s *impl.Set) { s.Log = logOf(n) })
	}
	return sets
}

// sentStream returns the samples that the document describes of a picture, and whether each line
// comes through the channel.
func sentStream(p [][]impl.Cell, ch impl.Channel) ([]float32, bool) {
	var stream []float32
	for i := range p {
		at := 2 * i
		if at >= len(p) {
			at += 1 - len(p)
		}
		line := transmitted(ch, madeLine(p[at], at%4 > 1))
		if !allSamplesOk(line) {
			return nil, false
		}
		stream = append(stream, line...)
	}
	return stream, impl.PictureOk(p) && channelInRange(ch)
}

// toLevel returns the samples that the document describes of a list; nil if there are none.
func toLevel(line []float32) []float32 {
	if !impl.LineOk(line) {
		return nil
	}
	tip, black := measured(line)
	if !(black > tip) || !impl.LineOk(levelled(line)) {
		return nil
	}
	return levelled(line)
}

// receivedPicture returns the picture that the document describes, and whether there is one.
func receivedPicture(s impl.Set, stream []float32) ([][]impl.Cell, bool) {
	length := 24 + 4*s.Cells
	lines := cutLines(stream, starts(stream, s.Slice, length, 3), length)
	if !setInRange(s) || len(lines) != s.Rows {
		return nil, false
	}
	picture := make([][]impl.Cell, s.Rows)
	for i := 0; i < s.Rows; i += 2 {
		rows, ok := takenPair(toLevel(lines[i]), toLevel(lines[i+1]), s.Least, s.Sat)
		if !ok {
			return nil, false
		}
		at := 2 * i
		if at >= s.Rows {
			at += 1 - s.Rows
		}
		picture[at], picture[at+2] = rows[0], rows[1]
	}
	return picture, true
}

// tunedSet returns the set that the document describes, and whether the command is done.
func tunedSet(s impl.Set, line string) (impl.Set, bool) {
	fields := strings.Fields(line)
	if !setInRange(s) || len(s.Log) == 100 || len(line) > 600 || len(fields) == 0 || strings.Trim(line, allBytes()[32:127]) != "" {
		return s, false
	}
	tuned, ok := s, false
	switch command := impl.FormatInt(len(fields)) + fields[0]; command {
	case "3size":
		cells, rows := parse(impl.ParseUint, fields[1]), parse(impl.ParseUint, fields[2])
		tuned.Cells, tuned.Rows, ok = cells.value, rows.value, cells.ok && rows.ok
	case "2slice", "2killer", "2saturation":
		n := parse(impl.ParseFixed, fields[1])
		x := float32(float64(n.value) / 1000)
		*map[string]*float32{"2slice": &tuned.Slice, "2killer": &tuned.Least, "2saturation": &tuned.Sat}[command] = x
		ok = n.ok
	}
	if !ok || !setInRange(tuned) {
		return s, false
	}
	tuned.Log = append(slices.Clone(s.Log), strings.Join(fields, " "))
	return tuned, true
}

// linkedPicture returns a paired picture with brightnesses that are multiples of 1/16 from 0 to
// 60, and parts of colours that are multiples of 1/16 from -2 to 2, with the limits of both.
func linkedPicture(r *rand.Rand, rows, cells int) [][]impl.Cell {
	p := make([][]impl.Cell, rows)
	for at := range p {
		for i := range cells {
			c := impl.Cell{Y: float32(r.IntN(961)) / 16, C: complex(sixteenths(r, 2), sixteenths(r, 2))}
			if r.IntN(4) == 0 {
				c = impl.Cell{Y: float32(r.IntN(2)) * 60, C: complex(float32(r.IntN(2))*4-2, float32(r.IntN(2))*4-2)}
			}
			if at%4 > 1 {
				c.C = p[at-2][i].C
			}
			p[at] = append(p[at], c)
		}
	}
	return p
}
