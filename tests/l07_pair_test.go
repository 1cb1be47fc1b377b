package tests

import (
	"math/rand/v2"
	"slices"
	"testing"

	"loop.example/g03326/impl"
)

// checkPair reports if DecodePair does not give what the document describes, and returns whether
// there are rows.
func checkPair(t *testing.T, a, b []float32) bool {
	t.Helper()
	want := decodedPair(a, b)
	got, ok := impl.DecodePair(a, b)
	if ok != (want != nil) || !samePicture(got, want) {
		t.Errorf("DecodePair(%v, %v) = %v, %t, want %v", a, b, got, ok, want)
	}
	return ok
}

func TestDecodePair(t *testing.T) {
	zero, tiny := negativeZero, float32(1e-45)
	cases := []struct{ c, d, even, odd complex64 }{
		{1 + 5i, 5 + 1i, 3 + 2i, 3 - 2i},
		{3 + 2i, 3 - 2i, 3 + 2i, 3 - 2i},
		{3 + 2i, 3 + 2i, 3, 3},
		{10, 1i, complex(5, -0.5), complex(5, 0.5)},
		{0, 8 + 4i, 4 - 2i, 4 + 2i},
		{256 + 256i, 256 - 256i, 256 + 256i, 256 - 256i},
		{-256 - 256i, -256 + 256i, -256 - 256i, -256 + 256i},
		{256 + 256i, -256 + 256i, 0, 0},
		// Signs of 0.
		{0, 0, 0, 0},
		{complex(zero, zero), complex(zero, 0), complex(zero, zero), complex(zero, 0)},
		{complex(zero, 0), complex(zero, zero), complex(zero, 0), complex(zero, zero)},
		{complex(zero, zero), complex(zero, zero), complex(zero, 0), complex(zero, 0)},
		{complex(zero, 0), complex(0, 0), 0, 0},
		{complex(0, zero), complex(zero, 0), complex(0, zero), 0},
		{complex(0, 0), complex(zero, zero), 0, complex(0, zero)},
		{complex(5, -7), complex(-5, -7), 0, 0},
		{complex(-5, 7), complex(5, 7), 0, 0},
		// The parts are added before they are halved.
		{complex(tiny, tiny), complex(tiny, -tiny), complex(tiny, tiny), complex(tiny, -tiny)},
		{complex(-tiny, -tiny), complex(-tiny, tiny), complex(-tiny, -tiny), complex(-tiny, tiny)},
		{complex(tiny, tiny), 0, 0, complex(0, zero)},
		{complex(3*tiny, 3*tiny), 0, complex(2*tiny, 2*tiny), complex(2*tiny, -2*tiny)},
		{complex(tiny, tiny), complex(2*tiny, 2*tiny), complex(2*tiny, zero), complex(2*tiny, 0)},
		// Sums of which the last digits are lost.
		{complex(256, 1e-6), complex(1e-6, 256), complex(128, -128), complex(128, 128)},
		{complex(above(200), 0.3), complex(100.3, -0.1), complex(mean(above(200), 100.3), mean(0.3, 0.1)), complex(mean(above(200), 100.3), -mean(0.3, 0.1))},
	}
	for _, c := range cases {
		grey, bright := []float32{7, 7, 7, 7}, []float32{zero, zero, zero, zero}
		first := slices.Concat(grey, coloured(c.c), bright)
		second := slices.Concat(bright, coloured(c.d), grey)
		y, z := decoded(first, false)[1].Y, decoded(second, false)[1].Y
		for _, pair := range []struct{ p, q, want complex64 }{{evenBurst, oddBurst, c.even}, {oddBurst, evenBurst, c.odd}, {evenBurst, evenBurst, 0}} {
			a, b := lineWithCells(pair.p, first), lineWithCells(pair.q, second)
			want := [][]impl.Cell{{{Y: 7}, {Y: y, C: pair.want}, {Y: zero}}, {{Y: zero}, {Y: z, C: pair.want}, {Y: 7}}}
			if got, ok := impl.DecodePair(a, b); !ok || !samePicture(got, want) {
				t.Errorf("DecodePair of lines with bursts %v and %v and colours %v and %v = %v, %t, want %v", pair.p, pair.q, c.c, c.d, got, ok, want)
			}
			checkPair(t, a, b)
		}
	}
}

func TestDecodePairOfSomeLines(t *testing.T) {
	r := rand.New(rand.NewPCG(7, 4))
	swings, refused := [3]int{}, 0
	for range 10000 {
		a, b := somePair(r)
		if !checkPair(t, a, b) {
			refused++
			continue
		}
		turn, _ := hueOf(a, b)
		swings[turn+1]++
	}
	if slices.Min(swings[:]) < 500 || refused < 500 {
		t.Errorf("of the pairs tried, %v had the swings -1, 0 and 1, and %d were refused", swings, refused)
	}
}

func TestDecodePairOfTheMostAndTheLeastCells(t *testing.T) {
	r := rand.New(rand.NewPCG(7, 5))
	for cells := 1; cells <= impl.MaxCells; cells++ {
		a, b := impl.MakeLine(plainRow(r, cells), false), impl.MakeLine(plainRow(r, cells), true)
		if !checkPair(t, a, b) || !checkPair(t, b, a) || !checkPair(t, a, a) {
			t.Errorf("DecodePair refuses lines of %d cells", cells)
		}
	}
}

// withColours returns a row with the colours of the row, and brightnesses of its own.
func withColours(r *rand.Rand, row []impl.Cell) []impl.Cell {
	other := plainRow(r, len(row))
	for i := range other {
		other[i].C = row[i].C
	}
	return other
}

// isReceived reports whether got is the row as it comes through the channel, with its colours
// times the real part of G.
func isReceived(got, row []impl.Cell, ch impl.Channel) bool {
	g := real(ch.G)
	return slices.EqualFunc(got, row, func(c, sent impl.Cell) bool {
		return c.Y == ch.A*sent.Y+ch.Offset && c.C == complex(g*real(sent.C), g*imag(sent.C))
	})
}

func TestTheTurnOfTheHueIsLost(t *testing.T) {
	r := rand.New(rand.NewPCG(7, 6))
	for x := -8; x <= 8; x++ {
		for y := -8; y <= 8; y++ {
			for _, a := range []float32{0.25, 0.5, 1, 2} {
				offset := []float32{-4, 4, somePlainChannel(r).Offset}[r.IntN(3)]
				ch := impl.Channel{A: a, Offset: offset, G: complex(float32(x)/4, float32(y)/4)}
				if ch.G == 0 {
					continue
				}
				first := plainRow(r, 1+r.IntN(impl.MaxCells))
				second := withColours(r, first)
				for _, odd := range []bool{false, true} {
					a, ok := impl.Transmit(ch, impl.MakeLine(first, odd))
					b, fine := impl.Transmit(ch, impl.MakeLine(second, !odd))
					rows, good := impl.DecodePair(a, b)
					if !ok || !fine || !good || len(rows) != 2 || !isReceived(rows[0], first, ch) || !isReceived(rows[1], second, ch) {
						t.Errorf("through %v, the first one odd (%t), %v and %v come as %v, %t", ch, odd, first, second, rows, good)
					}
				}
			}
		}
	}
}

func TestDecodePairWithoutASwing(t *testing.T) {
	cells := encoded([]impl.Cell{{Y: 7, C: 1 + 2i}, {Y: 8, C: -200}}, false)
	check := func(a, b []float32) {
		t.Helper()
		want := [][]impl.Cell{{{Y: 7}, {Y: 8}}, {{Y: 7}, {Y: 8}}}
		if got, ok := impl.DecodePair(a, b); !ok || !samePicture(got, want) {
			t.Errorf("DecodePair(%v, %v) = %v, %t, want %v", a, b, got, ok, want)
		}
	}
	good := lineWithCells(evenBurst, cells)
	check(good, good)
	check(good, lineWithCells(evenBurst, cells))
	check(good, lineWithCells(-evenBurst, cells))
	check(good, lineWithCells(0, cells))
	check(lineWithCells(0, cells), lineWithCells(0, cells))
	for _, line := range brokenBursts() {
		line = slices.Concat(line[:24], cells)
		check(line, good)
		check(good, line)
		check(line, line)
	}
}

// refusePair reports if DecodePair or TakePair gives rows of the lines.
func refusePair(t *testing.T, a, b []float32, name string) {
	t.Helper()
	if got, ok := impl.DecodePair(a, b); ok || len(got) != 0 {
		t.Errorf("DecodePair = %v, %t: %s", got, ok, name)
	}
	for _, least := range []float32{0, 100, infinite, notANumber} {
		for _, k := range []float32{0, 1, notANumber} {
			if got, ok := impl.TakePair(a, b, least, k); ok || len(got) != 0 {
				t.Errorf("TakePair with %v and %v = %v, %t: %s", least, k, got, ok, name)
			}
		}
	}
}

func TestDecodePairInvalid(t *testing.T) {
	even, odd := impl.MakeLine(greyRow(5), false), impl.MakeLine(greyRow(5), true)
	for name, line := range brokenLines() {
		refusePair(t, line, odd, "the first one is: "+name)
		refusePair(t, even, line, "the second one is: "+name)
		refusePair(t, line, line, "both are: "+name)
	}
	for i, line := range refusedLines() {
		name := "refused line " + impl.FormatInt(i)
		refusePair(t, line, odd, "the first one is "+name)
		refusePair(t, line, even, "the first one, that does not swing, is "+name)
		refusePair(t, even, slices.Concat(odd[:24], line[24:]), "the second one is "+name)
		refusePair(t, line, slices.Concat(odd[:24], line[24:]), "both are "+name)
	}
}

func TestDecodePairOfOtherNumbersOfCells(t *testing.T) {
	r := rand.New(rand.NewPCG(7, 7))
	for cells := 1; cells <= impl.MaxCells; cells++ {
		for _, others := range []int{1, 2, cells - 1, cells + 1, impl.MaxCells} {
			if others < 1 || others > impl.MaxCells || others == cells {
				continue
			}
			row, other := plainRow(r, cells), plainRow(r, others)
			name := impl.FormatInt(cells) + " cells and " + impl.FormatInt(others)
			refusePair(t, impl.MakeLine(row, false), impl.MakeLine(other, true), name)
			refusePair(t, impl.MakeLine(row, true), impl.MakeLine(other, false), name)
			refusePair(t, impl.MakeLine(row, false), impl.MakeLine(other, false), name+", without a swing")
		}
	}
}

func TestPairsHaveMemoryOfTheirOwn(t *testing.T) {
	r := rand.New(rand.NewPCG(7, 8))
	for _, cells := range []int{1, 3, impl.MaxCells} {
		even := roomy(impl.MakeLine(streamRows(r, 1, cells)[0], false), countingSamples(300)...)
		odd := roomy(impl.MakeLine(streamRows(r, 1, cells)[0], true), countingSamples(300)...)
		for _, lines := range [][2][]float32{{even, odd}, {odd, even}, {even, even}} {
			a, b := lines[0], lines[1]
			checkMemory(t, "DecodePair", func() any { rows, _ := impl.DecodePair(a, b); return rows }, a, b)
			checkMemory(t, "TakePair", func() any { rows, _ := impl.TakePair(a, b, 0.5, 2); return rows }, a, b)
			checkMemory(t, "TakePair of a pair that is killed", func() any { rows, _ := impl.TakePair(a, b, 2, 2); return rows }, a, b)
		}
	}
}

func TestPairsChangeNoArgument(t *testing.T) {
	r := rand.New(rand.NewPCG(7, 9))
	broken := slices.Repeat([]float32{notANumber}, 32)
	lines := [][]float32{impl.MakeLine(greyRow(5), false), impl.MakeLine(greyRow(2), true), someLine(r, 2), refusedLines()[0], brokenBursts()[0], broken, nil}
	for i := range lines {
		lines[i] = roomy(lines[i], countingSamples(300)...)
	}
	before := memoryOf(lines)
	for _, a := range lines {
		impl.DecodeAlone(a, true)
		for _, b := range lines {
			impl.DecodePair(a, b)
			impl.IsKilled(a, b, 0.5)
			impl.TakePair(a, b, 0.5, 1)
			impl.TakePair(a, b, 0.5, 1e30)
		}
	}
	if memoryOf(lines) != before {
		t.Error("an argument was changed")
	}
}
