package tests

import (
	"math/rand/v2"
	"slices"
	"testing"

	"loop.example/g03326/impl"
)

// checkReceive reports if Receive does not give what the document describes, and returns whether
// there is a picture.
func checkReceive(t *testing.T, s impl.Set, stream []float32) bool {
	t.Helper()
	want, wantOk := receivedPicture(s, stream)
	got, ok := impl.Receive(s, stream)
	if ok != wantOk || !samePicture(got, want) {
		t.Errorf("Receive(%v, %v) = %v, %t, want %v, %t", s, stream, got, ok, want, wantOk)
	}
	return ok
}

// refuseReceive reports if Receive gives a picture, or the document describes one.
func refuseReceive(t *testing.T, s impl.Set, stream []float32, name string) {
	t.Helper()
	if got, ok := impl.Receive(s, stream); ok || len(got) != 0 {
		t.Errorf("Receive(%v, %v) = %v, %t: %s", s, stream, got, ok, name)
	}
	if want, ok := receivedPicture(s, stream); ok {
		t.Errorf("Receive(%v, %v) is described as %v: %s", s, stream, want, name)
	}
}

// sentBy returns the lines of a picture, of which each two come through the next one of the
// channels.
func sentBy(p [][]impl.Cell, channels ...impl.Channel) [][]float32 {
	lines := make([][]float32, len(p))
	for i := range lines {
		stream, _ := impl.Studio(p, channels[i/2%len(channels)])
		length := len(stream) / len(p)
		lines[i] = slices.Clone(stream[i*length : (i+1)*length])
	}
	return lines
}

// somePassage returns one of the channels that the promise of the set names.
func somePassage(r *rand.Rand) impl.Channel {
	a := []float32{0.5, 1, 2}[r.IntN(3)]
	x, y := []float32{0.5, 1, -0.5, -1}[r.IntN(4)], float32(r.IntN(9)-4)/4
	return impl.Channel{A: a, Offset: float32(r.IntN(65)-32) / 8, G: complex(a*x, a*y)}
}

func TestReceive(t *testing.T) {
	pulse := slices.Repeat([]float32{-126}, 8)
	even, odd := slices.Repeat([]float32{-14, -14, 18, 18}, 4), slices.Repeat([]float32{-14, 18, 18, -14}, 4)
	stream := slices.Concat(
		pulse, even, []float32{23, 20, 21, 24}, // 10 and 1+2i, even
		pulse, odd, []float32{43, 44, 41, 40}, // 20 and 1+2i, odd
		pulse, odd, []float32{62, 58, 62, 66}, // 30 and -4i, odd
		pulse, even, []float32{82, 86, 82, 78}, // 40 and -4i, even
	)
	cell := func(y float32, c complex64) impl.Cell { return impl.Cell{Y: y, C: c} }
	want := [][]impl.Cell{{cell(10, 1+2i)}, {cell(30, -4i)}, {cell(20, 1+2i)}, {cell(40, -4i)}}
	got, ok := impl.Receive(newSet(1, 4), stream)
	if !ok || !impl.SameRows(got, want) {
		t.Errorf("Receive(%v) = %v, %t, want %v", stream, got, ok, want)
	}
	checkReceive(t, newSet(1, 4), stream)
}

func TestReceiveOfEachSize(t *testing.T) {
	r := rand.New(rand.NewPCG(8, 7))
	for rows := 4; rows <= impl.MaxRows; rows += 4 {
		for _, cells := range []int{1, 2, 3 + r.IntN(60), 63, 64} {
			p := linkedPicture(r, rows, cells)
			stream, _ := impl.Studio(p, somePassage(r))
			got, ok := impl.Receive(newSet(cells, rows), stream)
			if !ok || !impl.SameRows(got, p) {
				t.Errorf("%v is received as %v, %t", p, got, ok)
			}
			checkReceive(t, newSet(cells, rows), stream)
		}
	}
}

func TestReceiveOfTooFewAndTooManyLines(t *testing.T) {
	r := rand.New(rand.NewPCG(8, 8))
	p := linkedPicture(r, 8, 2)
	lines := sentBy(p, somePassage(r))
	s := newSet(2, 8)
	for n := range lines {
		refuseReceive(t, s, slices.Concat(lines[:n]...), "fewer lines")
		refuseReceive(t, s, slices.Concat(lines[n+1:]...), "fewer lines")
	}
	refuseReceive(t, s, nil, "nil")
	refuseReceive(t, s, []float32{}, "empty")
	stream := slices.Concat(lines...)
	refuseReceive(t, s, stream[:len(stream)-1], "one sample less")
	for _, n := range []int{1, 2, 3, 4, 8} {
		refuseReceive(t, s, slices.Concat(stream, slices.Concat(lines[:n]...)), "more lines")
	}
	for _, rows := range []int{4, 12, 16, 64} {
		refuseReceive(t, newSet(2, rows), stream, "another number of rows")
	}
	// What is no line does not count, but missed lines do.
	for _, n := range []int{0, 1, 7, 31, 32, 33, 63, 64, 96, 200} {
		blank := make([]float32, n)
		got, ok := impl.Receive(s, slices.Concat(blank, stream))
		if !ok || !impl.SameRows(got, p) {
			t.Errorf("behind %d samples, %v is received as %v, %t", n, p, got, ok)
		}
		if n < 32 {
			got, ok = impl.Receive(s, slices.Concat(stream, blank))
			if !ok || !impl.SameRows(got, p) {
				t.Errorf("with %d samples behind it, %v is received as %v, %t", n, p, got, ok)
			}
		} else {
			refuseReceive(t, s, slices.Concat(stream, blank), "a line without a pulse behind")
		}
	}
}

func TestReceiveOfLongStreams(t *testing.T) {
	r := rand.New(rand.NewPCG(8, 9))
	p := linkedPicture(r, impl.MaxRows, impl.MaxCells)
	stream, _ := impl.Studio(p, sound)
	s := newSet(impl.MaxCells, impl.MaxRows)
	for n, want := range map[int]bool{0: true, impl.MaxStream - len(stream): true, impl.MaxStream - len(stream) + 1: false, 30000: false} {
		if got, ok := impl.Receive(s, slices.Concat(make([]float32, n), stream)); ok != want || ok && !impl.SameRows(got, p) {
			t.Errorf("behind %d samples, there is a picture: %t", n, ok)
		}
	}
}

func TestReceiveOfSamplesThatAreNotValid(t *testing.T) {
	r := rand.New(rand.NewPCG(8, 10))
	p := linkedPicture(r, 4, 1)
	lines := sentBy(p, impl.Channel{A: 1, Offset: 2, G: 1 + 0.5i})
	s := newSet(1, 4)
	for _, x := range samplesNoLineHas {
		for at := range 28 * 4 {
			stream := slices.Concat(lines...)
			stream[at] = x
			checkReceive(t, s, stream)
			if at%28 >= 8 {
				refuseReceive(t, s, stream, floatText(x)+" at "+impl.FormatInt(at))
			}
		}
		// The set does not look at what is no line.
		if x > -24 || x != x {
			stream := slices.Concat([]float32{x, x, x, x, x, x}, slices.Concat(lines...), []float32{x, x, x, x, x, x})
			if got, ok := impl.Receive(s, stream); !ok || !impl.SameRows(got, p) {
				t.Errorf("with %v ahead and behind, %v is received as %v, %t", x, p, got, ok)
			}
		}
	}
}

func TestReceiveGoesOnOverGaps(t *testing.T) {
	r := rand.New(rand.NewPCG(8, 11))
	p := linkedPicture(r, 12, 2)
	s := newSet(2, 12)
	// With this offset a line without its pulse has levels, too: it becomes 4 times as high.
	stream := slices.Concat(sentBy(p, impl.Channel{A: 1, Offset: 16, G: 1})...)
	for first := range 12 {
		for n := range 12 - first {
			weak := slices.Clone(stream)
			for i := range n {
				weak = impl.Erase(weak, 32*(first+i), impl.SyncLen)
			}
			ok := checkReceive(t, s, weak)
			if want := n == 0 || first > 0 && n <= 3; ok != want {
				t.Errorf("with %d pulses erased from line %d on, there is a picture: %t", n, first, ok)
			}
		}
	}
	// Without the offset such a line can't be brought to level.
	stream = slices.Concat(sentBy(p, sound)...)
	for line := range 12 {
		refuseReceive(t, s, impl.Erase(stream, 32*line, impl.SyncLen), "an erased pulse")
		// With half of its pulse it becomes twice as high.
		if got := checkReceive(t, s, impl.Erase(stream, 32*line+2, 4)); got != (line > 0) {
			t.Errorf("with half of the pulse of line %d, there is a picture: %t", line, got)
		}
	}
	// A line without levels is refused even if its pair would be killed.
	s.Least = 16
	refuseReceive(t, s, impl.Erase(stream, 32, impl.SyncLen), "an erased pulse, and all pairs killed")
}

func TestReceiveOfLinesOfOtherLengths(t *testing.T) {
	r := rand.New(rand.NewPCG(8, 12))
	for range 200 {
		cells := 2 + r.IntN(20)
		p := linkedPicture(r, 8, cells)
		stream, _ := impl.Studio(p, somePassage(r))
		for _, other := range []int{cells - 1, cells + 1, cells + 2, 1 + r.IntN(64), 64} {
			if other != cells {
				refuseReceive(t, newSet(other, 8), stream, "lines of another length")
				checkReceive(t, newSet(other, 4), stream)
			}
		}
		// Two lines are as long as one with so many cells. Those that the set finds are all even.
		got, ok := impl.Receive(newSet(2*cells+6, 4), stream)
		if !ok || len(got) != 4 || !samePicture(got, greyed(got)) || got[3][0].Y != p[5][0].Y {
			t.Errorf("in %v, a set of larger rows sees %v, %t", stream, got, ok)
		}
	}
}

func TestReceiveOfLinesThatAreEarlyAndLate(t *testing.T) {
	r := rand.New(rand.NewPCG(8, 20))
	p := linkedPicture(r, 4, 3)
	lines := sentBy(p, somePassage(r))
	for away := range 5 {
		late := slices.Concat(lines[0], make([]float32, away), lines[1], lines[2], make([]float32, away), lines[3])
		got, ok := impl.Receive(newSet(3, 4), late)
		if want := away <= 3; ok != want || ok && !impl.SameRows(got, p) {
			t.Errorf("with lines %d samples late, %v is received as %v, %t", away, p, got, ok)
		}
		checkReceive(t, newSet(3, 4), late)
	}
	for away := range 5 {
		long := append(slices.Clone(lines[0]), lines[0][24:24+away]...)
		checkReceive(t, newSet(3, 4), slices.Concat(long, lines[1], lines[2], lines[3]))
		checkReceive(t, newSet(3, 4), slices.Concat(lines[0][:36-away], lines[1], lines[2], lines[3]))
	}
}

func TestReceiveOfLinesThatCannotBeBroughtToLevel(t *testing.T) {
	r := rand.New(rand.NewPCG(8, 13))
	p := linkedPicture(r, 8, 3)
	s := newSet(3, 8)
	for line := range 8 {
		lines := sentBy(p, sound)
		for i := range 16 {
			lines[line][8+i] = -64
		}
		refuseReceive(t, s, slices.Concat(lines...), "black is as low as the pulse")
		lines = sentBy(p, sound)
		for i := range 8 {
			lines[line][i] = -32
		}
		lines[line][35] = 513
		refuseReceive(t, s, slices.Concat(lines...), "a sample becomes too large")
		lines[line][35] = 250
		if !checkReceive(t, s, slices.Concat(lines...)) {
			t.Errorf("a lower pulse of line %d is refused", line)
		}
	}
}

func TestReceiveOfPairsThatAreRefused(t *testing.T) {
	r := rand.New(rand.NewPCG(8, 14))
	// This channel leaves nothing of the real part of a gain.
	withoutGain := impl.Channel{A: 1, G: 1i}
	for pair := range 4 {
		p := linkedPicture(r, 8, 3)
		lines, broken := sentBy(p, sound), sentBy(p, withoutGain)
		copy(lines[2*pair:2*pair+2], broken[2*pair:])
		stream := slices.Concat(lines...)
		s := newSet(3, 8)
		for _, least := range []float32{16, 0.125, 1e-45, negativeZero, 0} {
			s.Least = least
			if got := checkReceive(t, s, stream); got != (least > 0) {
				t.Errorf("with a pair without a gain and the least %v, there is a picture: %t", least, got)
			}
		}
		// A colour becomes too large, of one pair alone.
		p[[]int{0, 4, 1, 5}[pair]][2].C, p[[]int{2, 6, 3, 7}[pair]][2].C = 18, 18
		stream = slices.Concat(sentBy(p, sound)...)
		s.Sat = 16
		refuseReceive(t, s, stream, "a colour of 288")
		s.Sat = 14
		if !checkReceive(t, s, stream) {
			t.Error("a colour of 252 is refused")
		}
	}
}

func TestReceiveWithSetsThatAreNotValid(t *testing.T) {
	// Without colours no saturation would be too great.
	stream, _ := impl.Studio(greyPicture(8, 3), sound)
	if _, ok := impl.Receive(newSet(3, 8), stream); !ok {
		t.Error("a picture is refused")
	}
	for _, s := range brokenSets() {
		refuseReceive(t, s, stream, "a set that is not valid")
		refuseReceive(t, s, nil, "a set that is not valid, and no stream")
	}
	// With a great slice all samples are low, so that there is one pulse, and three are missed.
	stream, _ = impl.Studio(greyPicture(4, 3), sound)
	for slice, want := range map[float32]bool{1024: true, above(1024): false, 1e30: false, infinite: false} {
		s := newSet(3, 4)
		s.Slice = slice
		if got := checkReceive(t, s, stream); got != want {
			t.Errorf("with the slice %v, there is a picture: %t", slice, got)
		}
	}
}

func TestReceiveThatKillsPairs(t *testing.T) {
	r := rand.New(rand.NewPCG(8, 15))
	channel := func(x float32) impl.Channel { return impl.Channel{A: 1, G: complex(x, 0.25)} }
	p := linkedPicture(r, 8, 3)
	stream := slices.Concat(sentBy(p, channel(1), channel(-0.25), channel(0.0625), channel(0.5))...)
	// The pairs are the rows 0 and 2, 4 and 6, 1 and 3, and 5 and 7.
	amountOf := []float32{1, 0.0625, 1, 0.0625, 0.25, 0.5, 0.25, 0.5}
	for _, least := range []float32{0, negativeZero, 0.0625, 0.1, 0.125, 0.25, above(0.25), 0.5, 0.75, 1, above(1), 2, 16} {
		s := newSet(3, 8)
		s.Least = least
		want := make([][]impl.Cell, 8)
		for i, row := range p {
			want[i] = slices.Clone(row)
			if amountOf[i] < least {
				want[i] = greyed([][]impl.Cell{row})[0]
			}
		}
		got, ok := impl.Receive(s, stream)
		if !ok || !impl.SameRows(got, want) {
			t.Errorf("with the least %v, there is %v, %t, want %v", least, got, ok, want)
		}
		checkReceive(t, s, stream)
	}
}

func TestReceiveKillsPairsThatDoNotSwing(t *testing.T) {
	r := rand.New(rand.NewPCG(8, 21))
	p := linkedPicture(r, 8, 3)
	for pair := range 4 {
		lines := sentBy(p, sound)
		first, second := []int{0, 4, 1, 5}[pair], []int{2, 6, 3, 7}[pair]
		odd := r.IntN(2) == 0
		lines[2*pair], lines[2*pair+1] = impl.MakeLine(p[first], odd), impl.MakeLine(p[second], odd)
		want := slices.Clone(p)
		want[first], want[second] = greyed(p[first : first+1])[0], greyed(p[second : second+1])[0]
		s := newSet(3, 8)
		s.Least = 0
		stream := slices.Concat(lines...)
		if got, ok := impl.Receive(s, stream); !ok || !impl.SameRows(got, want) {
			t.Errorf("with pair %d that does not swing, %v is received as %v, %t", pair, p, got, ok)
		}
		checkReceive(t, s, stream)
	}
}

func TestReceiveWithEachSaturation(t *testing.T) {
	r := rand.New(rand.NewPCG(8, 16))
	for _, sat := range []float32{0, negativeZero, 0.5, 1, 2, 0.1, 3.3, 16} {
		p := linkedPicture(r, 8, 3)
		s := newSet(3, 8)
		s.Sat = sat
		stream, _ := impl.Studio(p, somePassage(r))
		got, ok := impl.Receive(s, stream)
		want, fine := scaledRows(p, sat)
		if !ok || !fine || !impl.SameRows(got, want) {
			t.Errorf("with the saturation %v, there is %v, %t, want %v", sat, got, ok, want)
		}
		checkReceive(t, s, stream)
	}
}

func TestReceiveWithEachSlice(t *testing.T) {
	r := rand.New(rand.NewPCG(8, 17))
	p := linkedPicture(r, 4, 2)
	// The pulses are at -20.
	low, _ := impl.Studio(p, impl.Channel{A: 0.5, Offset: 12, G: 0.25})
	// Ahead of the first pulse, at -64, some samples are at -30.
	high := append(slices.Repeat([]float32{-30}, 5), slices.Repeat([]float32{0}, 5)...)
	high = append(high, slices.Concat(sentBy(p, sound)...)...)
	cases := []struct {
		slice  float32
		stream []float32
		want   bool
	}{
		{-24, low, false}, {-above(20), low, false}, {-20, low, true}, {-16, low, true}, {-64, low, false},
		{-24, high, false}, {-30, high, false}, {-above(30), high, true}, {-40, high, true}, {-64, high, true}, {-above(64), high, false},
		{-1024, high, false}, {1024, high, false}, {1024, high[10:], true}, {-1024, low, false}, {1024, low, true},
	}
	for _, c := range cases {
		s := newSet(2, 4)
		s.Slice = c.slice
		got, ok := impl.Receive(s, c.stream)
		if ok != c.want || ok && c.slice < 0 && !impl.SameRows(got, p) {
			t.Errorf("with the slice %v, %v is received as %v, %t", c.slice, p, got, ok)
		}
		checkReceive(t, s, c.stream)
	}
}

// damaged returns a stream that was changed in some way, or not at all.
func damaged(r *rand.Rand, stream []float32, length int) []float32 {
	stream = slices.Clone(stream)
	at := r.IntN(len(stream))
	switch line := at / length * length; r.IntN(9) {
	case 0:
		return impl.Erase(stream, line, impl.SyncLen)
	case 1:
		stream[at] = (r.Float32()*2 - 1) * 1024
	case 2:
		return slices.Delete(stream, at, min(at+r.IntN(6), len(stream)))
	case 3:
		return slices.Insert(stream, at, make([]float32, r.IntN(6))...)
	case 4:
		return stream[:at]
	case 5:
		stream[line+8+r.IntN(16)] += r.Float32() * 100
	case 6:
		stream[at] = manyNumbers[r.IntN(len(manyNumbers))]
	}
	return stream
}

func TestReceiveOfSomeStreams(t *testing.T) {
	r := rand.New(rand.NewPCG(8, 18))
	seen := [2]int{}
	for range 5000 {
		s := newSet(1+r.IntN(4), 4*(1+r.IntN(3)))
		s.Least, s.Sat = []float32{0, 0.125, r.Float32()}[r.IntN(3)], []float32{1, r.Float32() * 3, r.Float32() * 16}[r.IntN(3)]
		s.Slice = []float32{-24, -64 * r.Float32(), -40}[r.IntN(3)]
		p := linkedPicture(r, s.Rows, s.Cells)
		for i := range p {
			for k := range p[i] {
				p[i][k].C += complex(r.Float32()*32-16, 0)
			}
		}
		ch := impl.Channel{A: 0.25 + r.Float32()*4, Offset: r.Float32()*32 - 16, G: complex(r.Float32()*4-2, r.Float32()*4-2)}
		length := 24 + 4*s.Cells
		stream := slices.Concat(sentBy(p, ch, somePassage(r))...)
		if checkReceive(t, s, damaged(r, stream, length)) {
			seen[1]++
		} else {
			seen[0]++
		}
	}
	if slices.Min(seen[:]) < 1000 {
		t.Errorf("of the streams tried, %v were refused and received", seen)
	}
}

func TestReceivedPicturesHaveMemoryOfTheirOwn(t *testing.T) {
	r := rand.New(rand.NewPCG(8, 19))
	for _, rows := range []int{4, 8, impl.MaxRows} {
		s := newSet(3, rows)
		s.Log = roomy(logOf(3), "behind")
		stream, _ := impl.Studio(linkedPicture(r, rows, 3), somePassage(r))
		stream = roomy(stream, countingSamples(300)...)
		for _, least := range []float32{0.125, 16} {
			s.Least = least
			checkMemory(t, "Receive", func() any { p, _ := impl.Receive(s, stream); return p }, s, stream)
		}
		for _, short := range [][]float32{nil, stream[:40], stream[:len(stream)-1], impl.Erase(stream, 36, 8)} {
			short = roomy(short, countingSamples(300)...)
			before := memoryOf([]any{s, short})
			impl.Receive(s, short)
			impl.Receive(impl.Set{Log: s.Log}, short)
			if memoryOf([]any{s, short}) != before {
				t.Error("Receive changes an argument")
			}
		}
	}
}
