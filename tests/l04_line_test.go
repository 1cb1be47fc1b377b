package tests

import (
	"math/rand/v2"
	"slices"
	"testing"

	"loop.example/g03326/impl"
)

func TestLineConstants(t *testing.T) {
	got := []int{impl.SyncLen, impl.SyncLevel, impl.BurstCells, impl.BurstLevel, impl.MaxSample}
	if !slices.Equal(got, []int{8, -64, 4, 16, 1024}) {
		t.Error("unexpected constants", got)
	}
}

func TestMakeLine(t *testing.T) {
	row := []impl.Cell{{Y: 10, C: 3 + 2i}, {Y: 1, C: 2 + 4i}}
	even := []float32{
		-64, -64, -64, -64, -64, -64, -64, -64,
		-16, -16, 16, 16, -16, -16, 16, 16, -16, -16, 16, 16, -16, -16, 16, 16,
		13, 8, 7, 12, 3, -3, -1, 5,
	}
	odd := []float32{
		-64, -64, -64, -64, -64, -64, -64, -64,
		-16, 16, 16, -16, -16, 16, 16, -16, -16, 16, 16, -16, -16, 16, 16, -16,
		13, 12, 7, 8, 3, 5, -1, -3,
	}
	if got := impl.MakeLine(row, false); !sameSamples(got, even) {
		t.Errorf("MakeLine(%v, false) = %v, want %v", row, got, even)
	}
	if got := impl.MakeLine(row, true); !sameSamples(got, odd) {
		t.Errorf("MakeLine(%v, true) = %v, want %v", row, got, odd)
	}
}

func TestMakeLineOfSomeRows(t *testing.T) {
	r := rand.New(rand.NewPCG(4, 1))
	for cells := 1; cells <= impl.MaxCells; cells++ {
		for _, row := range [][]impl.Cell{someRow(r, cells), plainRow(r, cells), greyRow(cells)} {
			for _, odd := range []bool{false, true} {
				got := impl.MakeLine(row, odd)
				if want := madeLine(row, odd); !sameSamples(got, want) {
					t.Errorf("MakeLine(%v, %t) = %v, want %v", row, odd, got, want)
				}
				if !impl.LineOk(got) {
					t.Errorf("MakeLine(%v, %t) is no valid line: %v", row, odd, got)
				}
			}
		}
	}
}

func TestMakeLineOfTheGreatestSamples(t *testing.T) {
	for _, row := range [][]impl.Cell{{{Y: 256, C: 256 + 256i}}, {{Y: -256, C: -256 - 256i}}} {
		for _, odd := range []bool{false, true} {
			if got, want := impl.MakeLine(row, odd), madeLine(row, odd); !sameSamples(got, want) || !impl.LineOk(got) {
				t.Errorf("MakeLine(%v, %t) = %v, want %v", row, odd, got, want)
			}
		}
	}
}

func TestMakeLineInvalid(t *testing.T) {
	for name, row := range brokenRows() {
		for _, odd := range []bool{false, true} {
			if got := impl.MakeLine(row, odd); len(got) != 0 {
				t.Errorf("MakeLine with odd %t = %v: %s", odd, got, name)
			}
		}
	}
}

func TestLineOkNumberOfSamples(t *testing.T) {
	for n := range 600 {
		want := n >= 28 && n <= 280 && n%4 == 0
		if got := impl.LineOk(make([]float32, n)); got != want {
			t.Errorf("LineOk of %d samples is %t", n, got)
		}
	}
	for _, n := range []int{4096, 20000, 20004} {
		if impl.LineOk(make([]float32, n)) {
			t.Errorf("LineOk of %d samples is true", n)
		}
	}
	if impl.LineOk(nil) {
		t.Error("LineOk(nil) is true")
	}
}

func TestLineOkLooksAtEachSample(t *testing.T) {
	valid := []float32{0, negativeZero, 1, -1, 1e-45, -1e-45, 257, -257, 1023.99994, -1023.99994, 1024, -1024}
	for _, cells := range []int{1, 2, impl.MaxCells} {
		for at := range 24 + 4*cells {
			line := make([]float32, 24+4*cells)
			for _, x := range valid {
				if line[at] = x; !impl.LineOk(line) {
					t.Errorf("LineOk is false with %g at %d", x, at)
				}
			}
			for _, x := range samplesNoLineHas {
				if line[at] = x; impl.LineOk(line) {
					t.Errorf("LineOk is true with %g at %d", x, at)
				}
			}
		}
	}
}

func TestLineOkDoesNotLookBehindTheLine(t *testing.T) {
	if !impl.LineOk(roomy(make([]float32, 280), notANumber, 1)) || impl.LineOk(roomy(make([]float32, 27), 1)) {
		t.Error("LineOk looks behind the line")
	}
}

func TestLineOkInvalid(t *testing.T) {
	for name, line := range brokenLines() {
		if impl.LineOk(line) {
			t.Errorf("LineOk is true: %s", name)
		}
	}
}

func TestPartsOfALine(t *testing.T) {
	line := countingSamples(32)
	if got := impl.PulseOf(line); !sameSamples(got, []float32{1, 2, 3, 4, 5, 6, 7, 8}) {
		t.Errorf("PulseOf(%v) = %v", line, got)
	}
	if got := impl.BurstOf(line); !sameSamples(got, []float32{9, 10, 11, 12, 13, 14, 15, 16, 17, 18, 19, 20, 21, 22, 23, 24}) {
		t.Errorf("BurstOf(%v) = %v", line, got)
	}
	if got := impl.CellsOf(line); !sameSamples(got, []float32{25, 26, 27, 28, 29, 30, 31, 32}) {
		t.Errorf("CellsOf(%v) = %v", line, got)
	}
}

func TestPulseBurstAndCellsAreTheLine(t *testing.T) {
	r := rand.New(rand.NewPCG(4, 2))
	for cells := 1; cells <= impl.MaxCells; cells++ {
		lines := append(brokenBursts()[:5], someLine(r, cells), impl.MakeLine(someRow(r, cells), cells%2 == 0))
		for _, line := range lines {
			pulse, burst, rest := impl.PulseOf(line), impl.BurstOf(line), impl.CellsOf(line)
			if len(pulse) != 8 || len(burst) != 16 || !sameSamples(slices.Concat(pulse, burst, rest), line) {
				t.Errorf("%v has the parts %v, %v and %v", line, pulse, burst, rest)
			}
		}
	}
}

func TestPartsOfMadeLines(t *testing.T) {
	r := rand.New(rand.NewPCG(4, 3))
	for cells := 1; cells <= impl.MaxCells; cells++ {
		row := someRow(r, cells)
		for _, odd := range []bool{false, true} {
			line, want := impl.MakeLine(row, odd), impl.EncodeCells(row, odd)
			if got := impl.CellsOf(line); !sameSamples(got, want) {
				t.Errorf("CellsOf(%v) = %v, want %v", line, got, want)
			}
			burst := slices.Repeat([]impl.Cell{{C: -16 + 16i}}, 4)
			if got, want := impl.BurstOf(line), impl.EncodeCells(burst, odd); !sameSamples(got, want) {
				t.Errorf("BurstOf(%v) = %v, want %v", line, got, want)
			}
		}
	}
}

func TestPartsInvalid(t *testing.T) {
	for name, line := range brokenLines() {
		pulse, burst, cells := impl.PulseOf(line), impl.BurstOf(line), impl.CellsOf(line)
		if len(pulse) != 0 || len(burst) != 0 || len(cells) != 0 {
			t.Errorf("the parts are %v, %v and %v: %s", pulse, burst, cells, name)
		}
	}
}

func TestLinesHaveMemoryOfTheirOwn(t *testing.T) {
	r := rand.New(rand.NewPCG(4, 4))
	for _, cells := range []int{1, 3, impl.MaxCells} {
		row := roomy(someRow(r, cells), someRow(r, 2)...)
		line := roomy(someLine(r, cells), countingSamples(300)...)
		for _, odd := range []bool{false, true} {
			checkMemory(t, "MakeLine", func() any { return impl.MakeLine(row, odd) }, row)
		}
		checkMemory(t, "PulseOf", func() any { return impl.PulseOf(line) }, line)
		checkMemory(t, "BurstOf", func() any { return impl.BurstOf(line) }, line)
		checkMemory(t, "CellsOf", func() any { return impl.CellsOf(line) }, line)
	}
}

func TestPartsThatAreAppendedToChangeNoOther(t *testing.T) {
	line := countingSamples(32)
	pulse, burst, cells := impl.PulseOf(line), impl.BurstOf(line), impl.CellsOf(line)
	others := countingSamples(400)
	_, _, _ = append(pulse, others...), append(burst, 7), append(cells, others[:20]...)
	_, _ = append(pulse, 5), append(burst, others...)
	if !sameSamples(line, countingSamples(32)) || !sameSamples(slices.Concat(pulse, burst, cells), line) {
		t.Errorf("after something was appended, the parts are %v, %v and %v, and the line is %v", pulse, burst, cells, line)
	}
}
