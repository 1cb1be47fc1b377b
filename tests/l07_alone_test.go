package tests

import (
	"math/rand/v2"
	"slices"
	"testing"

	"loop.example/g03326/impl"
)

func TestDecodeAlone(t *testing.T) {
	zero := negativeZero
	cells := slices.Concat([]float32{13, 8, 7, 12, 3, 5, -1, -3}, coloured(complex(zero, zero), complex(zero, 0)), []float32{zero, zero, zero, zero})
	even := []impl.Cell{{Y: 10, C: 3 + 2i}, {Y: 1, C: 2 - 4i}, {C: complex(zero, zero)}, {C: complex(zero, 0)}, {Y: zero}}
	odd := []impl.Cell{{Y: 10, C: 3 - 2i}, {Y: 1, C: 2 + 4i}, {C: complex(zero, 0)}, {C: complex(zero, zero)}, {Y: zero, C: complex(0, zero)}}
	line := lineWithCells(evenBurst, cells)
	if got, ok := impl.DecodeAlone(line, false); !ok || !sameRow(got, even) {
		t.Errorf("DecodeAlone(%v, false) = %v, %t, want %v", line, got, ok, even)
	}
	if got, ok := impl.DecodeAlone(line, true); !ok || !sameRow(got, odd) {
		t.Errorf("DecodeAlone(%v, true) = %v, %t, want %v", line, got, ok, odd)
	}
}

// checkAlone reports if DecodeAlone does not give what the document describes, and returns whether
// there is a row.
func checkAlone(t *testing.T, line []float32, odd bool) bool {
	t.Helper()
	want := decodedAlone(line, odd)
	got, ok := impl.DecodeAlone(line, odd)
	if ok != (want != nil) || !sameRow(got, want) {
		t.Errorf("DecodeAlone(%v, %t) = %v, %t, want %v", line, odd, got, ok, want)
	}
	return ok
}

func TestDecodeAloneOfSomeLines(t *testing.T) {
	r := rand.New(rand.NewPCG(7, 1))
	seen := [2]int{}
	for cells := 1; cells <= impl.MaxCells; cells++ {
		for range 30 {
			line := slices.Concat(someLine(r, 1)[:24], cellsOfALine(r, cells))
			for _, odd := range []bool{false, true} {
				if checkAlone(t, line, odd) {
					seen[0]++
				}
				if !checkAlone(t, someLine(r, cells), odd) {
					seen[1]++
				}
			}
		}
	}
	if slices.Min(seen[:]) < 500 {
		t.Errorf("of the lines tried, %v were decoded and refused", seen)
	}
}

func TestDecodeAloneOfPlainLines(t *testing.T) {
	r := rand.New(rand.NewPCG(7, 2))
	for cells := 1; cells <= impl.MaxCells; cells++ {
		for _, odd := range []bool{false, true} {
			row := plainRow(r, cells)
			got, ok := impl.DecodeAlone(impl.MakeLine(row, odd), odd)
			if !ok || !slices.Equal(got, row) {
				t.Errorf("the line of %v with odd %t, decoded alone, is %v, %t", row, odd, got, ok)
			}
			other, ok := impl.DecodeAlone(impl.MakeLine(row, odd), !odd)
			if !ok || !slices.Equal(other, impl.Conjugate(row)) {
				t.Errorf("the line of %v with odd %t, decoded as if it were not, is %v, %t", row, odd, other, ok)
			}
		}
	}
}

func TestDecodeAloneLooksAtTheCellsAlone(t *testing.T) {
	line := impl.MakeLine([]impl.Cell{{Y: 7, C: 1 + 2i}, {Y: 8}}, false)
	want, _ := impl.DecodeAlone(line, false)
	for _, other := range brokenBursts() {
		other = slices.Concat([]float32{1024, -1024, 0, 5, 5, 5, 5, 5}, other[8:24], line[24:])
		if got, ok := impl.DecodeAlone(other, false); !ok || !sameRow(got, want) {
			t.Errorf("DecodeAlone(%v, false) = %v, %t, want %v", other, got, ok, want)
		}
	}
}

func TestDecodeAloneInvalid(t *testing.T) {
	for _, odd := range []bool{false, true} {
		for name, line := range brokenLines() {
			if got, ok := impl.DecodeAlone(line, odd); ok || len(got) != 0 {
				t.Errorf("DecodeAlone with odd %t = %v, %t: %s", odd, got, ok, name)
			}
		}
		for _, line := range refusedLines() {
			if got, ok := impl.DecodeAlone(line, odd); ok || len(got) != 0 {
				t.Errorf("DecodeAlone(%v, %t) = %v, %t", line, odd, got, ok)
			}
		}
	}
}

func TestRefusedLinesAreManyKinds(t *testing.T) {
	kinds := [3]int{}
	for _, line := range refusedLines() {
		for _, c := range decoded(line[24:], false) {
			for i, x := range []float32{c.Y, real(c.C), imag(c.C)} {
				if !(x >= -256 && x <= 256) {
					kinds[i]++
				}
			}
		}
	}
	if slices.Min(kinds[:]) < 3*3 {
		t.Errorf("lines are refused for %v brightnesses, real parts and imaginary parts", kinds)
	}
}

func TestRowsDecodedAloneHaveMemoryOfTheirOwn(t *testing.T) {
	r := rand.New(rand.NewPCG(7, 3))
	for _, cells := range []int{1, 3, impl.MaxCells} {
		for _, odd := range []bool{false, true} {
			line := roomy(impl.MakeLine(plainRow(r, cells), odd), countingSamples(300)...)
			checkMemory(t, "DecodeAlone", func() any { row, _ := impl.DecodeAlone(line, odd); return row }, line)
		}
	}
}
