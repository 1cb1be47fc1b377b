package tests

import (
	"math"
	"math/rand/v2"
	"testing"

	"loop.example/g03326/impl"
)

func TestDecodeCells(t *testing.T) {
	zero, big, over := negativeZero, float32(math.MaxFloat32), above(256)
	cases := []struct {
		four [4]float32
		cell impl.Cell
	}{
		{[4]float32{13, 8, 7, 12}, impl.Cell{Y: 10, C: 3 + 2i}},
		{[4]float32{1, 2, 4, 8}, impl.Cell{Y: 3.75, C: -1.5 + 3i}},
		{[4]float32{}, impl.Cell{}},
		{[4]float32{zero, zero, zero, zero}, impl.Cell{Y: zero}},
		{[4]float32{zero, 0, 0, zero}, impl.Cell{Y: 0, C: complex(zero, zero)}},
		{[4]float32{0, zero, zero, 0}, impl.Cell{}},
		{[4]float32{256, 256, 256, 256}, impl.Cell{Y: 256}},
		{[4]float32{-256, -256, -256, -256}, impl.Cell{Y: -256}},
		{[4]float32{256, -256, -256, 256}, impl.Cell{C: 256 + 256i}},
		{[4]float32{-256, 256, 256, -256}, impl.Cell{C: -256 - 256i}},
		{[4]float32{512, 512, 0, 0}, impl.Cell{Y: 256, C: 256 - 256i}},
		// The difference is halfway between two numbers and is rounded to the even one.
		{[4]float32{over, 0, -256, 0}, impl.Cell{Y: (over - 256) / 4, C: 256}},
		{[4]float32{0, -over, 0, 256}, impl.Cell{Y: (256 - over) / 4, C: 256i}},
		// Sums that are rounded: other orders have other sums.
		{[4]float32{16777216, -16777215, 16777216, -16777215}, impl.Cell{Y: 0.25}},
		{[4]float32{-16777215, 16777216, -16777215, 16777216}, impl.Cell{Y: 0.5}},
		{[4]float32{1e30, -1e30, 1e30, -1e30}, impl.Cell{}},
		{[4]float32{big, -big, big, -big}, impl.Cell{}},
		{[4]float32{-big, big, -big, big}, impl.Cell{}},
		// Quarters and halves of the smallest numbers are rounded to even.
		{[4]float32{1e-45, 1e-45, 0, 0}, impl.Cell{Y: 0, C: complex(0, zero)}},
		{[4]float32{1e-45, 1e-45, 1e-45, 0}, impl.Cell{Y: 1e-45, C: complex(0, zero)}},
		{[4]float32{3e-45, 0, -1e-45, 4e-45}, impl.Cell{Y: 1e-45, C: complex(3e-45, 3e-45)}},
	}
	for _, c := range cases {
		samples := append([]float32{3, -3, -1, 5}, c.four[:]...)
		want := []impl.Cell{{Y: 1, C: 2 + 4i}, c.cell}
		if got, ok := impl.DecodeCells(samples, false); !ok || !sameRow(got, want) {
			t.Errorf("DecodeCells(%v, false) = %v, %t, want %v", samples, got, ok, want)
		}
		for i := range want {
			want[i].C = complex(real(want[i].C), -imag(want[i].C))
		}
		if got, ok := impl.DecodeCells(samples, true); !ok || !sameRow(got, want) {
			t.Errorf("DecodeCells(%v, true) = %v, %t, want %v", samples, got, ok, want)
		}
	}
}

// decoded returns the row that the document describes, valid or not.
func decoded(samples []float32, odd bool) []impl.Cell {
	var row []impl.Cell
	for i := 0; i < len(samples); i += 4 {
		s, t, u, v := samples[i], samples[i+1], samples[i+2], samples[i+3]
		y := quotient(sum(sum(sum(s, t), u), v), 4)
		re, im := quotient(difference(s, u), 2), quotient(difference(v, t), 2)
		if odd {
			im = -im
		}
		row = append(row, impl.Cell{Y: y, C: complex(re, im)})
	}
	return row
}

// checkDecoded reports if DecodeCells does not give what the document describes, and returns
// whether there is a row.
func checkDecoded(t *testing.T, samples []float32, odd bool) bool {
	t.Helper()
	var want []impl.Cell
	if row := decoded(samples, odd); impl.RowOk(row) {
		want = row
	}
	got, ok := impl.DecodeCells(samples, odd)
	if ok != (want != nil) || !sameRow(got, want) {
		t.Errorf("DecodeCells(%v, %t) = %v, %t, want %v", samples, odd, got, ok, want)
	}
	return ok
}

func TestDecodeCellsOfSomeSamples(t *testing.T) {
	r := rand.New(rand.NewPCG(3, 5))
	for cells := 1; cells <= impl.MaxCells; cells++ {
		samples := impl.EncodeCells(someRow(r, cells), false)
		for _, odd := range []bool{false, true} {
			if !checkDecoded(t, samples, odd) {
				t.Errorf("DecodeCells(%v, %t) is false", samples, odd)
			}
		}
	}
	rows := 0
	for range 5000 {
		odd := r.IntN(2) == 0
		if checkDecoded(t, someCellSamples(r, 1+r.IntN(3)), odd) {
			rows++
		}
		checkDecoded(t, someSamples(r, 4+4*r.IntN(2)), odd)
	}
	if rows < 1000 {
		t.Errorf("of the samples tried, only %d have rows that are valid", rows)
	}
}

func TestDecodeCellsNumberOfSamples(t *testing.T) {
	for n := range 600 {
		for _, odd := range []bool{false, true} {
			got, ok := impl.DecodeCells(make([]float32, n), odd)
			want := n%4 == 0 && n >= 4 && n <= 4*impl.MaxCells
			if ok != want || want && len(got) != n/4 || !want && len(got) != 0 {
				t.Errorf("DecodeCells of %d samples with odd %t = %v, %t", n, odd, got, ok)
			}
		}
	}
	for _, n := range []int{4096, 20000, 20001} {
		if got, ok := impl.DecodeCells(make([]float32, n), false); ok || len(got) != 0 {
			t.Errorf("DecodeCells of %d samples = %v, %t", n, got, ok)
		}
	}
	if got, ok := impl.DecodeCells(nil, false); ok || len(got) != 0 {
		t.Errorf("DecodeCells(nil, false) = %v, %t", got, ok)
	}
}

func TestDecodeCellsInvalid(t *testing.T) {
	for _, four := range brokenCells() {
		for _, at := range []int{0, 1, 4} {
			samples := levelWithSamples(5, at, four)
			for _, odd := range []bool{false, true} {
				if got, ok := impl.DecodeCells(samples, odd); ok || len(got) != 0 {
					t.Errorf("DecodeCells(%v, %t) = %v, %t", samples, odd, got, ok)
				}
			}
		}
	}
}
