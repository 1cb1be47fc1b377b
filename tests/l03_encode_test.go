package tests

import (
	"math/rand/v2"
	"testing"

	"loop.example/g03326/impl"
)

func TestEncodeCells(t *testing.T) {
	zero := negativeZero
	cases := []struct {
		cell      impl.Cell
		even, odd [4]float32
	}{
		{impl.Cell{Y: 10, C: 3 + 2i}, [4]float32{13, 8, 7, 12}, [4]float32{13, 12, 7, 8}},
		{impl.Cell{Y: -1, C: -3 - 2i}, [4]float32{-4, 1, 2, -3}, [4]float32{-4, -3, 2, 1}},
		{impl.Cell{}, [4]float32{0, 0, 0, 0}, [4]float32{0, 0, 0, 0}},
		{impl.Cell{Y: zero, C: complex(zero, zero)}, [4]float32{zero, 0, 0, zero}, [4]float32{zero, zero, 0, 0}},
		{impl.Cell{Y: zero, C: 0}, [4]float32{0, zero, zero, 0}, [4]float32{0, 0, zero, zero}},
		{impl.Cell{Y: 0, C: complex(zero, zero)}, [4]float32{}, [4]float32{}},
		{impl.Cell{Y: 5, C: 5 + 5i}, [4]float32{10, 0, 0, 10}, [4]float32{10, 10, 0, 0}},
		{impl.Cell{Y: 256, C: 256 - 256i}, [4]float32{512, 512, 0, 0}, [4]float32{512, 0, 0, 512}},
		{impl.Cell{Y: -256, C: -256 + 256i}, [4]float32{-512, -512, 0, 0}, [4]float32{-512, 0, 0, -512}},
		{impl.Cell{Y: 0, C: complex(1e-45, -1e-45)}, [4]float32{1e-45, 1e-45, -1e-45, -1e-45}, [4]float32{1e-45, -1e-45, -1e-45, 1e-45}},
		// Sums halfway between two numbers are rounded to the even one.
		{impl.Cell{Y: above(128), C: complex(128, 0)}, [4]float32{256, above(128), 1.5258789e-05, above(128)}, [4]float32{256, above(128), 1.5258789e-05, above(128)}},
		{impl.Cell{Y: 200.5, C: complex(1e-30, 100)}, [4]float32{200.5, 100.5, 200.5, 300.5}, [4]float32{200.5, 300.5, 200.5, 100.5}},
	}
	for _, c := range cases {
		row := []impl.Cell{{Y: 1, C: 2 + 4i}, c.cell}
		if got, want := impl.EncodeCells(row, false), append([]float32{3, -3, -1, 5}, c.even[:]...); !sameSamples(got, want) {
			t.Errorf("EncodeCells(%v, false) = %v, want %v", row, got, want)
		}
		if got, want := impl.EncodeCells(row, true), append([]float32{3, 5, -1, -3}, c.odd[:]...); !sameSamples(got, want) {
			t.Errorf("EncodeCells(%v, true) = %v, want %v", row, got, want)
		}
	}
}

// encoded returns the samples of a row as the document describes them.
func encoded(row []impl.Cell, odd bool) []float32 {
	var samples []float32
	for _, c := range row {
		re, im := real(c.C), imag(c.C)
		if odd {
			im = -im
		}
		samples = append(samples, sum(c.Y, re), sum(c.Y, -im), sum(c.Y, -re), sum(c.Y, im))
	}
	return samples
}

func TestEncodeCellsOfSomeRows(t *testing.T) {
	r := rand.New(rand.NewPCG(3, 3))
	for cells := 1; cells <= impl.MaxCells; cells++ {
		row := someRow(r, cells)
		for _, odd := range []bool{false, true} {
			if got, want := impl.EncodeCells(row, odd), encoded(row, odd); !sameSamples(got, want) {
				t.Errorf("EncodeCells(%v, %t) = %v, want %v", row, odd, got, want)
			}
		}
		odd, conjugate := impl.EncodeCells(row, true), impl.EncodeCells(impl.Conjugate(row), false)
		if !sameSamples(odd, conjugate) {
			t.Errorf("%v is encoded, if it is odd, as %v, and its conjugate as %v", row, odd, conjugate)
		}
	}
}

func TestEncodeCellsInvalid(t *testing.T) {
	for name, row := range brokenRows() {
		for _, odd := range []bool{false, true} {
			if got := impl.EncodeCells(row, odd); len(got) != 0 {
				t.Errorf("EncodeCells with odd %t = %v: %s", odd, got, name)
			}
		}
	}
}

func TestPlainRowsAreDecodedAsTheyWere(t *testing.T) {
	r := rand.New(rand.NewPCG(3, 4))
	for i := range 20 * impl.MaxCells {
		row := plainRow(r, 1+i%impl.MaxCells)
		for _, odd := range []bool{false, true} {
			got, ok := impl.DecodeCells(impl.EncodeCells(row, odd), odd)
			if !ok || !impl.SameRows([][]impl.Cell{got}, [][]impl.Cell{row}) {
				t.Errorf("%v is, encoded and decoded with odd %t, %v, %t", row, odd, got, ok)
			}
		}
	}
}
