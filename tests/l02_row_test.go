package tests

import (
	"math/rand/v2"
	"slices"
	"testing"

	"loop.example/g03326/impl"
)

func TestMeanRow(t *testing.T) {
	cases := []struct{ a, b, want float32 }{
		{2, 4, 3}, {1, 2, 1.5}, {0, 0, 0}, {5, -5, 0}, {-3, -4, -3.5}, {256, 256, 256}, {-256, -256, -256}, {256, -256, 0},
		{256, 255.99998, 256}, {100, 1e-45, 50}, {negativeZero, negativeZero, negativeZero}, {negativeZero, 0, 0},
		// Halves of the smallest numbers are rounded to even: half of the sum is not the sum of the halves.
		{1e-45, 0, 0}, {1e-45, 1e-45, 1e-45}, {3e-45, 0, 1e-45}, {3e-45, 1e-45, 3e-45}, {-1e-45, 0, negativeZero}, {4e-45, 0, 3e-45},
	}
	for _, c := range cases {
		got, ok := impl.MeanRow(cellsWith(c.a), cellsWith(c.b))
		if want := cellsWith(c.want); !ok || !sameRow(got, want) {
			t.Errorf("MeanRow(%v, %v) = %v, %t, want %v", cellsWith(c.a), cellsWith(c.b), got, ok, want)
		}
	}
}

// mean is rounded twice, as the document asks for: sums of singles are exact enough as float64.
func mean(x, y float32) float32 { return float32(float64(float32(float64(x)+float64(y))) / 2) }

func TestMeanRowOfSomeRows(t *testing.T) {
	r := rand.New(rand.NewPCG(2, 2))
	for cells := 1; cells <= impl.MaxCells; cells++ {
		a, b := someRow(r, cells), someRow(r, cells)
		want := make([]impl.Cell, cells)
		for i := range want {
			re, im := mean(real(a[i].C), real(b[i].C)), mean(imag(a[i].C), imag(b[i].C))
			want[i] = impl.Cell{Y: mean(a[i].Y, b[i].Y), C: complex(re, im)}
		}
		got, ok := impl.MeanRow(a, b)
		turned, turnedOk := impl.MeanRow(b, a)
		same, sameOk := impl.MeanRow(a, a)
		if !ok || !sameRow(got, want) {
			t.Errorf("MeanRow(%v, %v) = %v, %t, want %v", a, b, got, ok, want)
		}
		if !turnedOk || !sameRow(turned, want) {
			t.Errorf("MeanRow(%v, %v) depends on the order: %v, %v", a, b, turned, want)
		}
		if !sameOk || !sameRow(same, a) {
			t.Errorf("MeanRow of %v and itself = %v, %t", a, same, sameOk)
		}
	}
}

func TestMeanRowInvalid(t *testing.T) {
	for name, row := range brokenRows() {
		for _, other := range [][]impl.Cell{greyRow(max(1, len(row))), greyRow(5), row} {
			if got, ok := impl.MeanRow(row, other); ok || len(got) != 0 {
				t.Errorf("MeanRow = %v, %t, first row: %s", got, ok, name)
			}
			if got, ok := impl.MeanRow(other, row); ok || len(got) != 0 {
				t.Errorf("MeanRow = %v, %t, second row: %s", got, ok, name)
			}
		}
	}
	for _, cells := range []int{1, 2, 4, 64} {
		if got, ok := impl.MeanRow(greyRow(cells), greyRow(3)); ok || len(got) != 0 {
			t.Errorf("MeanRow of %d cells and 3 = %v, %t", cells, got, ok)
		}
		if got, ok := impl.MeanRow(greyRow(3), greyRow(cells)); ok || len(got) != 0 {
			t.Errorf("MeanRow of 3 cells and %d = %v, %t", cells, got, ok)
		}
	}
}

func TestConjugate(t *testing.T) {
	r := rand.New(rand.NewPCG(2, 3))
	rows := [][]impl.Cell{{{Y: 2, C: 4 + 2i}}, {{Y: -1, C: -4 - 2i}, {}}, {{Y: negativeZero, C: complex(negativeZero, negativeZero)}}}
	for _, x := range levels {
		rows = append(rows, cellsWith(x))
	}
	for cells := 1; cells <= impl.MaxCells; cells++ {
		rows = append(rows, someRow(r, cells))
	}
	for _, row := range rows {
		want := slices.Clone(row)
		for i, c := range row {
			want[i].C = complex(real(c.C), -imag(c.C))
		}
		got := impl.Conjugate(row)
		if !sameRow(got, want) {
			t.Errorf("Conjugate(%v) = %v, want %v", row, got, want)
		}
		if twice := impl.Conjugate(got); !sameRow(twice, row) {
			t.Errorf("conjugated twice, %v is %v", row, twice)
		}
	}
}

func TestConjugateInvalid(t *testing.T) {
	for name, row := range brokenRows() {
		if got := impl.Conjugate(row); len(got) != 0 {
			t.Errorf("Conjugate = %v: %s", got, name)
		}
	}
}

func TestScaleRow(t *testing.T) {
	cases := []struct{ k, x, want float32 }{
		{0.5, 4, 2}, {2, -3, -6}, {-1, 4, -4}, {-1, 0, negativeZero}, {0, 7, 0}, {0, -7, negativeZero}, {negativeZero, 7, negativeZero},
		{2, 128, 256}, {-2, 128, -256}, {-1, -256, 256}, {0.1, 3, 0.3}, {0.1, 0.1, 0.010000001}, {0.5, 1e-45, 0}, {0.5, 4e-45, 3e-45},
		{1e38, 1e-37, 10}, {1e-45, 256, 3.59e-43}, {1e30, 0, 0}, {256, 1, 256},
		// The product is a little more than 256, and is rounded to it.
		{above(1), 255.99998, 256}, {-above(1), 255.99998, -256},
	}
	for _, c := range cases {
		row := []impl.Cell{{Y: 200.7, C: complex(c.x, 0)}, {Y: negativeZero, C: complex(0, c.x)}, {Y: -256, C: complex(c.x, c.x)}}
		nothing := 0 * c.k
		want := []impl.Cell{{Y: 200.7, C: complex(c.want, nothing)}, {Y: negativeZero, C: complex(nothing, c.want)}, {Y: -256, C: complex(c.want, c.want)}}
		if got, ok := impl.ScaleRow(row, c.k); !ok || !sameRow(got, want) {
			t.Errorf("ScaleRow(%v, %g) = %v, %t, want %v", row, c.k, got, ok, want)
		}
	}
}

func TestScaleRowOfSomeRows(t *testing.T) {
	r := rand.New(rand.NewPCG(2, 4))
	for cells := 1; cells <= impl.MaxCells; cells++ {
		row, k := someRow(r, cells), r.Float32()*2-1
		want := slices.Clone(row)
		for i, c := range row {
			// The product of two singles is exact as a float64.
			want[i].C = complex(float32(float64(real(c.C))*float64(k)), float32(float64(imag(c.C))*float64(k)))
		}
		if got, ok := impl.ScaleRow(row, k); !ok || !sameRow(got, want) {
			t.Errorf("ScaleRow(%v, %g) = %v, %t, want %v", row, k, got, ok, want)
		}
		if got, ok := impl.ScaleRow(row, 1); !ok || !sameRow(got, row) {
			t.Errorf("ScaleRow(%v, 1) = %v, %t", row, got, ok)
		}
	}
}

func TestScaleRowInvalid(t *testing.T) {
	for name, row := range brokenRows() {
		for _, k := range []float32{1, 0, 0.5, 1e-30, notANumber} {
			if got, ok := impl.ScaleRow(row, k); ok || len(got) != 0 {
				t.Errorf("ScaleRow by %g = %v, %t: %s", k, got, ok, name)
			}
		}
	}
}

func TestScaleRowWithAnInvalidResult(t *testing.T) {
	cases := []struct{ k, x float32 }{
		{2, above(128)}, {-2, above(128)}, {2, -above(128)}, {above(1), 256}, {-above(1), 256}, {257, 1}, {1e38, 1e38 / 1e36},
		{infinite, 1}, {infinite, 0}, {-infinite, 0}, {notANumber, 0}, {notANumber, 1}, {1e38, 256},
	}
	for _, c := range cases {
		for i, changed := range []complex64{complex(c.x, 0), complex(0, c.x), complex(c.x, c.x)} {
			row := greyRow(3)
			row[i].C = changed
			if got, ok := impl.ScaleRow(row, c.k); ok || len(got) != 0 {
				t.Errorf("ScaleRow(%v, %g) = %v, %t", row, c.k, got, ok)
			}
		}
	}
}

func TestRowsHaveMemoryOfTheirOwn(t *testing.T) {
	r := rand.New(rand.NewPCG(2, 5))
	a, b := roomy(someRow(r, 3), someRow(r, 2)...), roomy(someRow(r, 3), someRow(r, 2)...)
	checkMemory(t, "MeanRow", func() any { row, _ := impl.MeanRow(a, b); return row }, a, b)
	checkMemory(t, "MeanRow of a row and itself", func() any { row, _ := impl.MeanRow(a, a); return row }, a)
	checkMemory(t, "Conjugate", func() any { return impl.Conjugate(a) }, a)
	checkMemory(t, "ScaleRow by 0.5", func() any { row, _ := impl.ScaleRow(a, 0.5); return row }, a)
	checkMemory(t, "ScaleRow by 1", func() any { row, _ := impl.ScaleRow(a, 1); return row }, a)
}
