package tests

import (
	"math"
	"math/rand/v2"
	"slices"
	"testing"

	"loop.example/g03326/impl"
)

// checkSize reports if ToSize does not give what the document describes, and returns whether there
// are rows.
func checkSize(t *testing.T, rows [][]impl.Cell, g complex64) bool {
	t.Helper()
	want, wantOk := sizedRows(rows, g)
	got, ok := impl.ToSize(rows, g)
	if ok != wantOk || !samePicture(got, want) {
		t.Errorf("ToSize(%v, %v) = %v, %t, want %v, %t", rows, g, got, ok, want, wantOk)
	}
	return ok
}

// checkSaturate reports if Saturate does not give what the document describes, and returns whether
// there are rows.
func checkSaturate(t *testing.T, rows [][]impl.Cell, k float32) bool {
	t.Helper()
	want, wantOk := scaledRows(rows, k)
	got, ok := impl.Saturate(rows, k)
	if ok != wantOk || !samePicture(got, want) {
		t.Errorf("Saturate(%v, %v) = %v, %t, want %v, %t", rows, k, got, ok, want, wantOk)
	}
	return ok
}

// manyGains are real parts other than 0.
var manyGains = []float32{1, -1, 2, -2, 0.5, -0.5, 0.3, -0.7, 3, 16, -16, 1e-3, 1e30, -1e30, math.MaxFloat32, -math.MaxFloat32, infinite, -infinite}

func TestToSize(t *testing.T) {
	zero := negativeZero
	rows := [][]impl.Cell{{{Y: 7, C: 3 - 6i}, {Y: zero, C: complex(0, zero)}}, {{Y: -256, C: -1.5 + 0.75i}}}
	cases := []struct {
		g    complex64
		want [][]impl.Cell
	}{
		{1, rows},
		{2, [][]impl.Cell{{{Y: 7, C: 1.5 - 3i}, {Y: zero, C: complex(0, zero)}}, {{Y: -256, C: -0.75 + 0.375i}}}},
		{-0.5, [][]impl.Cell{{{Y: 7, C: -6 + 12i}, {Y: zero, C: complex(zero, 0)}}, {{Y: -256, C: 3 - 1.5i}}}},
		{0.0625, [][]impl.Cell{{{Y: 7, C: 48 - 96i}, {Y: zero, C: complex(0, zero)}}, {{Y: -256, C: -24 + 12i}}}},
		{complex(infinite, 0), [][]impl.Cell{{{Y: 7, C: complex(0, zero)}, {Y: zero, C: complex(0, zero)}}, {{Y: -256, C: complex(zero, 0)}}}},
		{complex(-infinite, 0), [][]impl.Cell{{{Y: 7, C: complex(zero, 0)}, {Y: zero, C: complex(zero, 0)}}, {{Y: -256, C: complex(0, zero)}}}},
	}
	for _, c := range cases {
		for _, y := range []float32{0, zero, 1, -5, 1e30, infinite, -infinite, notANumber} {
			g := complex(real(c.g), y)
			if got, ok := impl.ToSize(rows, g); !ok || !samePicture(got, c.want) {
				t.Errorf("ToSize(%v, %v) = %v, %t, want %v", rows, g, got, ok, c.want)
			}
		}
	}
}

func TestToSizeWithoutARealPart(t *testing.T) {
	r := rand.New(rand.NewPCG(7, 13))
	lists := [][][]impl.Cell{nil, {}, {nil}, greyPicture(4, 3), somePicture(r, 2, 2), {{{Y: 257}}}}
	for _, x := range []float32{0, negativeZero} {
		for _, y := range []float32{0, negativeZero, 1, -5, 1e30, infinite, -infinite, notANumber} {
			for _, rows := range lists {
				if got, ok := impl.ToSize(rows, complex(x, y)); ok || len(got) != 0 {
					t.Errorf("ToSize(%v, %v) = %v, %t", rows, complex(x, y), got, ok)
				}
			}
		}
	}
}

func TestToSizeWithAnInfiniteQuotient(t *testing.T) {
	least := float32(0x1p-128)
	grey := greyPicture(4, 2)
	for _, x := range []float32{1e-45, -1e-45, 1e-40, least, -least} {
		for _, rows := range [][][]impl.Cell{grey, {{{C: 1}}}, {{{C: complex(1e-45, 0)}}}} {
			if got, ok := impl.ToSize(rows, complex(x, 1)); ok || len(got) != 0 {
				t.Errorf("ToSize(%v, %v) = %v, %t", rows, x, got, ok)
			}
		}
	}
	for _, x := range []float32{above(least), -above(least), 1e-38, -1e-38, 1.1754944e-38} {
		tiny := [][]impl.Cell{{{Y: 1, C: complex(1e-45, -1e-45)}, {Y: 2}}}
		if !checkSize(t, grey, complex(x, 1)) || !checkSize(t, tiny, complex(x, notANumber)) {
			t.Errorf("ToSize refuses %v", x)
		}
	}
}

func TestToSizeWithNaN(t *testing.T) {
	for _, y := range []float32{0, 1, infinite, notANumber} {
		for _, rows := range [][][]impl.Cell{greyPicture(1, 1), {{{Y: 5, C: 1 + 2i}}}} {
			if got, ok := impl.ToSize(rows, complex(notANumber, y)); ok || len(got) != 0 {
				t.Errorf("ToSize(%v, NaN) = %v, %t", rows, got, ok)
			}
		}
	}
}

func TestNoRowsOfAnySize(t *testing.T) {
	for _, rows := range [][][]impl.Cell{nil, {}} {
		for _, x := range append([]float32{1e-45, -1e-45, 0x1p-128, notANumber}, manyGains...) {
			if got, ok := impl.ToSize(rows, complex(x, 1)); !ok || len(got) != 0 {
				t.Errorf("ToSize of no rows by %v = %v, %t", x, got, ok)
			}
		}
		for _, k := range manyNumbers {
			if got, ok := impl.Saturate(rows, k); !ok || len(got) != 0 {
				t.Errorf("Saturate of no rows by %v = %v, %t", k, got, ok)
			}
		}
	}
}

func TestSaturate(t *testing.T) {
	zero := negativeZero
	rows := [][]impl.Cell{{{Y: 7, C: 3 - 6i}, {Y: zero, C: complex(0, zero)}}, {{Y: -256, C: -1.5 + 0.75i}}}
	cases := []struct {
		k    float32
		want [][]impl.Cell
	}{
		{1, rows},
		{0, [][]impl.Cell{{{Y: 7, C: complex(0, zero)}, {Y: zero, C: complex(0, zero)}}, {{Y: -256, C: complex(zero, 0)}}}},
		{zero, [][]impl.Cell{{{Y: 7, C: complex(zero, 0)}, {Y: zero, C: complex(zero, 0)}}, {{Y: -256, C: complex(0, zero)}}}},
		{-1, [][]impl.Cell{{{Y: 7, C: -3 + 6i}, {Y: zero, C: complex(zero, 0)}}, {{Y: -256, C: 1.5 - 0.75i}}}},
		{16, [][]impl.Cell{{{Y: 7, C: 48 - 96i}, {Y: zero, C: complex(0, zero)}}, {{Y: -256, C: -24 + 12i}}}},
	}
	for _, c := range cases {
		if got, ok := impl.Saturate(rows, c.k); !ok || !samePicture(got, c.want) {
			t.Errorf("Saturate(%v, %v) = %v, %t, want %v", rows, c.k, got, ok, c.want)
		}
	}
	for _, k := range []float32{notANumber, infinite, -infinite, math.MaxFloat32, 43, -43} {
		if got, ok := impl.Saturate(rows, k); ok || len(got) != 0 {
			t.Errorf("Saturate(%v, %v) = %v, %t", rows, k, got, ok)
		}
	}
	for _, k := range []float32{notANumber, infinite, -infinite} {
		if got, ok := impl.Saturate(greyPicture(2, 2), k); ok || len(got) != 0 {
			t.Errorf("Saturate by %v of rows without colours = %v, %t", k, got, ok)
		}
	}
}

func TestSizesOfSomeRows(t *testing.T) {
	r := rand.New(rand.NewPCG(7, 14))
	seen := [2]int{}
	for range 3000 {
		var rows [][]impl.Cell
		for range r.IntN(6) {
			rows = append(rows, someRow(r, 1+r.IntN(5)))
		}
		x := []float32{r.Float32()*4 - 2, 1 + r.Float32()*30, -1 - r.Float32(), manyGains[r.IntN(len(manyGains))]}[r.IntN(4)]
		k := []float32{r.Float32()*2 - 1, r.Float32()*4 - 2, manyNumbers[r.IntN(len(manyNumbers))]}[r.IntN(3)]
		for _, ok := range []bool{checkSize(t, rows, complex(x, r.Float32())), checkSaturate(t, rows, k)} {
			if ok {
				seen[1]++
			} else {
				seen[0]++
			}
		}
	}
	if slices.Min(seen[:]) < 1000 {
		t.Errorf("of the rows tried, %v were refused and scaled", seen)
	}
}

func TestToSizeRoundsTheQuotient(t *testing.T) {
	r := rand.New(rand.NewPCG(7, 15))
	seen := 0
	for range 1000 {
		x, c := 1+r.Float32()*15, r.Float32()*256
		got, ok := impl.ToSize([][]impl.Cell{{{C: complex(c, 0)}}}, complex(x, 0))
		if want := product(c, quotient(1, float64(x))); !ok || !sameFloat(real(got[0][0].C), want) {
			t.Errorf("ToSize of %v by %v = %v, %t, want %v", c, x, got, ok, want)
		}
		if quotient(c, float64(x)) != product(c, quotient(1, float64(x))) {
			seen++
		}
	}
	if seen < 100 {
		t.Errorf("it was seen only %d times that the quotient is rounded", seen)
	}
}

func TestRowsOfMoreThanAPicture(t *testing.T) {
	r := rand.New(rand.NewPCG(7, 16))
	for _, n := range []int{1, 2, 3, impl.MaxRows, impl.MaxRows + 1, 300} {
		rows := somePicture(r, n, 3)
		rows[n/2] = someRow(r, impl.MaxCells)
		if !checkSize(t, rows, 2) || !checkSaturate(t, rows, 0.5) {
			t.Errorf("%d rows are refused", n)
		}
	}
}

// refuseRows reports if ToSize by g or Saturate by k gives rows.
func refuseRows(t *testing.T, rows [][]impl.Cell, g, k float32, name string) {
	t.Helper()
	if got, ok := impl.ToSize(rows, complex(g, 0)); ok || len(got) != 0 {
		t.Errorf("ToSize by %v = %v, %t: %s", g, got, ok, name)
	}
	if got, ok := impl.Saturate(rows, k); ok || len(got) != 0 {
		t.Errorf("Saturate by %v = %v, %t: %s", k, got, ok, name)
	}
}

func TestSizesInvalid(t *testing.T) {
	for name, row := range brokenRows() {
		for at := range 3 {
			for _, k := range []float32{1, 0.5, -1, 1e-30} {
				refuseRows(t, rowsWith(at, row), 1/k, k, "row "+impl.FormatInt(at)+" is: "+name)
			}
		}
		refuseRows(t, [][]impl.Cell{row}, 2, 0, "the only row is: "+name)
	}
}

func TestSizesThatAreTooLarge(t *testing.T) {
	over := above(128)
	for _, c := range []complex64{complex(over, 0), complex(0, over), complex(-over, 1), complex(1, -over), 200 + 200i, 256} {
		for at := range 3 {
			for _, k := range []float32{2, -2, 1e30, math.MaxFloat32} {
				for cell := range 3 {
					row := greyRow(3)
					row[cell].C = c
					refuseRows(t, rowsWith(at, row), 1/k, k, "a part of "+floatText(over)+" or more")
				}
			}
		}
	}
	edge := [][]impl.Cell{greyRow(2), {{Y: 256, C: 128 - 128i}}, {{Y: -256, C: -128 + 128i}}}
	for _, k := range []float32{2, -2} {
		if !checkSize(t, edge, complex(1/k, 0)) || !checkSaturate(t, edge, k) {
			t.Errorf("colours that become 256 are refused")
		}
	}
}

func TestScaledRowsHaveMemoryOfTheirOwn(t *testing.T) {
	r := rand.New(rand.NewPCG(7, 17))
	row := roomy(someRow(r, 3), someRow(r, 2)...)
	for _, p := range [][][]impl.Cell{somePicture(r, 1, 1), somePicture(r, 4, 3), somePicture(r, 65, 64), {row, row, row[:2]}} {
		rows := roomyPicture(p)
		for _, k := range []float32{1, 0.5, -1, 0} {
			checkMemory(t, "Saturate", func() any { made, _ := impl.Saturate(rows, k); return made }, rows)
		}
		for _, g := range []complex64{1, -1, 2 + 1i} {
			checkMemory(t, "ToSize", func() any { made, _ := impl.ToSize(rows, g); return made }, rows)
		}
		before := memoryOf(rows)
		impl.ToSize(rows, 0)
		impl.ToSize(rows, 1e-30)
		impl.Saturate(rows, 1e30)
		impl.Saturate(rows, notANumber)
		if memoryOf(rows) != before {
			t.Error("an argument was changed")
		}
	}
}
