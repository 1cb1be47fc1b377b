package tests

import (
	"math"
	"math/rand/v2"
	"slices"
	"testing"

	"loop.example/g03326/impl"
)

func TestFieldOf(t *testing.T) {
	r := rand.New(rand.NewPCG(2, 6))
	for rows := 4; rows <= impl.MaxRows; rows += 4 {
		for _, cells := range []int{1, 2, 64} {
			p := somePicture(r, rows, cells)
			for k := range 2 {
				field := impl.FieldOf(p, k)
				if len(field) != rows/2 {
					t.Fatalf("FieldOf of %d rows has %d rows", rows, len(field))
				}
				for i, row := range field {
					if !sameRow(row, p[2*i+k]) {
						t.Errorf("row %d of field %d is %v, want %v", i, k, row, p[2*i+k])
					}
				}
			}
		}
	}
}

func TestFieldOfInvalid(t *testing.T) {
	for _, k := range []int{-1, 2, -2, 3, 4, math.MaxInt, math.MinInt, math.MinInt + 1} {
		if field := impl.FieldOf(greyPicture(8, 2), k); len(field) != 0 {
			t.Errorf("FieldOf with k = %d is %v", k, field)
		}
	}
	for name, p := range brokenPictures() {
		for k := -1; k <= 2; k++ {
			if field := impl.FieldOf(p, k); len(field) != 0 {
				t.Errorf("FieldOf with k = %d is %v: %s", k, field, name)
			}
		}
	}
}

func TestWeave(t *testing.T) {
	r := rand.New(rand.NewPCG(2, 7))
	for rows := 4; rows <= impl.MaxRows; rows += 4 {
		for _, cells := range []int{1, 3, 64} {
			a, b := somePicture(r, rows/2, cells), somePicture(r, rows/2, cells)
			p, ok := impl.Weave(a, b)
			if !ok || len(p) != rows {
				t.Fatalf("Weave of twice %d rows has %d rows, %t", rows/2, len(p), ok)
			}
			for i := range a {
				if !sameRow(p[2*i], a[i]) || !sameRow(p[2*i+1], b[i]) {
					t.Errorf("rows %d and %d are %v, want %v and %v", 2*i, 2*i+1, p[2*i:2*i+2], a[i], b[i])
				}
			}
		}
	}
}

func TestFieldsWovenAreThePicture(t *testing.T) {
	r := rand.New(rand.NewPCG(2, 8))
	for rows := 4; rows <= impl.MaxRows; rows += 4 {
		p := somePicture(r, rows, 1+rows%7)
		woven, ok := impl.Weave(impl.FieldOf(p, 0), impl.FieldOf(p, 1))
		if !ok || !samePicture(woven, p) {
			t.Errorf("the fields of %v, woven, are %v, %t", p, woven, ok)
		}
	}
}

func TestWeaveInvalid(t *testing.T) {
	for a := range 70 {
		for _, b := range []int{0, 1, 2, 3, 4, 5, 6, 31, 32, 33, 34, 64} {
			got, ok := impl.Weave(greyPicture(a, 2), greyPicture(b, 2))
			if want := a == b && a%2 == 0 && a >= 2 && a <= 32; ok != want || !want && len(got) != 0 {
				t.Errorf("Weave of %d and %d rows: %v, %t", a, b, got, ok)
			}
		}
	}
	for name, row := range brokenRows() {
		for at := range 4 {
			rows := greyPicture(4, len(row))
			rows[at] = row
			if got, ok := impl.Weave(rows[:2], rows[2:]); ok || len(got) != 0 {
				t.Errorf("Weave with row %d: %s: %v, %t", at, name, got, ok)
			}
		}
	}
	for _, lengths := range [][]int{{2, 2, 3, 3}, {2, 3, 2, 3}, {3, 2, 2, 2}, {2, 2, 2, 1}} {
		rows := [][]impl.Cell{greyRow(lengths[0]), greyRow(lengths[1]), greyRow(lengths[2]), greyRow(lengths[3])}
		if got, ok := impl.Weave(rows[:2], rows[2:]); ok || len(got) != 0 {
			t.Errorf("Weave of rows with %v cells: %v, %t", lengths, got, ok)
		}
	}
}

// pairedPicture returns a picture whose rows r and r+2 have equal colours if r is 0 or 1 modulo
// 4. Some of the zeros in them have other signs.
func pairedPicture(r *rand.Rand, rows, cells int) [][]impl.Cell {
	p := somePicture(r, rows, cells)
	for at := range p {
		for i := range p[at] {
			if at%4 >= 2 {
				p[at][i].C = p[at-2][i].C + 0
			}
		}
	}
	return p
}

func TestIsPaired(t *testing.T) {
	r := rand.New(rand.NewPCG(2, 9))
	for rows := 4; rows <= impl.MaxRows; rows += 4 {
		for _, cells := range []int{1, 5, 64} {
			if p := pairedPicture(r, rows, cells); !impl.IsPaired(p) {
				t.Errorf("IsPaired(%v) is false", p)
			}
			if p := somePicture(r, rows, cells+1-cells/64); impl.IsPaired(p) {
				t.Errorf("IsPaired(%v) is true", p)
			}
		}
	}
	row, other := []impl.Cell{{Y: 1, C: complex(negativeZero, 0)}}, []impl.Cell{{Y: 2, C: complex(0, negativeZero)}}
	if !impl.IsPaired([][]impl.Cell{row, other, other, row}) {
		t.Error("zeros with other signs are not equal")
	}
}

func TestIsPairedLooksAtEachColour(t *testing.T) {
	r := rand.New(rand.NewPCG(2, 10))
	for at := range 12 {
		for i := range 3 {
			for _, d := range []complex64{1, 1i, -1 + 1i} {
				p := pairedPicture(r, 12, 3)
				for _, row := range p {
					row[i].C /= 2
				}
				p[at][i].C += d
				if impl.IsPaired(p) {
					t.Errorf("IsPaired(%v) is true", p)
				}
			}
		}
	}
}

func TestIsPairedInvalid(t *testing.T) {
	for name, p := range brokenPictures() {
		if impl.IsPaired(p) {
			t.Errorf("IsPaired is true: %s", name)
		}
	}
}

// sameColours reports whether the colours of both rows are equal.
func sameColours(a, b []impl.Cell) bool {
	return slices.EqualFunc(a, b, func(c, d impl.Cell) bool { return c.C == d.C })
}

func TestPairedPicturesHavePairsInTheirFields(t *testing.T) {
	r := rand.New(rand.NewPCG(2, 11))
	paired := 0
	for range 2000 {
		p := greyPicture(4+4*r.IntN(2), 1)
		for _, row := range p {
			row[0].C = complex(0, float32(r.IntN(4)/3))
		}
		want := true
		for k := range 2 {
			field := impl.FieldOf(p, k)
			for i := 0; i < len(field); i += 2 {
				want = want && sameColours(field[i], field[i+1])
			}
		}
		if got := impl.IsPaired(p); got != want {
			t.Errorf("IsPaired(%v) = %t", p, got)
		}
		if want {
			paired++
		}
	}
	if paired < 200 || paired > 1800 {
		t.Errorf("%d of the pictures are paired", paired)
	}
}

func TestPicturesHaveMemoryOfTheirOwn(t *testing.T) {
	r := rand.New(rand.NewPCG(2, 12))
	p := roomyPicture(somePicture(r, 8, 3))
	a, b := roomyPicture(somePicture(r, 4, 3)), roomyPicture(somePicture(r, 4, 3))
	checkMemory(t, "FieldOf 0", func() any { return impl.FieldOf(p, 0) }, p)
	checkMemory(t, "FieldOf 1", func() any { return impl.FieldOf(p, 1) }, p)
	checkMemory(t, "Weave", func() any { woven, _ := impl.Weave(a, b); return woven }, a, b)
	checkMemory(t, "Weave of a field and itself", func() any { woven, _ := impl.Weave(a, a); return woven }, a)
	row := roomy(someRow(r, 3), impl.Cell{Y: 7})
	q := [][]impl.Cell{row, row, row, row}
	checkMemory(t, "FieldOf of one row", func() any { return impl.FieldOf(q, 0) }, q)
}

func TestReportsChangeNothing(t *testing.T) {
	r := rand.New(rand.NewPCG(2, 13))
	p, q := roomyPicture(pairedPicture(r, 8, 3)), roomyPicture(somePicture(r, 8, 3))
	before := memoryOf([]any{p, q})
	impl.CellOk(p[0][0])
	impl.RowOk(p[0])
	for _, x := range [][][]impl.Cell{p, q} {
		impl.PictureOk(x)
		impl.IsPaired(x)
		impl.SameRows(x, q)
	}
	if memoryOf([]any{p, q}) != before {
		t.Error("a report changes its argument")
	}
}
