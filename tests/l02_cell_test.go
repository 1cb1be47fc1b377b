package tests

import (
	"math/rand/v2"
	"testing"

	"loop.example/g03326/impl"
)

func TestCellLimits(t *testing.T) {
	if impl.MaxCells != 64 || impl.MaxRows != 64 || impl.MaxLevel != 256 {
		t.Error("unexpected limits", impl.MaxCells, impl.MaxRows, impl.MaxLevel)
	}
}

func TestCellOk(t *testing.T) {
	if !impl.CellOk(impl.Cell{}) {
		t.Error("the zero cell is not valid")
	}
	for _, x := range levels {
		for _, c := range cellsWith(x) {
			if !impl.CellOk(c) {
				t.Errorf("CellOk(%v) is false", c)
			}
		}
		if c := (impl.Cell{Y: x, C: complex(x, -x)}); !impl.CellOk(c) {
			t.Errorf("CellOk(%v) is false", c)
		}
	}
	for _, x := range noLevels {
		for _, c := range cellsWith(x) {
			if impl.CellOk(c) {
				t.Errorf("CellOk(%v) is true", c)
			}
		}
	}
}

func TestRowOk(t *testing.T) {
	for cells := 1; cells <= impl.MaxCells; cells++ {
		if !impl.RowOk(greyRow(cells)) {
			t.Errorf("RowOk of %d cells is false", cells)
		}
	}
	for _, x := range levels {
		if row := cellsWith(x); !impl.RowOk(row) {
			t.Errorf("RowOk(%v) is false", row)
		}
	}
	for name, row := range brokenRows() {
		if impl.RowOk(row) {
			t.Errorf("RowOk is true: %s", name)
		}
	}
}

func TestRowOkLooksAtEachCell(t *testing.T) {
	for at := range impl.MaxCells {
		row := greyRow(impl.MaxCells)
		row[at].C = complex(0, notANumber)
		if impl.RowOk(row) {
			t.Errorf("RowOk is true with NaN in cell %d", at)
		}
	}
}

func TestRowOkDoesNotLookBehindTheRow(t *testing.T) {
	row := greyRow(impl.MaxCells + 1)
	row[impl.MaxCells].Y = notANumber
	if !impl.RowOk(row[:impl.MaxCells]) {
		t.Error("RowOk looks behind the row")
	}
}

func TestPictureOk(t *testing.T) {
	for rows := 4; rows <= impl.MaxRows; rows += 4 {
		for _, cells := range []int{1, 2, 3, 63, 64} {
			if !impl.PictureOk(greyPicture(rows, cells)) {
				t.Errorf("PictureOk of %d rows of %d cells is false", rows, cells)
			}
		}
	}
	for name, p := range brokenPictures() {
		if impl.PictureOk(p) {
			t.Errorf("PictureOk is true: %s", name)
		}
	}
}

func TestPictureOkLooksAtEachRow(t *testing.T) {
	for at := range impl.MaxRows {
		p := greyPicture(impl.MaxRows, 2)
		p[at][1].Y = above(256)
		if impl.PictureOk(p) {
			t.Errorf("PictureOk is true with a cell that is not valid in row %d", at)
		}
		p[at] = greyRow(1)
		if impl.PictureOk(p) {
			t.Errorf("PictureOk is true with a shorter row %d", at)
		}
	}
}

func TestSameRows(t *testing.T) {
	cases := []struct {
		name string
		a, b [][]impl.Cell
		want bool
	}{
		{"nil and nil", nil, nil, true},
		{"nil and empty", nil, [][]impl.Cell{}, true},
		{"a nil row and an empty one", [][]impl.Cell{nil}, [][]impl.Cell{{}}, true},
		{"no row and an empty one", nil, [][]impl.Cell{nil}, false},
		{"an empty row more", greyPicture(2, 0), greyPicture(3, 0), false},
		{"a row more", greyPicture(2, 2), greyPicture(3, 2), false},
		{"a row less", greyPicture(3, 2), greyPicture(2, 2), false},
		{"shorter rows", greyPicture(2, 3), greyPicture(2, 2), false},
		{"longer rows", greyPicture(2, 2), greyPicture(2, 3), false},
		{"as many cells in other rows", [][]impl.Cell{greyRow(1), greyRow(2)}, [][]impl.Cell{greyRow(2), greyRow(1)}, false},
		{"rows of unequal lengths", [][]impl.Cell{greyRow(1), greyRow(2)}, [][]impl.Cell{greyRow(1), greyRow(2)}, true},
		{"more rows and cells than are valid", greyPicture(66, 65), greyPicture(66, 65), true},
	}
	for _, c := range cases {
		if got := impl.SameRows(c.a, c.b); got != c.want {
			t.Errorf("SameRows, %s: %t", c.name, got)
		}
	}
}

func TestSameRowsComparesNumbersByEquality(t *testing.T) {
	numbers := append(append([]float32{}, levels...), noLevels...)
	for _, x := range numbers {
		for _, y := range numbers {
			for i, c := range cellsWith(x) {
				a := [][]impl.Cell{greyRow(2), {{}, c}}
				b := [][]impl.Cell{greyRow(2), {{}, cellsWith(y)[i]}}
				if got := impl.SameRows(a, b); got != (x == y) {
					t.Errorf("SameRows(%v, %v) = %t", a, b, got)
				}
			}
		}
	}
	row := [][]impl.Cell{{{Y: notANumber}}}
	if impl.SameRows(row, row) {
		t.Error("a row with NaN is the same as itself")
	}
}

func TestSameRowsFindsEachDifference(t *testing.T) {
	r := rand.New(rand.NewPCG(2, 1))
	p := somePicture(r, 8, 3)
	for at := range p {
		for i := range p[at] {
			for change := range 3 {
				c := p[at][i]
				q := roomyPicture(p)
				q[at][i] = []impl.Cell{{Y: c.Y + 1, C: c.C}, {Y: c.Y, C: c.C + 1}, {Y: c.Y, C: c.C + 1i}}[change]
				if impl.SameRows(p, q) || impl.SameRows(q, p) || !impl.SameRows(q, q) {
					t.Errorf("SameRows does not tell %v from %v", p, q)
				}
			}
		}
	}
}
