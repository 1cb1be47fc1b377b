package tests

import (
	"math/rand/v2"
	"slices"
	"testing"

	"loop.example/g03326/impl"
)

// rowOf returns a row with these colours.
func rowOf(colours ...complex64) []impl.Cell {
	row := make([]impl.Cell, len(colours))
	for i, c := range colours {
		row[i] = impl.Cell{Y: float32(i), C: c}
	}
	return row
}

func TestHueTurn(t *testing.T) {
	tiny, zero := float32(1e-30), negativeZero
	half := complex(float32(1.0/16), float32(1.0/16))
	cases := []struct {
		name string
		a, b []impl.Cell
		want float32
	}{
		{"one cell", rowOf(1), rowOf(2i), 2},
		{"the other way round", rowOf(2i), rowOf(1), -2},
		{"both products", rowOf(3 + 5i), rowOf(7 + 11i), 3*11 - 5*7},
		{"more cells", rowOf(3+5i, 1, -1i), rowOf(7+11i, 100i, 1000/8), -2 + 100 + 125},
		{"the greatest colours", rowOf(256+256i, 256), rowOf(-256+256i, 256i), 131072 + 65536},
		{"no colours", rowOf(0, 0), rowOf(3+4i, 0), 0},
		{"half a turn", rowOf(3 + 4i), rowOf(-3 - 4i), 0},
		// The sum is in order: what is small is lost behind what is great.
		{"small ones last", rowOf(256, half, half), rowOf(256i, 1i/16, 1i/16), 65536},
		{"small ones first", rowOf(half, half, 256), rowOf(1i/16, 1i/16, 256i), 65536 + 1.0/128},
		{"a great one that goes away", rowOf(256, half, 256i), rowOf(256i, 1i/16, 256), 0},
		{"a great one that goes away before", rowOf(256, 256i, half), rowOf(256i, 256, 1i/16), 1.0 / 256},
		// Of each cell the second product is taken from the first one before it is added.
		{"a small one between great ones", rowOf(half, 256+256i), rowOf(1i/16, 256+256i), 1.0 / 256},
		// Products that are rounded, or too small.
		{"rounded products", rowOf(complex(above(1), above(3))), rowOf(complex(above(3), above(1))), difference(product(above(1), above(1)), product(above(3), above(3)))},
		{"equal products, rounded", rowOf(complex(0.1, 0.3)), rowOf(complex(0.1, 0.3)), 0},
		{"a product that is too small", rowOf(complex(tiny, 0)), rowOf(complex(0, tiny)), 0},
		// The sum begins with 0.
		{"a difference of -0", rowOf(-1), rowOf(0), 0},
		{"differences of -0", rowOf(-1, -2), rowOf(1, 2), 0},
		{"products of -0", rowOf(complex(zero, 0)), rowOf(complex(1, 1)), 0},
	}
	for _, c := range cases {
		if got, ok := impl.HueTurn(c.a, c.b); !ok || !sameFloat(got, c.want) {
			t.Errorf("HueTurn(%v, %v) = %v, %t, want %v: %s", c.a, c.b, got, ok, c.want, c.name)
		}
		if want := hueTurn(c.a, c.b); !sameFloat(want, c.want) {
			t.Errorf("the turn from %v to %v is %v, not %v: %s", c.a, c.b, want, c.want, c.name)
		}
	}
}

func TestHueTurnOfSomeRows(t *testing.T) {
	r := rand.New(rand.NewPCG(7, 22))
	seen := [2]int{}
	for cells := 1; cells <= impl.MaxCells; cells++ {
		for range 50 {
			a, b := someRow(r, cells), someRow(r, cells)
			got, ok := impl.HueTurn(a, b)
			if want := hueTurn(a, b); !ok || !sameFloat(got, want) {
				t.Errorf("HueTurn(%v, %v) = %v, %t, want %v", a, b, got, ok, want)
			}
			slices.Reverse(a)
			slices.Reverse(b)
			if got != hueTurn(a, b) {
				seen[0]++
			}
			exact := 0.0
			for i, c := range a {
				exact += float64(real(c.C))*float64(imag(b[i].C)) - float64(imag(c.C))*float64(real(b[i].C))
			}
			if got != float32(exact) {
				seen[1]++
			}
		}
	}
	if slices.Min(seen[:]) < 500 {
		t.Errorf("it was seen %v times that the order of the cells and each rounding matter", seen)
	}
}

func TestHueTurnOfARowAndItself(t *testing.T) {
	r := rand.New(rand.NewPCG(7, 23))
	for cells := 1; cells <= impl.MaxCells; cells++ {
		row := someRow(r, cells)
		if got, ok := impl.HueTurn(row, row); !ok || !sameFloat(got, 0) {
			t.Errorf("HueTurn of %v and itself = %v, %t", row, got, ok)
		}
		plain := plainRow(r, cells)
		want := float32(0)
		for _, c := range plain {
			want -= 2 * real(c.C) * imag(c.C)
		}
		if got, ok := impl.HueTurn(plain, impl.Conjugate(plain)); !ok || got != want {
			t.Errorf("HueTurn of %v and its conjugate = %v, %t, want %v", plain, got, ok, want)
		}
		if got, ok := impl.HueTurn(impl.Conjugate(plain), plain); !ok || got != -want {
			t.Errorf("HueTurn of the conjugate of %v and the row = %v, %t, want %v", plain, got, ok, -want)
		}
	}
}

func TestHueTurnLooksAtTheColoursAlone(t *testing.T) {
	r := rand.New(rand.NewPCG(7, 24))
	for cells := 1; cells <= impl.MaxCells; cells++ {
		a, b := plainRow(r, cells), plainRow(r, cells)
		want, _ := impl.HueTurn(a, b)
		if got, ok := impl.HueTurn(withColours(r, a), withColours(r, b)); !ok || !sameFloat(got, want) {
			t.Errorf("HueTurn of the colours of %v and %v = %v, %t, and with other brightnesses %v", a, b, want, ok, got)
		}
	}
}

func TestHueTurnInvalid(t *testing.T) {
	refuse := func(a, b []impl.Cell, name string) {
		t.Helper()
		if got, ok := impl.HueTurn(a, b); ok || !sameFloat(got, 0) {
			t.Errorf("HueTurn = %v, %t: %s", got, ok, name)
		}
	}
	for name, row := range brokenRows() {
		refuse(row, rowOf(make([]complex64, len(row))...), "the first one is: "+name)
		refuse(rowOf(make([]complex64, len(row))...), row, "the second one is: "+name)
		refuse(row, row, "both are: "+name)
		refuse(row, greyRow(3), "the first one, with another number of cells, is: "+name)
		refuse(greyRow(3), row, "the second one, with another number of cells, is: "+name)
	}
	for cells := range impl.MaxCells + 2 {
		for _, others := range []int{0, 1, cells - 1, cells + 1, impl.MaxCells} {
			if others >= 0 && others != cells {
				refuse(greyRow(cells), greyRow(others), impl.FormatInt(cells)+" cells and "+impl.FormatInt(others))
			}
		}
	}
}

func TestHueTurnChangesNoArgument(t *testing.T) {
	r := rand.New(rand.NewPCG(7, 25))
	rows := roomyPicture([][]impl.Cell{someRow(r, 3), someRow(r, 3), someRow(r, 2), cellsWith(notANumber), nil})
	before := memoryOf(rows)
	for _, a := range rows {
		for _, b := range rows {
			impl.HueTurn(a, b)
		}
	}
	if memoryOf(rows) != before {
		t.Error("an argument was changed")
	}
}
