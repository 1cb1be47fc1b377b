package tests

import (
	"math/rand/v2"
	"slices"
	"testing"

	"loop.example/g03326/impl"
)

// checkTake reports if TakePair does not give what the document describes, and returns whether
// there are rows.
func checkTake(t *testing.T, a, b []float32, least, k float32) bool {
	t.Helper()
	want, wantOk := takenPair(a, b, least, k)
	got, ok := impl.TakePair(a, b, least, k)
	if ok != wantOk || !samePicture(got, want) {
		t.Errorf("TakePair(%v, %v, %v, %v) = %v, %t, want %v, %t", a, b, least, k, got, ok, want, wantOk)
	}
	return ok
}

func TestTakePair(t *testing.T) {
	ch := impl.Channel{A: 2, Offset: 1, G: -0.5 + 1i}
	first := []impl.Cell{{Y: 10, C: 3 + 2i}, {Y: 20, C: -8}}
	second := []impl.Cell{{Y: 30, C: 3 + 2i}, {Y: -40, C: -8}}
	cases := []struct {
		least, k float32
		c, d     complex64
	}{
		{0.5, 1, 3 + 2i, -8},
		{0, 2, 6 + 4i, -16},
		{-1, -0.5, -1.5 - 1i, 4},
		{notANumber, 0.25, 0.75 + 0.5i, -2},
		{0.5, 0, 0, complex(negativeZero, 0)},
		{above(0.5), 2, 0, 0},
		{infinite, -1, 0, 0},
		// A pair that is killed is not scaled.
		{1, notANumber, 0, 0},
		{1, infinite, 0, 0},
		{1, 1e30, 0, 0},
	}
	for _, odd := range []bool{false, true} {
		a, _ := impl.Transmit(ch, impl.MakeLine(first, odd))
		b, _ := impl.Transmit(ch, impl.MakeLine(second, !odd))
		for _, c := range cases {
			want := [][]impl.Cell{{{Y: 21, C: c.c}, {Y: 41, C: c.d}}, {{Y: 61, C: c.c}, {Y: -79, C: c.d}}}
			got, ok := impl.TakePair(a, b, c.least, c.k)
			if !ok || !impl.SameRows(got, want) {
				t.Errorf("TakePair of the first one odd (%t), with %v and %v = %v, %t, want %v", odd, c.least, c.k, got, ok, want)
			}
			checkTake(t, a, b, c.least, c.k)
		}
	}
}

func TestTakePairOfSomeLines(t *testing.T) {
	r := rand.New(rand.NewPCG(7, 18))
	seen := [3]int{}
	for range 10000 {
		a, b := somePair(r)
		least := []float32{0, 0.125, r.Float32() * 4, leasts[r.IntN(len(leasts))]}[r.IntN(4)]
		k := []float32{1, 0.25 + r.Float32(), r.Float32()*4 - 2, manyNumbers[r.IntN(len(manyNumbers))]}[r.IntN(4)]
		switch ok := checkTake(t, a, b, least, k); {
		case !ok:
			seen[0]++
		case killed(a, b, least):
			seen[1]++
		default:
			seen[2]++
		}
	}
	if slices.Min(seen[:]) < 500 {
		t.Errorf("of the pairs tried, %v were refused, killed and kept", seen)
	}
}

func TestTakePairRoundsEachProduct(t *testing.T) {
	r := rand.New(rand.NewPCG(7, 19))
	seen := 0
	for range 1000 {
		x, k, c := 1+r.Float32()*15, r.Float32(), r.Float32()*256
		burst := 16 * x
		a, b := lineWithCells(complex(-burst, 16), coloured(complex(c, 0))), lineWithCells(complex(-burst, -16), coloured(complex(c, 0)))
		rows, ok := impl.TakePair(a, b, 0, k)
		want := product(product(c, quotient(1, float64(x))), k)
		if !ok || !sameFloat(real(rows[0][0].C), want) {
			t.Errorf("TakePair of colours %v with the gain %v and %v = %v, %t, want %v", c, x, k, rows, ok, want)
		}
		if product(c, product(quotient(1, float64(x)), k)) != want {
			seen++
		}
	}
	if seen < 100 {
		t.Errorf("it was seen only %d times that the rows are brought to size first", seen)
	}
}

func TestPlainPairsComeBack(t *testing.T) {
	r := rand.New(rand.NewPCG(7, 20))
	for range 300 {
		ch := somePlainChannel(r)
		x := []float32{1, -1, 0.5, -0.5, 2, -2, 0.25, -0.25}[r.IntN(8)]
		ch.G = complex(x, imag(ch.G))
		first := plainRow(r, 1+r.IntN(impl.MaxCells))
		second := withColours(r, first)
		odd := r.IntN(2) == 0
		a, _ := impl.Transmit(ch, impl.MakeLine(first, odd))
		b, _ := impl.Transmit(ch, impl.MakeLine(second, !odd))
		sound := impl.Channel{A: ch.A, Offset: ch.Offset, G: 1}
		rows, ok := impl.TakePair(a, b, 0.25, 1)
		if !ok || len(rows) != 2 || !isReceived(rows[0], first, sound) || !isReceived(rows[1], second, sound) {
			t.Errorf("through %v, %v and %v are taken as %v, %t", ch, first, second, rows, ok)
		}
	}
}

func TestPairsThatAreKilledKeepTheirBrightnesses(t *testing.T) {
	r := rand.New(rand.NewPCG(7, 21))
	kills := 0
	for range 3000 {
		a, b := somePair(r)
		least := []float32{infinite, r.Float32() * 4, 17}[r.IntN(3)]
		rows, ok := impl.DecodePair(a, b)
		if !ok || !impl.IsKilled(a, b, least) {
			continue
		}
		kills++
		got, ok := impl.TakePair(a, b, least, 1)
		if !ok || !samePicture(got, greyed(rows)) {
			t.Errorf("TakePair(%v, %v, %v, 1) = %v, %t, want %v", a, b, least, got, ok, greyed(rows))
		}
	}
	if kills < 1000 {
		t.Errorf("only %d pairs were killed", kills)
	}
}

func TestTakePairThatIsNotScaled(t *testing.T) {
	refuse := func(a, b []float32, least, k float32, name string) {
		t.Helper()
		if got, ok := impl.TakePair(a, b, least, k); ok || len(got) != 0 {
			t.Errorf("TakePair with %v and %v = %v, %t: %s", least, k, got, ok, name)
		}
	}
	a, b := noGainPair()
	for _, least := range []float32{0, negativeZero, -1, -infinite, notANumber} {
		for _, k := range []float32{0, 1, infinite, notANumber} {
			refuse(a, b, least, k, "no real part")
			refuse(b, a, least, k, "no real part")
		}
	}
	if got, ok := impl.TakePair(a, b, 1e-45, 1); !ok || !samePicture(got, greyed(decodedPair(a, b))) {
		t.Errorf("TakePair of a pair without a gain that is killed = %v, %t", got, ok)
	}
	// Both lines together have the colour 2, which is divided by the gain.
	for _, x := range []float32{1e-30, 1.0 / 256, -1.0 / 256} {
		a, b := gainPair(x)
		for _, k := range []float32{1, 0.5, 0} {
			refuse(a, b, 0, k, "a size that is too large")
		}
		if _, ok := impl.TakePair(a, b, 1, 1); !ok {
			t.Errorf("TakePair of a pair with the gain %v that is killed is refused", x)
		}
	}
	for _, x := range []float32{1.0 / 128, -1.0 / 128, 1, 16} {
		a, b := gainPair(x)
		for _, k := range []float32{notANumber, infinite, -infinite, 1e30, 4096} {
			refuse(a, b, 0, k, "a saturation that is too large")
		}
		if !checkTake(t, a, b, 0, 1) || !checkTake(t, a, b, 0, -1) || !checkTake(t, a, b, 0, 0) {
			t.Errorf("TakePair of a pair with the gain %v is refused", x)
		}
	}
	a, b = gainPair(1.0 / 128)
	refuse(a, b, 0, above(1), "a saturation that is a little too large")
}
