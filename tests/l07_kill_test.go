package tests

import (
	"math"
	"math/rand/v2"
	"slices"
	"testing"

	"loop.example/g03326/impl"
)

func TestGreyed(t *testing.T) {
	zero := negativeZero
	for _, x := range manyNumbers {
		for _, y := range []float32{0, zero, 1, infinite, notANumber} {
			rows := [][]impl.Cell{{{Y: x, C: complex(y, x)}, {Y: y, C: complex(x, y)}}, {}, {{Y: x, C: complex(x, x)}}, nil}
			want := [][]impl.Cell{{{Y: x}, {Y: y}}, {}, {{Y: x}}, {}}
			if got := impl.Greyed(rows); !samePicture(got, want) {
				t.Errorf("Greyed(%v) = %v, want %v", rows, got, want)
			}
		}
	}
}

func TestGreyedOfListsOfAllSizes(t *testing.T) {
	r := rand.New(rand.NewPCG(7, 10))
	lists := [][][]impl.Cell{nil, {}, {nil}, {{}}, {{}, nil, {}}, somePicture(r, 65, 65), somePicture(r, 300, 3), somePicture(r, 3, 1000)}
	for n := 1; n <= impl.MaxRows; n++ {
		lists = append(lists, somePicture(r, n, n))
	}
	for _, rows := range lists {
		if got := impl.Greyed(rows); !samePicture(got, greyed(rows)) {
			t.Errorf("Greyed of %d rows = %v, want %v", len(rows), got, greyed(rows))
		}
	}
}

func TestGreyedRowsHaveMemoryOfTheirOwn(t *testing.T) {
	r := rand.New(rand.NewPCG(7, 11))
	row := roomy(someRow(r, 3), someRow(r, 2)...)
	for _, p := range [][][]impl.Cell{somePicture(r, 1, 1), somePicture(r, 4, 3), somePicture(r, 64, 64), greyPicture(5, 2), {row, row, row[:2]}} {
		rows := roomyPicture(p)
		checkMemory(t, "Greyed", func() any { return impl.Greyed(rows) }, rows)
	}
}

func TestIsKilledBySize(t *testing.T) {
	for _, x := range []float32{1, -1, 0.125, -0.125, 0.5, 0.1, -0.3, 2, -1.75, 15.999999, -16, 1e-30, -1e-30} {
		a, b := gainPair(x)
		amount := float32(math.Abs(float64(x)))
		turn := impl.Swing(a, b)
		if g, ok := impl.HueGain(a, b); !ok || real(g) != x || turn == 0 || turn > 0 != (x > 0) {
			t.Errorf("the lines for %v have the HueGain %v, %t, and the Swing %d", x, g, ok, turn)
		}
		kept := []float32{amount, -above(-amount), amount / 2, 1e-45, 0, negativeZero, -1e-45, -amount, -2 * amount, -infinite, notANumber}
		for _, least := range kept {
			if impl.IsKilled(a, b, least) || impl.IsKilled(b, a, least) {
				t.Errorf("a pair with the gain %v is killed with the least %v", x, least)
			}
		}
		for _, least := range []float32{above(amount), 2 * amount, 17, math.MaxFloat32, infinite} {
			if !impl.IsKilled(a, b, least) || !impl.IsKilled(b, a, least) {
				t.Errorf("a pair with the gain %v is not killed with the least %v", x, least)
			}
		}
	}
}

func TestIsKilledWithoutARealPart(t *testing.T) {
	a, b := noGainPair()
	if g, ok := impl.HueGain(a, b); !ok || real(g) != 0 || impl.Swing(a, b) != 1 {
		t.Errorf("the lines have the HueGain %v, %t, and the Swing %d", g, ok, impl.Swing(a, b))
	}
	for _, least := range []float32{0, negativeZero, -1e-45, -1, -infinite, notANumber} {
		if impl.IsKilled(a, b, least) || impl.IsKilled(b, a, least) {
			t.Errorf("a pair with a gain 0 is killed with the least %v", least)
		}
	}
	for _, least := range []float32{1e-45, 1, infinite} {
		if !impl.IsKilled(a, b, least) || !impl.IsKilled(b, a, least) {
			t.Errorf("a pair with a gain 0 is not killed with the least %v", least)
		}
	}
}

// leasts are numbers of all kinds that a pair may be held against.
var leasts = []float32{0, negativeZero, 1e-45, -1e-45, 0.125, -0.125, 1, -1, 16, 1e30, infinite, -infinite, notANumber}

func TestIsKilledWithoutASwing(t *testing.T) {
	even, odd := impl.MakeLine(greyRow(5), false), impl.MakeLine(greyRow(5), true)
	check := func(a, b []float32, name string) {
		t.Helper()
		for _, least := range leasts {
			if !impl.IsKilled(a, b, least) {
				t.Errorf("a pair that does not swing is not killed with the least %v: %s", least, name)
			}
		}
	}
	check(even, even, "even ones")
	check(odd, odd, "odd ones")
	check(lineWithColour(0), even, "no burst")
	check(lineWithColour(-256-256i), lineWithColour(-256-256i), "great bursts")
	for name, line := range brokenLines() {
		check(line, odd, "the first one is: "+name)
		check(even, line, "the second one is: "+name)
		check(line, line, "both are: "+name)
	}
	for _, line := range brokenBursts() {
		check(line, odd, "the first burst is refused")
		check(even, line, "the second burst is refused")
	}
}

func TestIsKilledLooksAtTheBurstsAlone(t *testing.T) {
	for _, line := range refusedLines() {
		even, odd := slices.Concat(lineWithColour(evenBurst)[:24], line[24:]), slices.Concat(lineWithColour(oddBurst)[:24], line[24:])
		short := impl.MakeLine(greyRow(1), true)
		if impl.IsKilled(even, odd, 1) || impl.IsKilled(even, short, 1) || !impl.IsKilled(even, odd, above(1)) || !impl.IsKilled(even, short, above(1)) {
			t.Errorf("IsKilled looks at the cells of %v", line)
		}
	}
}

func TestIsKilledOfSomeLines(t *testing.T) {
	r := rand.New(rand.NewPCG(7, 12))
	seen := [2]int{}
	for range 5000 {
		a, b := somePair(r)
		_, gain := hueOf(a, b)
		x := real(gain)
		for _, least := range []float32{x, -x, above(x), above(-x), -above(x), -above(-x), r.Float32() * 4, leasts[r.IntN(len(leasts))]} {
			got, want := impl.IsKilled(a, b, least), killed(a, b, least)
			if got != want {
				t.Errorf("IsKilled(%v, %v, %v) = %t", a, b, least, got)
			}
			if got {
				seen[1]++
			} else {
				seen[0]++
			}
		}
	}
	if slices.Min(seen[:]) < 5000 {
		t.Errorf("of the pairs tried, %v were kept and killed", seen)
	}
}
