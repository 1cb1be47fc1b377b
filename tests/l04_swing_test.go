package tests

import (
	"math/rand/v2"
	"slices"
	"testing"

	"loop.example/g03326/impl"
)

func TestSwing(t *testing.T) {
	tiny := float32(1e-30)
	cases := []struct {
		p, q complex64
		want int
	}{
		{-16 + 16i, -16 - 16i, 1},
		{-16 + 16i, -16 + 16i, 0},
		{-16 - 16i, -16 - 16i, 0},
		{0, 0, 0},
		{3 + 4i, 0, 0},
		{3 + 4i, 6 + 8i, 0},
		{3 + 4i, -3 - 4i, 0},
		{1, 1i, 1},
		{1, -1i, -1},
		{-1, 1i, -1},
		{-1, -1i, 1},
		{256 + 256i, -256 + 256i, 1},
		{256, 255.99998i, 1},
		// One of the two products alone would tell otherwise.
		{1 + 3i, 2 + 5i, -1},
		{1 - 3i, 2 - 5i, 1},
		{1 + 3i, 2 + 7i, 1},
		{3 + 1i, 5 + 2i, 1},
		// One of the products is 0.
		{3 + 1i, 3 - 1i, -1},
		{1 + 3i, -1 + 3i, 1},
		// Products that are too small are 0.
		{complex(tiny, 0), complex(0, tiny), 0},
		{complex(7e-24, 0), complex(0, 7e-23), 0},
		{complex(9e-24, 0), complex(0, 9e-23), 1},
		{complex(16, 0), complex(16, tiny), 1},
		{complex(-16, 0), complex(-16, tiny), -1},
		// The sum and the difference are rounded before they are multiplied.
		{complex(256, 1e-6), complex(1e-6, 0), 0},
		// The products are rounded before one is taken from the other.
		{complex(0.1, 0.3), 0, 0},
		{complex(above(1), above(3)), 0, 0},
	}
	for _, c := range cases {
		a, b := lineWithColour(c.p), lineWithColour(c.q)
		if got, back := impl.Swing(a, b), impl.Swing(b, a); got != c.want || back != -c.want {
			t.Errorf("Swing of lines with %v and %v = %d, and the other way round %d, want %d", c.p, c.q, got, back, c.want)
		}
	}
}

// swing returns what the document describes of lines with these colours.
func swing(p, q complex64) int {
	dr, di := difference(real(p), real(q)), difference(imag(p), imag(q))
	sr, si := sum(real(p), real(q)), sum(imag(p), imag(q))
	switch x := difference(product(di, sr), product(dr, si)); {
	case x < 0:
		return 1
	case x > 0:
		return -1
	}
	return 0
}

// hueGain returns what the document describes of lines with these colours.
func hueGain(p, q complex64) complex64 {
	return complex(quotient(sum(real(p), real(q)), -32), quotient(sum(imag(p), imag(q)), -32))
}

// checkHue reports if Swing and HueGain do not give what the document describes, also for lines
// that changed places.
func checkHue(t *testing.T, a, b []float32) {
	t.Helper()
	p, _ := burstColour(a)
	q, _ := burstColour(b)
	got, back := impl.Swing(a, b), impl.Swing(b, a)
	if got != swing(p, q) || back != -got {
		t.Errorf("Swing(%v, %v) = %d, and the other way round %d, want %d", a, b, got, back, swing(p, q))
	}
	gain, ok := impl.HueGain(a, b)
	if !ok || !sameColour(gain, hueGain(p, q)) {
		t.Errorf("HueGain(%v, %v) = %v, %t, want %v", a, b, gain, ok, hueGain(p, q))
	}
	if other, ok := impl.HueGain(b, a); !ok || !sameColour(other, gain) {
		t.Errorf("HueGain(%v, %v) = %v, %t, and the other way round %v", b, a, other, ok, gain)
	}
}

func TestHueOfSomeLines(t *testing.T) {
	r := rand.New(rand.NewPCG(4, 7))
	for range 3000 {
		a, b := someBurstLine(r), someBurstLine(r)
		checkHue(t, a, b)
		checkHue(t, a, a)
		c := complex((r.Float32()-0.5)*64, (r.Float32()-0.5)*64)
		near := complex(above(real(c)), imag(c))
		checkHue(t, lineWithColour(c), lineWithColour(near))
		checkHue(t, lineWithColour(c), lineWithColour(complex(real(c)*0.1, imag(c)*0.1)))
		checkHue(t, lineWithColour(c), lineWithColour(0))
		checkHue(t, lineWithColour(c), lineWithColour(-c))
	}
}

func TestHueGain(t *testing.T) {
	zero := negativeZero
	cases := []struct{ p, q, want complex64 }{
		{-16 + 16i, -16 - 16i, complex(1, zero)},
		{16 - 16i, 16 + 16i, complex(-1, zero)},
		{-16 + 16i, -16 + 16i, 1 - 1i},
		{32 + 64i, 96 - 96i, -4 + 1i},
		{256 + 256i, 256 + 256i, -16 - 16i},
		{0, 0, complex(zero, zero)},
		{complex(zero, zero), complex(zero, zero), 0},
		{1 + 2i, -1 - 2i, complex(zero, zero)},
		{complex(256, 0.00001), complex(0.00001, 256), -8 - 8i},
		{complex(1e-44, 2.2e-44), complex(1e-44, 2.4e-44), complex(zero, -1e-45)},
	}
	for _, c := range cases {
		a, b := lineWithColour(c.p), lineWithColour(c.q)
		if got, ok := impl.HueGain(a, b); !ok || !sameColour(got, c.want) {
			t.Errorf("HueGain of lines with %v and %v = %v, %t, want %v", c.p, c.q, got, ok, c.want)
		}
	}
}

func TestHueOfMadeLines(t *testing.T) {
	r := rand.New(rand.NewPCG(4, 8))
	for cells := 1; cells <= impl.MaxCells; cells++ {
		row, other := someRow(r, cells), someRow(r, 1+r.IntN(64))
		for _, second := range [][]impl.Cell{row, other} {
			even, odd := impl.MakeLine(row, false), impl.MakeLine(second, true)
			if x, y := impl.Swing(even, odd), impl.Swing(odd, even); x != 1 || y != -1 {
				t.Errorf("Swing of the lines of %v, and of %v that is odd, = %d, and the other way round %d", row, second, x, y)
			}
			g, ok := impl.HueGain(even, odd)
			h, fine := impl.HueGain(odd, even)
			if !ok || !fine || g != 1 || h != 1 {
				t.Errorf("HueGain of the lines of %v, and of %v that is odd, = %v, and the other way round %v", row, second, g, h)
			}
			for _, isOdd := range []bool{false, true} {
				if x := impl.Swing(impl.MakeLine(row, isOdd), impl.MakeLine(second, isOdd)); x != 0 {
					t.Errorf("Swing of lines with odd %t is %d", isOdd, x)
				}
			}
		}
	}
}

func TestHueOfALineAndItself(t *testing.T) {
	r := rand.New(rand.NewPCG(4, 9))
	for range 300 {
		line := someBurstLine(r)
		p, _ := impl.BurstColour(line)
		if x := impl.Swing(line, line); x != 0 {
			t.Errorf("Swing of %v and itself is %d", line, x)
		}
		if g, ok := impl.HueGain(line, line); !ok || !sameColour(g, hueGain(p, p)) {
			t.Errorf("HueGain of %v and itself is %v, %t", line, g, ok)
		}
	}
}

func TestHueOfLinesWhoseColoursWereMultiplied(t *testing.T) {
	r := rand.New(rand.NewPCG(4, 10))
	for x := -8; x <= 8; x++ {
		for y := -8; y <= 8; y++ {
			g := complex(float64(x)/4, float64(y)/4)
			row := plainRow(r, 1+r.IntN(64))
			even := turnedLine(impl.MakeLine(row, false), g)
			odd := turnedLine(impl.MakeLine(row, true), g)
			want := 1
			if g == 0 {
				want = 0
			}
			if got, back := impl.Swing(even, odd), impl.Swing(odd, even); got != want || back != -want {
				t.Errorf("Swing of lines whose colours were multiplied by %v = %d, and the other way round %d", g, got, back)
			}
			if got, ok := impl.HueGain(even, odd); !ok || got != complex64(g) {
				t.Errorf("HueGain of lines whose colours were multiplied by %v = %v, %t", g, got, ok)
			}
			if got, ok := impl.HueGain(odd, even); !ok || got != complex64(g) {
				t.Errorf("HueGain of lines whose colours were multiplied by %v, the other way round = %v, %t", g, got, ok)
			}
		}
	}
}

// checkNoHue reports if lines of which at least one has no BurstColour swing or have a gain.
func checkNoHue(t *testing.T, a, b []float32, name string) {
	t.Helper()
	if got := impl.Swing(a, b); got != 0 {
		t.Errorf("Swing = %d: %s", got, name)
	}
	if got, ok := impl.HueGain(a, b); ok || !sameColour(got, 0) {
		t.Errorf("HueGain = %v, %t: %s", got, ok, name)
	}
}

func TestHueInvalid(t *testing.T) {
	even, odd := impl.MakeLine(greyRow(2), false), impl.MakeLine(greyRow(2), true)
	for name, line := range brokenLines() {
		for _, good := range [][]float32{even, odd} {
			checkNoHue(t, line, good, "the first one is: "+name)
			checkNoHue(t, good, line, "the second one is: "+name)
		}
		checkNoHue(t, line, line, "both are: "+name)
	}
	for _, line := range brokenBursts() {
		checkNoHue(t, line, odd, "the first burst is refused")
		checkNoHue(t, even, line, "the second burst is refused")
		checkNoHue(t, line, line, "both bursts are refused")
	}
}

func TestMeasuringChangesNoArgument(t *testing.T) {
	r := rand.New(rand.NewPCG(4, 11))
	row := greyRow(2)
	broken := slices.Repeat([]float32{notANumber}, 32)
	lines := [][]float32{impl.MakeLine(row, false), impl.MakeLine(row, true), someBurstLine(r), brokenBursts()[0], broken, nil}
	for i := range lines {
		lines[i] = roomy(lines[i], countingSamples(300)...)
	}
	before := memoryOf(lines)
	for _, a := range lines {
		impl.LineOk(a)
		impl.BurstColour(a)
		for _, b := range lines {
			impl.Swing(a, b)
			impl.HueGain(a, b)
		}
	}
	if memoryOf(lines) != before {
		t.Error("an argument was changed")
	}
}
