package tests

import (
	"math"
	"math/rand/v2"
	"slices"
	"testing"

	"loop.example/g03326/impl"
)

func TestChannelConstants(t *testing.T) {
	if got := []int{impl.MaxSamples, impl.MaxGain, impl.MaxOffset}; !slices.Equal(got, []int{4096, 16, 64}) {
		t.Error("unexpected constants", got)
	}
}

func TestChannelOk(t *testing.T) {
	for _, a := range gainsOfBrightness {
		for _, offset := range around(64) {
			for _, x := range around(16) {
				for _, y := range around(16) {
					if ch := (impl.Channel{A: a, Offset: offset, G: complex(x, y)}); !impl.ChannelOk(ch) {
						t.Errorf("ChannelOk(%v) is false", ch)
					}
				}
			}
		}
	}
}

func TestChannelOkInvalid(t *testing.T) {
	for _, ch := range brokenChannels() {
		if impl.ChannelOk(ch) {
			t.Errorf("ChannelOk(%v) is true", ch)
		}
	}
}

func TestSamplesOkNumberOfSamples(t *testing.T) {
	for n := range 5000 {
		want := n >= 4 && n <= 4096 && n%4 == 0
		if got := impl.SamplesOk(make([]float32, n)); got != want {
			t.Errorf("SamplesOk of %d samples is %t", n, got)
		}
	}
	if impl.SamplesOk(nil) {
		t.Error("SamplesOk(nil) is true")
	}
}

func TestSamplesOkLooksAtEachSample(t *testing.T) {
	valid := []float32{0, negativeZero, 1, -1, 1e-45, -1e-45, 257, -257, 1023.99994, -1023.99994, 1024, -1024}
	for _, n := range []int{4, 8, 12, 256, 260, impl.MaxSamples} {
		samples := make([]float32, n)
		for at := range samples {
			for _, x := range valid {
				if samples[at] = x; !impl.SamplesOk(samples) {
					t.Errorf("SamplesOk is false with %g at %d of %d", x, at, n)
				}
			}
			for _, x := range samplesNoLineHas {
				if samples[at] = x; impl.SamplesOk(samples) {
					t.Errorf("SamplesOk is true with %g at %d of %d", x, at, n)
				}
			}
			samples[at] = 1024
		}
	}
}

func TestSamplesOkInvalid(t *testing.T) {
	for name, samples := range brokenSamples() {
		if impl.SamplesOk(samples) {
			t.Errorf("SamplesOk is true: %s", name)
		}
	}
}

func TestSamplesOkLooksAtTheSamplesAlone(t *testing.T) {
	samples := roomy([]float32{1, 2, 3, 4}, notANumber, infinite)
	before := memoryOf(samples)
	if !impl.SamplesOk(samples) || impl.SamplesOk(samples[:3]) {
		t.Error("SamplesOk looks behind the samples")
	}
	if memoryOf(samples) != before {
		t.Error("SamplesOk changes its argument")
	}
}

func TestTimes(t *testing.T) {
	zero, inf, nan, big := negativeZero, infinite, notANumber, float32(math.MaxFloat32)
	// The square of one is rounded to the other.
	one := above(1)
	square := above(one)
	cases := []struct{ c, g, want complex64 }{
		{1 + 2i, 3 + 4i, -5 + 10i},
		{2 + 3i, 5 - 7i, 31 + 1i},
		{1i, 1i, -1},
		{-3 + 2i, 1i, -2 - 3i},
		{3 + 2i, -1i, 2 - 3i},
		{3 + 2i, -1, complex(-3, -2)},
		{0, 5 + 7i, 0},
		{256 - 256i, 16 + 16i, 8192},
		// Signs of 0.
		{3 + 2i, 0, complex(0, 0)},
		{-3 + 2i, 0, complex(zero, 0)},
		{3 + 2i, complex(zero, zero), complex(0, zero)},
		{-3 - 2i, complex(zero, zero), complex(0, 0)},
		{3 - 2i, complex(zero, zero), complex(zero, 0)},
		{complex(zero, 2), 1, complex(zero, 2)},
		{complex(zero, zero), 1, complex(0, zero)},
		{complex(zero, 0), 1, complex(zero, 0)},
		{complex(zero, 0), complex(1, zero), complex(0, 0)},
		// Each of the four products is rounded: without this, a last digit would be left.
		{complex(one, 1), complex(one, square), complex(0, sum(product(one, square), one))},
		{complex(1, one), complex(square, one), complex(0, sum(one, product(one, square)))},
		{complex(one, -1), complex(square, one), complex(sum(product(one, square), one), 0)},
		{complex(-1, one), complex(one, square), complex(difference(-one, product(one, square)), 0)},
		{complex(0.1, 0.3), complex(0.3, 0.1), complex(0, sum(product(0.1, 0.1), product(0.3, 0.3)))},
		{complex(16777216, 1), complex(1, -1), complex(16777216, -16777215)},
		{complex(16777216, 3), complex(1, -1), complex(16777220, -16777213)},
		// Products that are too small are 0, and those that are too large infinite.
		{complex(1e-30, 1), complex(1e-30, 0), complex(0, 1e-30)},
		{complex(1e-30, 0), complex(-1e-30, 0), complex(zero, 0)},
		{complex(big, 0), complex(2, 0), complex(inf, 0)},
		{complex(big, big), complex(2, 2), complex(nan, inf)},
		{complex(big, big), complex(1, -1), complex(inf, 0)},
		{complex(big, -big), complex(1, 1), complex(inf, 0)},
		{complex(1e30, 1), complex(1e30, 1), complex(inf, 2e30)},
		// A product of complex numbers in the sense of other languages would be infinite.
		{complex(inf, 1), complex(1, 0), complex(inf, nan)},
		{complex(inf, 1), complex(2, 3), complex(inf, inf)},
		{complex(2, -inf), complex(2, 3), complex(inf, -inf)},
		{complex(inf, inf), complex(2, 3), complex(nan, inf)},
		{complex(inf, inf), complex(inf, inf), complex(nan, inf)},
		{complex(inf, 0), complex(0, 1), complex(nan, inf)},
		{complex(inf, 0), 0, complex(nan, nan)},
		{complex(nan, 1), complex(2, 3), complex(nan, nan)},
		{complex(1, nan), complex(2, 3), complex(nan, nan)},
		{complex(1, 2), complex(nan, 3), complex(nan, nan)},
		{complex(1, 2), complex(3, nan), complex(nan, nan)},
		{complex(nan, 0), 0, complex(nan, nan)},
	}
	for _, c := range cases {
		if got := impl.Times(c.c, c.g); !sameColour(got, c.want) {
			t.Errorf("Times(%v, %v) = %v, want %v", c.c, c.g, got, c.want)
		}
		if got := impl.Times(c.g, c.c); !sameColour(got, c.want) {
			t.Errorf("Times(%v, %v) = %v, want %v", c.g, c.c, got, c.want)
		}
	}
}

func TestTimesOfManyNumbers(t *testing.T) {
	numbers := []float32{0, negativeZero, 1, -1, 0.1, 1e-45, -1e-45, 1e-30, above(1), 256, -100.3, 16777216, 1e30, math.MaxFloat32, -math.MaxFloat32, infinite, -infinite, notANumber}
	for _, a := range numbers {
		for _, b := range numbers {
			for _, x := range numbers {
				for _, y := range numbers {
					checkTimes(t, complex(a, b), complex(x, y))
				}
			}
		}
	}
}

func TestTimesOfSomeColours(t *testing.T) {
	r := rand.New(rand.NewPCG(5, 1))
	for range 100000 {
		c := complex(someLevel(r), someLevel(r))
		checkTimes(t, c, complex(somePart(r, 16), somePart(r, 16)))
		if got, back := impl.Times(c, 1), impl.Times(1, c); got != c || back != c {
			t.Errorf("%v times 1 is %v, and 1 times it %v", c, got, back)
		}
	}
}

// checkTimes reports if Times does not give what the document describes, or gives something else
// for factors that change places.
func checkTimes(t *testing.T, c, g complex64) {
	t.Helper()
	got, back := impl.Times(c, g), impl.Times(g, c)
	if want := times(c, g); !sameColour(got, want) || !sameColour(back, got) {
		t.Errorf("Times(%v, %v) = %v, and the other way round %v, want %v", c, g, got, back, want)
	}
}

func TestPower(t *testing.T) {
	zero, inf, nan, big := negativeZero, infinite, notANumber, float32(math.MaxFloat32)
	half := float32(1.0 / 4096)
	cases := []struct {
		g    complex64
		want float32
	}{
		{3 + 4i, 25},
		{-3 + 4i, 25},
		{3 - 4i, 25},
		{-3 - 4i, 25},
		{16 + 16i, 512},
		{2, 4},
		{2i, 4},
		{0, 0},
		{complex(zero, zero), 0},
		{complex(1e-30, 1e-30), 0},
		{complex(-1e-23, 1e-23), 0},
		{complex(3e-23, 0), 1e-45},
		{complex(2.7e-23, 2.7e-23), 3e-45},
		{complex(1e20, 0), inf},
		{complex(0, -1e20), inf},
		{complex(1.5e19, 1.5e19), inf},
		{complex(1<<63, -1<<63), 1 << 127},
		{complex(big, big), inf},
		{complex(inf, 1), inf},
		{complex(1, -inf), inf},
		{complex(inf, nan), nan},
		{complex(nan, 1), nan},
		{complex(1, nan), nan},
		// Each square is rounded first: the last digit of that of above(1) would lift the sum.
		{complex(above(1), half), above(above(1))},
		{complex(half, above(1)), above(above(1))},
		// So is the sum: 2^24 and 1 are 2^24.
		{complex(4096, 1), 16777216},
		{complex(1, 4096), 16777216},
	}
	for _, c := range cases {
		if got := impl.Power(c.g); !sameFloat(got, c.want) {
			t.Errorf("Power(%v) = %v, want %v", c.g, got, c.want)
		}
	}
	for _, x := range manyNumbers {
		for _, y := range manyNumbers {
			checkPower(t, complex(x, y))
		}
	}
	r := rand.New(rand.NewPCG(5, 2))
	for range 20000 {
		checkPower(t, complex(somePart(r, 16), somePart(r, 16)))
		checkPower(t, complex(somePart(r, 1e-22), somePart(r, 1e-22)))
	}
}

func checkPower(t *testing.T, g complex64) {
	t.Helper()
	if got, want := impl.Power(g), power(g); !sameFloat(got, want) {
		t.Errorf("Power(%v) = %v, want %v", g, got, want)
	}
}
