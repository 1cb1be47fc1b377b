package tests

import (
	"math/rand/v2"
	"slices"
	"testing"

	"loop.example/g03326/impl"
)

func TestTransmit(t *testing.T) {
	zero, one := negativeZero, above(1)
	half := float32(1.0 / (1 << 24)) // of the last digit of 1
	cases := []struct {
		ch            impl.Channel
		samples, want [4]float32
	}{
		{impl.Channel{A: 2, Offset: 1, G: 1i}, [4]float32{13, 8, 7, 12}, [4]float32{19, 18, 23, 24}},
		{sound, [4]float32{13, 8, 7, 12}, [4]float32{13, 8, 7, 12}},
		{sound, [4]float32{1, 2, 4, 8}, [4]float32{2.25, 0.75, 5.25, 6.75}},
		{impl.Channel{A: 1}, [4]float32{13, 8, 7, 12}, [4]float32{10, 10, 10, 10}},
		{impl.Channel{A: 1, G: -1}, [4]float32{13, 8, 7, 12}, [4]float32{7, 12, 13, 8}},
		{impl.Channel{A: 1, G: 1i}, [4]float32{13, 8, 7, 12}, [4]float32{8, 7, 12, 13}},
		{impl.Channel{A: 1, G: -1i}, [4]float32{13, 8, 7, 12}, [4]float32{12, 13, 8, 7}},
		{impl.Channel{A: 0.5, Offset: -4, G: 1 + 2i}, [4]float32{13, 8, 7, 12}, [4]float32{0, -7, 2, 9}},
		{impl.Channel{A: 1, Offset: 64, G: 1}, [4]float32{}, [4]float32{64, 64, 64, 64}},
		{impl.Channel{A: 16, Offset: -64, G: 16 - 16i}, [4]float32{13, 8, 7, 12}, [4]float32{176, 112, 16, 80}},
		// The limits of samples.
		{sound, [4]float32{1024, 1024, 1024, 1024}, [4]float32{1024, 1024, 1024, 1024}},
		{sound, [4]float32{-1024, -1024, -1024, -1024}, [4]float32{-1024, -1024, -1024, -1024}},
		{sound, [4]float32{1024, -1024, -1024, 1024}, [4]float32{1024, -1024, -1024, 1024}},
		{impl.Channel{A: 16, Offset: 64, G: 1}, [4]float32{60, 60, 60, 60}, [4]float32{1024, 1024, 1024, 1024}},
		{impl.Channel{A: 16, Offset: -64, G: 1}, [4]float32{-60, -60, -60, -60}, [4]float32{-1024, -1024, -1024, -1024}},
		{impl.Channel{A: 1, G: 16}, [4]float32{64, -64, -64, 64}, [4]float32{1024, -1024, -1024, 1024}},
		{impl.Channel{A: 1, G: 16i}, [4]float32{64, -64, -64, 64}, [4]float32{-1024, -1024, 1024, 1024}},
		// Cells that DecodeCells refuses.
		{impl.Channel{A: 0.5, G: 0.5}, [4]float32{1024, 0, 0, 0}, [4]float32{384, 128, -128, 128}},
		{impl.Channel{A: 0.25, Offset: 3, G: 1}, [4]float32{512, 512, 512, 512}, [4]float32{131, 131, 131, 131}},
		{impl.Channel{A: 1, G: 1i}, [4]float32{0, -1024, 0, 1024}, [4]float32{-1024, 0, 1024, 0}},
		// Signs of 0. The brightness and the real part are sums with 0 here.
		{impl.Channel{A: 1, Offset: 0, G: 1}, [4]float32{zero, zero, zero, zero}, [4]float32{0, 0, 0, 0}},
		{impl.Channel{A: 1, Offset: zero, G: 1}, [4]float32{zero, zero, zero, zero}, [4]float32{0, zero, zero, 0}},
		{impl.Channel{A: 1, Offset: zero, G: 0}, [4]float32{zero, zero, zero, zero}, [4]float32{0, zero, zero, 0}},
		{impl.Channel{A: 1, Offset: zero, G: complex(zero, zero)}, [4]float32{zero, zero, zero, zero}, [4]float32{0, 0, zero, zero}},
		// The product of A and the brightness is rounded before the offset is added, and so is this sum before the colour is.
		{impl.Channel{A: one, Offset: -above(one), G: 1}, [4]float32{one, one, one, one}, [4]float32{0, 0, 0, 0}},
		{impl.Channel{A: 1, Offset: half, G: complex(half, 0)}, [4]float32{2, 1, 0, 1}, [4]float32{1, 1, 1 - half, 1}},
		{impl.Channel{A: 1, Offset: half, G: complex(0, half)}, [4]float32{2, 1, 0, 1}, [4]float32{1, 1 - half, 1, 1}},
	}
	for _, c := range cases {
		samples := append([]float32{3, -3, -1, 5}, c.samples[:]...)
		want := append(transmitted(c.ch, samples[:4]), c.want[:]...)
		if got, ok := impl.Transmit(c.ch, samples); !ok || !sameSamples(got, want) {
			t.Errorf("Transmit(%v, %v) = %v, %t, want %v", c.ch, samples, got, ok, want)
		}
		if got, ok := impl.Transmit(c.ch, c.samples[:]); !ok || !sameSamples(got, c.want[:]) {
			t.Errorf("Transmit(%v, %v) = %v, %t, want %v", c.ch, c.samples, got, ok, c.want)
		}
	}
}

// checkTransmit reports if Transmit does not give what the document describes, and returns
// whether there are samples.
func checkTransmit(t *testing.T, ch impl.Channel, samples []float32) bool {
	t.Helper()
	var want []float32
	if channelInRange(ch) && allSamplesOk(samples) {
		if made := transmitted(ch, samples); allSamplesOk(made) {
			want = made
		}
	}
	got, ok := impl.Transmit(ch, samples)
	if ok != (want != nil) || !sameSamples(got, want) {
		t.Errorf("Transmit(%v, %v) = %v, %t, want %v", ch, samples, got, ok, want)
	}
	return ok
}

func TestTransmitSomeSamples(t *testing.T) {
	r := rand.New(rand.NewPCG(5, 3))
	through := 0
	for i := range 20000 {
		samples := someValidSamples(r, 1+r.IntN(3))
		if i%10 == 0 {
			samples = someSamples(r, r.IntN(9))
		}
		if checkTransmit(t, someChannel(r), samples) {
			through++
		}
		checkTransmit(t, sound, samples)
	}
	if through < 5000 || through > 15000 {
		t.Errorf("of the samples tried, %d come through", through)
	}
}

func TestTransmitEachNumberOfSamples(t *testing.T) {
	r := rand.New(rand.NewPCG(5, 4))
	for _, n := range []int{0, 1, 2, 3, 4, 5, 8, 255, 256, 257, 260, 264, 4092, 4095, 4096, 4097, 4100, 8192} {
		samples := make([]float32, n)
		for i := range samples {
			samples[i] = (r.Float32()*2 - 1) * 64
		}
		got := checkTransmit(t, impl.Channel{A: 0.7, Offset: 3, G: 1.1 - 0.3i}, samples)
		if want := n%4 == 0 && n >= 4 && n <= 4096; got != want {
			t.Errorf("Transmit of %d samples is %t", n, got)
		}
	}
}

func TestTransmitInvalid(t *testing.T) {
	good := countingSamples(8)
	for _, ch := range brokenChannels() {
		for _, samples := range [][]float32{good, make([]float32, 4), {notANumber, 0, 0, 0}, nil} {
			if got, ok := impl.Transmit(ch, samples); ok || len(got) != 0 {
				t.Errorf("Transmit(%v, %v) = %v, %t", ch, samples, got, ok)
			}
		}
	}
	for name, samples := range brokenSamples() {
		for _, ch := range []impl.Channel{sound, {A: 1}, {A: 0.01, G: 0.01}, {}} {
			if got, ok := impl.Transmit(ch, samples); ok || len(got) != 0 {
				t.Errorf("Transmit through %v has %d samples, %t: %s", ch, len(got), ok, name)
			}
		}
	}
}

func TestTransmitSamplesThatBecomeTooLarge(t *testing.T) {
	over := above(1024)
	cases := []struct {
		ch   impl.Channel
		four [4]float32
	}{
		{impl.Channel{A: 16, G: 1}, [4]float32{100, 100, 100, 100}},
		{impl.Channel{A: 16, G: 1}, [4]float32{-100, -100, -100, -100}},
		{impl.Channel{A: 1, Offset: 1, G: 1}, [4]float32{1024, 1024, 1024, 1024}},
		{impl.Channel{A: 1, Offset: -1, G: 1}, [4]float32{-1024, -1024, -1024, -1024}},
		{impl.Channel{A: 1, Offset: over - 1024, G: 1}, [4]float32{1024, 1024, 1024, 1024}},
		{impl.Channel{A: above(1), G: 1}, [4]float32{1024, 1024, 1024, 1024}},
		{sound, [4]float32{1024, 0, -1024, 1024}},
		{sound, [4]float32{0, 1024, 1024, -1024}},
		// One sample alone becomes too large.
		{impl.Channel{A: 1, G: 2}, [4]float32{1000, 600, 200, 600}},
		{impl.Channel{A: 1, G: 2i}, [4]float32{1000, 600, 200, 600}},
		{impl.Channel{A: 1, G: -2}, [4]float32{1000, 600, 200, 600}},
		{impl.Channel{A: 1, G: -2i}, [4]float32{1000, 600, 200, 600}},
	}
	for _, c := range cases {
		for _, n := range []int{1, 3, 65, 1024} {
			for _, at := range []int{0, n / 2, n - 1} {
				samples := levelWithSamples(n, at, c.four)
				if got, ok := impl.Transmit(c.ch, samples); ok || len(got) != 0 {
					t.Errorf("Transmit through %v has %d samples, %t: %v in cell %d of %d", c.ch, len(got), ok, c.four, at, n)
				}
			}
		}
	}
}

func TestPlainRowsComeThroughASoundChannel(t *testing.T) {
	r := rand.New(rand.NewPCG(5, 5))
	for i := range 10 * impl.MaxCells {
		row := plainRow(r, 1+i%impl.MaxCells)
		for _, odd := range []bool{false, true} {
			samples := impl.EncodeCells(row, odd)
			for _, offset := range []float32{0, negativeZero} {
				for _, y := range []float32{0, negativeZero} {
					ch := impl.Channel{A: 1, Offset: offset, G: complex(1, y)}
					if got, ok := impl.Transmit(ch, samples); !ok || !slices.Equal(got, samples) {
						t.Errorf("Transmit(%v, %v) = %v, %t", ch, samples, got, ok)
					}
				}
			}
		}
	}
}

func TestTransmittedSamplesHaveMemoryOfTheirOwn(t *testing.T) {
	r := rand.New(rand.NewPCG(5, 6))
	for _, n := range []int{4, 12, 260} {
		samples := roomy(countingSamples(n), countingSamples(300)...)
		for _, ch := range []impl.Channel{sound, {A: 1}, {A: 0.5, Offset: 2, G: 1 - 2i}} {
			checkMemory(t, "Transmit", func() any { made, _ := impl.Transmit(ch, samples); return made }, samples)
		}
		for _, cells := range []int{0, 1, impl.MaxCells} {
			for _, k := range []float32{0, 1, -0.5} {
				checkMemory(t, "Echo", func() any { made, _ := impl.Echo(samples, cells, k); return made }, samples)
			}
		}
	}
	refused := roomy(slices.Concat(someValidSamples(r, 2), []float32{1024, 1024, 1024, notANumber}), countingSamples(300)...)
	for n := range len(refused) + 1 {
		samples := refused[:n]
		before := memoryOf(samples)
		impl.Transmit(impl.Channel{A: 2, G: 1}, samples)
		impl.Transmit(impl.Channel{}, samples)
		impl.Echo(samples, 1, 1)
		impl.Echo(samples, 0, 16)
		impl.Echo(samples, -1, 1)
		if memoryOf(samples) != before {
			t.Errorf("samples were changed: %v", samples)
		}
	}
}
