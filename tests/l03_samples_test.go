package tests

import (
	"math"
	"math/rand/v2"
	"testing"

	"loop.example/g03326/impl"
)

// brightnessOf returns, of samples that have a row, what the document describes.
func brightnessOf(samples []float32) []float32 {
	brightness := make([]float32, len(samples))
	for i := range brightness {
		brightness[i] = decoded(samples, false)[i/4].Y
	}
	return brightness
}

func TestBrightnessAndColouring(t *testing.T) {
	zero, big := negativeZero, float32(math.MaxFloat32)
	cases := []struct{ samples, brightness, colouring []float32 }{
		{[]float32{13, 8, 7, 12}, []float32{10, 10, 10, 10}, []float32{3, -2, -3, 2}},
		{[]float32{13, 8, 7, 12, 1, 1, 1, 1}, []float32{10, 10, 10, 10, 1, 1, 1, 1}, []float32{3, -2, -3, 2, 0, 0, 0, 0}},
		{[]float32{1, 2, 4, 8}, []float32{3.75, 3.75, 3.75, 3.75}, []float32{-2.75, -1.75, 0.25, 4.25}},
		{[]float32{0, 0, 0, 0}, []float32{0, 0, 0, 0}, []float32{0, 0, 0, 0}},
		{[]float32{zero, zero, zero, zero}, []float32{zero, zero, zero, zero}, []float32{0, 0, 0, 0}},
		{[]float32{zero, 0, 0, zero}, []float32{0, 0, 0, 0}, []float32{zero, 0, 0, zero}},
		{[]float32{256, 256, 256, 256}, []float32{256, 256, 256, 256}, []float32{0, 0, 0, 0}},
		{[]float32{512, 512, 0, 0}, []float32{256, 256, 256, 256}, []float32{256, 256, -256, -256}},
		{[]float32{big, -big, big, -big}, []float32{0, 0, 0, 0}, []float32{big, -big, big, -big}},
		{[]float32{1e-45, 1e-45, 1e-45, 0}, []float32{1e-45, 1e-45, 1e-45, 1e-45}, []float32{0, 0, 0, -1e-45}},
	}
	for _, c := range cases {
		if got, ok := impl.Brightness(c.samples); !ok || !sameSamples(got, c.brightness) {
			t.Errorf("Brightness(%v) = %v, %t, want %v", c.samples, got, ok, c.brightness)
		}
		if got, ok := impl.Colouring(c.samples); !ok || !sameSamples(got, c.colouring) {
			t.Errorf("Colouring(%v) = %v, %t, want %v", c.samples, got, ok, c.colouring)
		}
	}
}

// checkSplit reports if Brightness and Colouring do not give what the document describes.
func checkSplit(t *testing.T, samples []float32) {
	t.Helper()
	var wantBrightness, wantColouring []float32
	_, want := impl.DecodeCells(samples, false)
	if want {
		wantBrightness = brightnessOf(samples)
		for i, x := range samples {
			wantColouring = append(wantColouring, difference(x, wantBrightness[i]))
		}
	}
	if got, ok := impl.Brightness(samples); ok != want || !sameSamples(got, wantBrightness) {
		t.Errorf("Brightness(%v) = %v, %t, want %v", samples, got, ok, wantBrightness)
	}
	if got, ok := impl.Colouring(samples); ok != want || !sameSamples(got, wantColouring) {
		t.Errorf("Colouring(%v) = %v, %t, want %v", samples, got, ok, wantColouring)
	}
}

func TestBrightnessAndColouringOfSomeSamples(t *testing.T) {
	r := rand.New(rand.NewPCG(3, 6))
	for cells := 1; cells <= impl.MaxCells; cells++ {
		checkSplit(t, impl.EncodeCells(someRow(r, cells), cells%2 == 0))
	}
	for range 2000 {
		checkSplit(t, someCellSamples(r, 1+r.IntN(3)))
		checkSplit(t, someSamples(r, r.IntN(9)))
	}
}

func TestBrightnessAndColouringInvalid(t *testing.T) {
	var lists [][]float32
	for _, n := range []int{0, 1, 2, 3, 5, 6, 7, 9, 255, 257, 258, 259, 260, 264, 4096} {
		lists = append(lists, make([]float32, n))
	}
	for _, four := range brokenCells() {
		lists = append(lists, levelWithSamples(1, 0, four), levelWithSamples(5, 4, four))
	}
	for _, samples := range append(lists, nil) {
		if got, ok := impl.Brightness(samples); ok || len(got) != 0 {
			t.Errorf("Brightness(%v) = %v, %t", samples, got, ok)
		}
		if got, ok := impl.Colouring(samples); ok || len(got) != 0 {
			t.Errorf("Colouring(%v) = %v, %t", samples, got, ok)
		}
	}
}

func TestBrightnessAndColouringOfPlainRowsAddUp(t *testing.T) {
	r := rand.New(rand.NewPCG(3, 7))
	for i := range 10 * impl.MaxCells {
		samples := impl.EncodeCells(plainRow(r, 1+i%impl.MaxCells), i%3 == 0)
		brightness, brightnessOk := impl.Brightness(samples)
		colouring, colouringOk := impl.Colouring(samples)
		got, ok := impl.AddSamples(brightness, colouring)
		if !brightnessOk || !colouringOk || !ok || len(got) != len(samples) {
			t.Fatalf("%v have %v and %v, with the sums %v", samples, brightness, colouring, got)
		}
		for at, x := range samples {
			if got[at] != x {
				t.Errorf("%v have %v and %v, with the sums %v", samples, brightness, colouring, got)
				break
			}
		}
	}
}

func TestAddSamples(t *testing.T) {
	cases := []struct{ a, b, want []float32 }{
		{nil, nil, nil},
		{nil, []float32{}, nil},
		{[]float32{}, []float32{}, nil},
		{[]float32{1}, []float32{2}, []float32{3}},
		{[]float32{1, 2, 3, 4, 5}, []float32{0.5, -2, 30, 0, -6}, []float32{1.5, 0, 33, 4, -1}},
		{[]float32{negativeZero, negativeZero, 0}, []float32{negativeZero, 0, negativeZero}, []float32{negativeZero, 0, 0}},
		{[]float32{infinite, infinite, -infinite, notANumber}, []float32{1, -infinite, -infinite, 1}, []float32{infinite, notANumber, -infinite, notANumber}},
		{[]float32{math.MaxFloat32, -math.MaxFloat32}, []float32{math.MaxFloat32, -1e38}, []float32{infinite, -infinite}},
		{[]float32{16777216, 16777216, 1e-45}, []float32{1, 3, 1e-45}, []float32{16777216, 16777220, 3e-45}},
		{[]float32{0.1, 1e30}, []float32{0.2, 1}, []float32{0.3, 1e30}},
	}
	for _, c := range cases {
		if got, ok := impl.AddSamples(c.a, c.b); !ok || !sameSamples(got, c.want) {
			t.Errorf("AddSamples(%v, %v) = %v, %t, want %v", c.a, c.b, got, ok, c.want)
		}
	}
}

func TestAddSamplesOfManyNumbers(t *testing.T) {
	for _, x := range manyNumbers {
		for _, y := range manyNumbers {
			if got, ok := impl.AddSamples([]float32{x, y}, []float32{y, x}); !ok || !sameSamples(got, []float32{sum(x, y), sum(y, x)}) {
				t.Errorf("AddSamples of %g and %g, and the other way round = %v, %t", x, y, got, ok)
			}
		}
	}
}

func TestAddSamplesNumberOfSamples(t *testing.T) {
	r := rand.New(rand.NewPCG(3, 8))
	for n := range 600 {
		a, b := someSamples(r, n), someSamples(r, n)
		var want []float32
		wantOk := n <= 4*impl.MaxCells
		for i := 0; wantOk && i < n; i++ {
			want = append(want, sum(a[i], b[i]))
		}
		if got, ok := impl.AddSamples(a, b); ok != wantOk || !sameSamples(got, want) {
			t.Errorf("AddSamples of %d samples = %v, %t, want %v", n, got, ok, want)
		}
		for _, other := range []int{0, 1, n - 1, n + 1, n + 4, 256, 257} {
			if other < 0 || other == n {
				continue
			}
			if got, ok := impl.AddSamples(a, make([]float32, other)); ok || len(got) != 0 {
				t.Errorf("AddSamples of %d samples and %d = %v, %t", n, other, got, ok)
			}
		}
	}
}

func TestDelay(t *testing.T) {
	cases := []struct {
		samples []float32
		cells   int
		want    []float32
	}{
		{nil, 0, nil},
		{nil, 1, nil},
		{[]float32{}, 64, nil},
		{[]float32{7}, 0, []float32{7}},
		{[]float32{7}, 1, []float32{0}},
		{[]float32{1, 2, 3, 4}, 1, []float32{0, 0, 0, 0}},
		{[]float32{1, 2, 3, 4, 5}, 1, []float32{0, 0, 0, 0, 1}},
		{[]float32{1, 2, 3, 4, 5, 6, 7, 8, 9, 10}, 1, []float32{0, 0, 0, 0, 1, 2, 3, 4, 5, 6}},
		{[]float32{1, 2, 3, 4, 5, 6, 7, 8, 9, 10}, 2, []float32{0, 0, 0, 0, 0, 0, 0, 0, 1, 2}},
		{[]float32{1, 2, 3, 4, 5, 6, 7, 8, 9, 10}, 3, make([]float32, 10)},
		{[]float32{negativeZero, notANumber, -infinite, infinite, 1e-45}, 0, []float32{negativeZero, notANumber, -infinite, infinite, 1e-45}},
		{[]float32{negativeZero, notANumber, -infinite, infinite, 1, 2, 3, 4}, 1, []float32{0, 0, 0, 0, negativeZero, notANumber, -infinite, infinite}},
		{[]float32{negativeZero, -1, -2}, 2, []float32{0, 0, 0}},
	}
	for _, c := range cases {
		if got, ok := impl.Delay(c.samples, c.cells); !ok || !sameSamples(got, c.want) {
			t.Errorf("Delay(%v, %d) = %v, %t, want %v", c.samples, c.cells, got, ok, c.want)
		}
	}
}

func TestDelayOfEachLength(t *testing.T) {
	for _, n := range []int{1, 3, 4, 5, 8, 252, 253, 255, 256, 257, 260, 1000, 4096, 20001} {
		samples := countingSamples(n)
		for cells := 0; cells <= impl.MaxCells; cells++ {
			want := append(make([]float32, 4*cells), samples...)[:n]
			if got, ok := impl.Delay(samples, cells); !ok || !sameSamples(got, want) {
				t.Errorf("Delay of %d samples by %d cells = %v, %t", n, cells, got, ok)
			}
		}
	}
}

func TestDelayInvalid(t *testing.T) {
	for _, cells := range []int{-1, -2, -64, 65, 66, 1 << 62, -1 << 62, 1<<62 + 1, math.MaxInt, math.MinInt} {
		for _, n := range []int{0, 1, 4, 300} {
			if got, ok := impl.Delay(countingSamples(n), cells); ok || len(got) != 0 {
				t.Errorf("Delay of %d samples by %d cells = %v, %t", n, cells, got, ok)
			}
		}
	}
}

func TestDelaysAddUp(t *testing.T) {
	r := rand.New(rand.NewPCG(3, 9))
	for all := 0; all <= impl.MaxCells; all++ {
		samples := someSamples(r, r.IntN(400))
		want, wantOk := impl.Delay(samples, all)
		for first := 0; first <= all; first++ {
			once, onceOk := impl.Delay(samples, first)
			twice, twiceOk := impl.Delay(once, all-first)
			if !wantOk || !onceOk || !twiceOk || !sameSamples(twice, want) {
				t.Errorf("%v are, delayed by %d and by %d, %v, and by both together %v", samples, first, all-first, twice, want)
			}
		}
	}
}

func TestSamplesHaveMemoryOfTheirOwn(t *testing.T) {
	r := rand.New(rand.NewPCG(3, 10))
	row := roomy(someRow(r, 3), someRow(r, 2)...)
	behind := countingSamples(300)
	samples := roomy(impl.EncodeCells(someRow(r, 3), false), behind...)
	others := roomy(countingSamples(12), behind...)
	for _, odd := range []bool{false, true} {
		checkMemory(t, "EncodeCells", func() any { return impl.EncodeCells(row, odd) }, row)
		checkMemory(t, "DecodeCells", func() any { cells, _ := impl.DecodeCells(samples, odd); return cells }, samples)
	}
	checkMemory(t, "Brightness", func() any { made, _ := impl.Brightness(samples); return made }, samples)
	checkMemory(t, "Colouring", func() any { made, _ := impl.Colouring(samples); return made }, samples)
	checkMemory(t, "AddSamples", func() any { made, _ := impl.AddSamples(samples, others); return made }, samples, others)
	checkMemory(t, "AddSamples of a list and itself", func() any { made, _ := impl.AddSamples(samples, samples); return made }, samples)
	for _, cells := range []int{0, 1, 3, impl.MaxCells} {
		checkMemory(t, "Delay", func() any { made, _ := impl.Delay(samples, cells); return made }, samples)
	}
}
