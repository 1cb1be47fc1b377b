package tests

import (
	"math"
	"math/rand/v2"
	"testing"

	"loop.example/g03326/impl"
)

func TestEcho(t *testing.T) {
	zero, one := negativeZero, above(1)
	small := float32(1.0 / (1 << 25))
	cases := []struct {
		samples []float32
		cells   int
		k       float32
		want    []float32
	}{
		{[]float32{1, 2, 3, 4, 5, 6, 7, 8}, 1, 0.5, []float32{1, 2, 3, 4, 5.5, 7, 8.5, 10}},
		{[]float32{1, 2, 3, 4, 5, 6, 7, 8}, 1, -1, []float32{1, 2, 3, 4, 4, 4, 4, 4}},
		{[]float32{1, 2, 3, 4, 5, 6, 7, 8}, 0, 1, []float32{2, 4, 6, 8, 10, 12, 14, 16}},
		{[]float32{1, 2, 3, 4, 5, 6, 7, 8}, 0, 0, []float32{1, 2, 3, 4, 5, 6, 7, 8}},
		{[]float32{1, 2, 3, 4, 5, 6, 7, 8}, 1, 0, []float32{1, 2, 3, 4, 5, 6, 7, 8}},
		{[]float32{1, 2, 3, 4, 5, 6, 7, 8}, 1, zero, []float32{1, 2, 3, 4, 5, 6, 7, 8}},
		{[]float32{1, 2, 3, 4, 5, 6, 7, 8}, 2, 100, []float32{1, 2, 3, 4, 5, 6, 7, 8}},
		{[]float32{1, 2, 3, 4, 5, 6, 7, 8}, 64, 1e30, []float32{1, 2, 3, 4, 5, 6, 7, 8}},
		{[]float32{1, 2, 3, 4}, 1, 1, []float32{1, 2, 3, 4}},
		{[]float32{0, 0, 0, 0, 1, 1, 1, 1}, 1, math.MaxFloat32, []float32{0, 0, 0, 0, 1, 1, 1, 1}},
		// The echo alone is delayed, and the echo has no echo.
		{[]float32{1, 0, 0, 0, 2, 0, 0, 0, 0, 0, 0, 3}, 1, 2, []float32{1, 0, 0, 0, 4, 0, 0, 0, 4, 0, 0, 3}},
		{[]float32{1, 0, 0, 0, 2, 0, 0, 0, 0, 0, 0, 3}, 2, 2, []float32{1, 0, 0, 0, 2, 0, 0, 0, 2, 0, 0, 3}},
		// The limits of samples.
		{[]float32{1024, -1024, 512, -512}, 0, 0, []float32{1024, -1024, 512, -512}},
		{[]float32{512, -512, 0, 1}, 0, 1, []float32{1024, -1024, 0, 2}},
		{[]float32{1024, -1024, 0, 0, 0, 0, 0, 0}, 1, -1, []float32{1024, -1024, 0, 0, -1024, 1024, 0, 0}},
		{[]float32{0.5, -0.5, 0, 0, 0, 0, 0, 0}, 1, 2048, []float32{0.5, -0.5, 0, 0, 1024, -1024, 0, 0}},
		{[]float32{1e-30, 0, 0, 0, 0, 1, 0, 0}, 1, 1e32, []float32{1e-30, 0, 0, 0, product(1e-30, 1e32), 1, 0, 0}},
		// Signs of 0: the zeros at the beginning are multiplied by k and added, too.
		{[]float32{zero, zero, 0, 0}, 1, 1, []float32{0, 0, 0, 0}},
		{[]float32{zero, zero, 0, 0}, 1, -1, []float32{zero, zero, 0, 0}},
		{[]float32{zero, zero, 0, 0}, 1, 0, []float32{0, 0, 0, 0}},
		{[]float32{zero, zero, 0, 0}, 1, zero, []float32{zero, zero, 0, 0}},
		{[]float32{zero, 0, 1, -1}, 0, 1, []float32{zero, 0, 2, -2}},
		{[]float32{zero, 0, 1, -1}, 0, 0, []float32{zero, 0, 1, -1}},
		{[]float32{zero, 0, 1, -1}, 0, zero, []float32{0, 0, 1, -1}},
		{[]float32{1, -1, 1, -1, zero, zero, 0, 0}, 1, zero, []float32{1, -1, 1, -1, zero, 0, 0, 0}},
		// The product is rounded before it is added, and the sum is rounded.
		{[]float32{one, 1, 0, 0, -above(one), 1, 0, 0}, 1, one, []float32{one, 1, 0, 0, 0, 2, 0, 0}},
		{[]float32{1, 1, 0, 0, 1, 2, 0, 0}, 1, small, []float32{1, 1, 0, 0, 1, 2, 0, 0}},
		{[]float32{1e-30, 0, 0, 0, 0, 1, 0, 0}, 1, 1e-30, []float32{1e-30, 0, 0, 0, 0, 1, 0, 0}},
		{[]float32{1024, 0, 0, 0, small, 0, 0, 0}, 1, 1, []float32{1024, 0, 0, 0, 1024, 0, 0, 0}},
	}
	for _, c := range cases {
		if got, ok := impl.Echo(c.samples, c.cells, c.k); !ok || !sameSamples(got, c.want) {
			t.Errorf("Echo(%v, %d, %v) = %v, %t, want %v", c.samples, c.cells, c.k, got, ok, c.want)
		}
	}
}

// checkEcho reports if Echo does not give what the document describes, and returns whether there
// are samples.
func checkEcho(t *testing.T, samples []float32, cells int, k float32) bool {
	t.Helper()
	var want []float32
	if allSamplesOk(samples) && cells >= 0 && cells <= 64 {
		if made := echoed(samples, cells, k); allSamplesOk(made) {
			want = made
		}
	}
	got, ok := impl.Echo(samples, cells, k)
	if ok != (want != nil) || !sameSamples(got, want) {
		t.Errorf("Echo(%v, %d, %v) = %v, %t, want %v", samples, cells, k, got, ok, want)
	}
	return ok
}

func TestEchoOfSomeSamples(t *testing.T) {
	r := rand.New(rand.NewPCG(5, 11))
	made := 0
	for i := range 20000 {
		samples := someValidSamples(r, 1+r.IntN(5))
		k := (r.Float32()*2 - 1) * 4
		switch r.IntN(6) {
		case 0:
			samples = someSamples(r, r.IntN(9))
		case 1:
			k = manyNumbers[r.IntN(len(manyNumbers))]
		}
		if checkEcho(t, samples, i%7-1, k) {
			made++
		}
	}
	if made < 8000 || made > 17000 {
		t.Errorf("of the echoes tried, %d are valid", made)
	}
}

func TestEchoOfEachLength(t *testing.T) {
	r := rand.New(rand.NewPCG(5, 12))
	for _, n := range []int{0, 1, 2, 3, 4, 5, 8, 252, 255, 256, 257, 260, 264, 4095, 4096, 4097, 4100} {
		samples := make([]float32, n)
		for i := range samples {
			samples[i] = (r.Float32()*2 - 1) * 256
		}
		for cells := -3; cells <= impl.MaxCells+3; cells++ {
			got := checkEcho(t, samples, cells, 0.7)
			want := n >= 4 && n <= 4096 && n%4 == 0 && cells >= 0 && cells <= 64
			if got != want {
				t.Errorf("Echo of %d samples by %d cells is %t", n, cells, got)
			}
		}
	}
}

func TestEchoInvalid(t *testing.T) {
	good := countingSamples(8)
	refuse := func(samples []float32, cells int, k float32, name string) {
		t.Helper()
		if got, ok := impl.Echo(samples, cells, k); ok || len(got) != 0 {
			t.Errorf("Echo by %d cells with %v has %d samples, %t: %s", cells, k, len(got), ok, name)
		}
	}
	for name, samples := range brokenSamples() {
		for _, cells := range []int{-1, 0, 1, 64, 65} {
			for _, k := range []float32{0, 1, -1} {
				refuse(samples, cells, k, name)
			}
		}
	}
	for _, cells := range []int{-1, -2, -64, 65, 66, 1 << 62, -1 << 62, 1<<62 + 1, math.MaxInt, math.MinInt} {
		for _, k := range []float32{0, negativeZero, 1, notANumber} {
			refuse(good, cells, k, "cells")
		}
	}
	for _, k := range []float32{notANumber, infinite, -infinite} {
		for _, cells := range []int{0, 1, 2, 64} {
			refuse(good, cells, k, "k")
			refuse(make([]float32, 4), cells, k, "k, and samples of 0")
			refuse(make([]float32, 4096), cells, k, "k, and 4096 samples of 0")
		}
	}
}

func TestEchoThatIsTooLarge(t *testing.T) {
	over := above(1024)
	cases := []struct {
		x, late, k float32
	}{
		{1024, 1, 1}, {-1024, -1, 1}, {1024, -1, -1}, {512, over - 512, 1}, {over - 512, 512, 1}, {-512, 512 - over, 1},
		{0, 1, over}, {0, 1, -over}, {0, 1024, above(1)}, {0, -1024, above(1)}, {1024, 1024, 1}, {-1024, 512, -1},
		{0, 1, math.MaxFloat32}, {0, 2, math.MaxFloat32}, {0, 2, -math.MaxFloat32}, {1024, 1024, 0.1},
	}
	for _, c := range cases {
		for _, n := range []int{8, 260, impl.MaxSamples} {
			for _, at := range []int{4, 7, n - 4, n - 1} {
				samples := make([]float32, n)
				samples[at], samples[at-4] = c.x, c.late
				if !impl.SamplesOk(samples) {
					t.Errorf("%v and %v are not valid", c.x, c.late)
				}
				if got, ok := impl.Echo(samples, 1, c.k); ok || len(got) != 0 {
					t.Errorf("Echo by a cell with %v has %d samples, %t: %v behind %v at %d of %d", c.k, len(got), ok, c.x, c.late, at, n)
				}
			}
		}
	}
}
