package tests

import (
	"math"
	"math/rand/v2"
	"slices"
	"testing"

	"loop.example/g03326/impl"
)

func TestCutLines(t *testing.T) {
	stream := countingSamples(100)
	cases := []struct {
		name   string
		places []int
		want   []int
	}{
		{"none", nil, nil},
		{"an empty list", []int{}, nil},
		{"one line", []int{0}, []int{0}},
		{"the last place that has a line, and the one behind it", []int{70, 71}, []int{70}},
		{"the last place and the end", []int{99, 100, 101, 70}, []int{70}},
		{"below 0", []int{-1, 0, -30, -29, -31, 1, -100}, []int{0, 1}},
		{"places that fall", []int{70, 40, 7, 0}, []int{70, 40, 7, 0}},
		{"places that repeat", []int{7, 7, 40, 7, 7}, []int{7, 7, 40, 7, 7}},
		{"places that overlap", []int{5, 6, 20, 34, 35}, []int{5, 6, 20, 34, 35}},
		{"all that are left out", []int{-1, 71, 1000, math.MinInt, math.MaxInt}, nil},
	}
	for _, c := range cases {
		var want [][]float32
		for _, place := range c.want {
			line := make([]float32, 30)
			for i := range line {
				line[i] = float32(place + i + 1)
			}
			want = append(want, line)
		}
		if got := impl.CutLines(stream, c.places, 30); !sameLines(got, want) {
			t.Errorf("CutLines at %v = %v, want those at %v: %s", c.places, got, c.want, c.name)
		}
		if got := impl.CutLines(roomy(stream, countingSamples(300)...), c.places, 30); !sameLines(got, want) {
			t.Errorf("CutLines at %v looks behind the stream: %s", c.places, c.name)
		}
	}
}

func TestCutLinesOfEachPlaceAndLength(t *testing.T) {
	for _, n := range []int{0, 1, 27, 28, 29, 280, 281, 300, impl.MaxStream} {
		stream := countingSamples(n)
		for _, length := range []int{28, 29, 279, 280} {
			for _, near := range []int{0, length, n, n - length, 20000, 20280, math.MaxInt - length, math.MaxInt - 10, math.MinInt + length, math.MinInt + 10} {
				for place := near - 5; place <= near+5; place++ {
					got := impl.CutLines(stream, []int{place}, length)
					if want := cutLines(stream, []int{place}, length); !sameLines(got, want) {
						t.Errorf("CutLines of %d samples at %d, with the length %d, are %v", n, place, length, got)
					}
				}
			}
			if got := impl.CutLines(stream, farPlaces, length); len(got) != 0 {
				t.Errorf("CutLines of %d samples far away, with the length %d, are %v", n, length, got)
			}
			places := append(slices.Clone(farPlaces), 0)
			if got := impl.CutLines(stream, places, length); !sameLines(got, cutLines(stream, []int{0}, length)) {
				t.Errorf("CutLines of %d samples far away and at 0, with the length %d, are %v", n, length, got)
			}
		}
	}
}

func TestCutLinesKeepsSamples(t *testing.T) {
	r := rand.New(rand.NewPCG(6, 4))
	for range 300 {
		stream := someSamples(r, 28+r.IntN(400))
		var places []int
		for range r.IntN(10) {
			places = append(places, r.IntN(len(stream)+40)-20)
		}
		for _, length := range []int{28, 28 + r.IntN(253), 280} {
			if got, want := impl.CutLines(stream, places, length), cutLines(stream, places, length); !sameLines(got, want) {
				t.Errorf("CutLines(%v, %v, %d) = %v, want %v", stream, places, length, got, want)
			}
		}
	}
}

func TestCutLinesInvalid(t *testing.T) {
	for _, length := range lengthsNoLineHas {
		for _, n := range []int{0, 1, 27, 281, 1000, impl.MaxStream, impl.MaxStream + 1} {
			if got := impl.CutLines(countingSamples(n), []int{0, 1, -1, 300}, length); len(got) != 0 {
				t.Errorf("CutLines of %d samples with the length %d are %d", n, length, len(got))
			}
		}
	}
	for _, length := range []int{28, 30, 280} {
		if got := impl.CutLines(countingSamples(impl.MaxStream), []int{0, 19720}, length); len(got) != 2 {
			t.Errorf("CutLines of %d samples with the length %d are %d", impl.MaxStream, length, len(got))
		}
		for _, n := range []int{impl.MaxStream + 1, 20004, 40000} {
			if got := impl.CutLines(countingSamples(n), []int{0, 1, 19000}, length); len(got) != 0 {
				t.Errorf("CutLines of %d samples with the length %d are %d", n, length, len(got))
			}
		}
	}
}

func TestErase(t *testing.T) {
	zero := negativeZero
	cases := []struct {
		stream []float32
		at, n  int
		want   []float32
	}{
		{[]float32{1, 2, 3, 4, 5}, 1, 2, []float32{1, 0, 0, 4, 5}},
		{[]float32{1, 2, 3, 4, 5}, 0, 5, []float32{0, 0, 0, 0, 0}},
		{[]float32{1, 2, 3, 4, 5}, 0, 1, []float32{0, 2, 3, 4, 5}},
		{[]float32{1, 2, 3, 4, 5}, 4, 1, []float32{1, 2, 3, 4, 0}},
		{[]float32{1, 2, 3, 4, 5}, 4, 280, []float32{1, 2, 3, 4, 0}},
		{[]float32{1, 2, 3, 4, 5}, 2, 0, []float32{1, 2, 3, 4, 5}},
		{[]float32{1, 2, 3, 4, 5}, 2, -1, []float32{1, 2, 3, 4, 5}},
		{[]float32{1, 2, 3, 4, 5}, 2, 281, []float32{1, 2, 3, 4, 5}},
		{[]float32{1, 2, 3, 4, 5}, 5, 3, []float32{1, 2, 3, 4, 5}},
		{[]float32{1, 2, 3, 4, 5}, 6, 3, []float32{1, 2, 3, 4, 5}},
		// Below 0 the places count, too.
		{[]float32{1, 2, 3, 4, 5}, -1, 1, []float32{1, 2, 3, 4, 5}},
		{[]float32{1, 2, 3, 4, 5}, -1, 2, []float32{0, 2, 3, 4, 5}},
		{[]float32{1, 2, 3, 4, 5}, -2, 5, []float32{0, 0, 0, 4, 5}},
		{[]float32{1, 2, 3, 4, 5}, -275, 280, []float32{0, 0, 0, 0, 0}},
		{[]float32{1, 2, 3, 4, 5}, -276, 280, []float32{0, 0, 0, 0, 5}},
		{[]float32{1, 2, 3, 4, 5}, -280, 280, []float32{1, 2, 3, 4, 5}},
		{[]float32{1, 2, 3, 4, 5}, -279, 280, []float32{0, 2, 3, 4, 5}},
		{nil, 0, 3, nil},
		{[]float32{}, -1, 3, nil},
		// The 0 has no sign, whatever is replaced; what is not replaced is the same.
		{[]float32{zero, zero, zero}, 1, 1, []float32{zero, 0, zero}},
		{[]float32{notANumber, notANumber, infinite, -infinite, infinite}, 1, 2, []float32{notANumber, 0, 0, -infinite, infinite}},
		{[]float32{-1, -1e-45, 1e30}, 1, 1, []float32{-1, 0, 1e30}},
	}
	for _, c := range cases {
		if got := impl.Erase(c.stream, c.at, c.n); !sameSamples(got, c.want) {
			t.Errorf("Erase(%v, %d, %d) = %v, want %v", c.stream, c.at, c.n, got, c.want)
		}
	}
}

func TestEraseAtEachPlace(t *testing.T) {
	for _, samples := range []int{0, 1, 3, 280, 300, impl.MaxStream, impl.MaxStream + 1, 30000} {
		stream := countingSamples(samples)
		for _, n := range []int{0, 1, 2, 279, 280, -1, 281, -280, 282, 20000, math.MaxInt, math.MinInt} {
			places := slices.Concat(farPlaces, []int{0, 1, samples / 2, samples - 281, samples - 280, samples - 279, samples - 2, samples - 1, samples, samples + 1, -n, -n + 1})
			for _, at := range places {
				if got := impl.Erase(stream, at, n); !sameSamples(got, erased(stream, at, n)) {
					t.Errorf("Erase of %d samples at %d, %d of them, is wrong", samples, at, n)
				}
			}
		}
	}
	for at := -300; at <= 300; at++ {
		for _, n := range []int{0, 1, 5, 8, 279, 280, 281} {
			stream := slices.Repeat([]float32{7, negativeZero}, 9)
			if got, want := impl.Erase(stream, at, n), erased(stream, at, n); !sameSamples(got, want) {
				t.Errorf("Erase(%v, %d, %d) = %v, want %v", stream, at, n, got, want)
			}
		}
	}
}

func TestLinesThatAreCutHaveMemoryOfTheirOwn(t *testing.T) {
	stream := roomy(countingSamples(300), countingSamples(300)...)
	places := roomy([]int{0, 1, 20, 20, 28, 5, -1, 272, 300}, 3, 4)
	for _, length := range []int{28, 40, 280} {
		checkMemory(t, "CutLines", func() any { return impl.CutLines(stream, places, length) }, stream, places)
	}
	lines := impl.CutLines(stream, places, 28)
	for _, line := range lines {
		_ = append(line, 9, 9, 9)
	}
	if !sameLines(lines, cutLines(stream, places, 28)) || !sameSamples(stream, countingSamples(300)) {
		t.Errorf("after something was appended, the lines are %v", lines)
	}
	before := memoryOf([]any{stream, places})
	impl.CutLines(stream, places, 27)
	impl.CutLines(stream, places, 281)
	if memoryOf([]any{stream, places}) != before {
		t.Error("CutLines changes an argument")
	}
}

func TestErasedStreamsHaveMemoryOfTheirOwn(t *testing.T) {
	for _, samples := range []int{1, 20, 300} {
		stream := roomy(countingSamples(samples), countingSamples(300)...)
		for _, n := range []int{-1, 0, 8, 280, 281} {
			for _, at := range []int{math.MinInt, -1, 0, 15, samples, math.MaxInt} {
				checkMemory(t, "Erase", func() any { return impl.Erase(stream, at, n) }, stream)
			}
		}
	}
	long := roomy(countingSamples(impl.MaxStream+1), 7, 8, 9)
	before := slices.Clone(long[:cap(long)])
	for _, n := range []int{-1, 280} {
		clear(impl.Erase(long, impl.MaxStream, n))
		if !sameSamples(long[:cap(long)], before) {
			t.Error("Erase changes a stream, or its result is the stream")
		}
	}
}
