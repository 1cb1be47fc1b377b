package tests

import (
	"math/rand/v2"
	"slices"
	"testing"

	"loop.example/g03326/impl"
)

func TestPulseConstants(t *testing.T) {
	got := []int{impl.MaxStream, impl.MinPulse, impl.Near, impl.MinLine, impl.MaxLine, impl.MaxGap}
	if !slices.Equal(got, []int{20000, 5, 3, 28, 280, 10}) {
		t.Error("unexpected constants", got)
	}
}

func TestLows(t *testing.T) {
	runs := func(places ...int) (made []impl.Run) {
		for i := 0; i < len(places); i += 2 {
			made = append(made, impl.Run{Begin: places[i], Length: places[i+1]})
		}
		return made
	}
	cases := []struct {
		name   string
		stream []float32
		want   []impl.Run
	}{
		{"nil", nil, nil},
		{"empty", []float32{}, nil},
		{"no low sample", []float32{1, 1, 1, 1, 1, 1, 1, 1}, nil},
		{"one low sample", []float32{-1}, nil},
		{"four low samples are the stream", []float32{-1, -1, -1, -1}, nil},
		{"five low samples are the stream", []float32{-1, -1, -1, -1, -1}, runs(0, 5)},
		{"six low samples are the stream", []float32{-1, -1, -1, -1, -1, -1}, runs(0, 6)},
		{"four at the beginning", []float32{-1, -1, -1, -1, 1, 1, 1}, nil},
		{"five at the beginning", []float32{-1, -1, -1, -1, -1, 1, 1}, runs(0, 5)},
		{"four at the end", []float32{1, 1, 1, -1, -1, -1, -1}, nil},
		{"five at the end", []float32{1, 1, -1, -1, -1, -1, -1}, runs(2, 5)},
		{"four within", []float32{1, 1, -1, -1, -1, -1, 1, 1}, nil},
		{"five within", []float32{1, 1, -1, -1, -1, -1, -1, 1}, runs(2, 5)},
		{"four and five", []float32{-1, -1, -1, -1, 1, -1, -1, -1, -1, -1}, runs(5, 5)},
		{"five and four", []float32{-1, -1, -1, -1, -1, 1, -1, -1, -1, -1}, runs(0, 5)},
		{"five and five, one sample apart", []float32{-1, -1, -1, -1, -1, 1, -1, -1, -1, -1, -1}, runs(0, 5, 6, 5)},
		{"five, four and six", []float32{1, -1, -1, -1, -1, -1, 1, 1, -1, -1, -1, -1, 1, -1, -1, -1, -1, -1, -1, 1}, runs(1, 5, 13, 6)},
		{"ten broken in the middle", []float32{-1, -1, -1, -1, 1, -1, -1, -1, -1}, nil},
		{"low samples of many sizes", []float32{1, -1, -9, -infinite, -1e-45, -1e30, 1e-45}, runs(1, 5)},
	}
	for _, c := range cases {
		if got := impl.Lows(c.stream, 0); !slices.Equal(got, c.want) {
			t.Errorf("Lows = %v, want %v: %s", got, c.want, c.name)
		}
		if got := impl.Lows(roomy(c.stream, -1, -1, -1, -1, -1, -1), 0); !slices.Equal(got, c.want) {
			t.Errorf("Lows looks behind the stream: %v, want %v: %s", got, c.want, c.name)
		}
	}
}

// A sample is low or not by itself: five of one kind are a run, or not.
func TestLowsOfEachSampleAndSlice(t *testing.T) {
	for _, slice := range manyNumbers {
		for _, x := range manyNumbers {
			stream := slices.Concat([]float32{notANumber}, slices.Repeat([]float32{x}, 5), []float32{notANumber, notANumber})
			var want []impl.Run
			if x <= slice {
				want = []impl.Run{{Begin: 1, Length: 5}}
			}
			if got := impl.Lows(stream, slice); !slices.Equal(got, want) {
				t.Errorf("Lows(%v, %v) = %v, want %v", stream, slice, got, want)
			}
		}
	}
}

func TestLowsOfSamplesAtTheSlice(t *testing.T) {
	zero := negativeZero
	cases := []struct {
		slice float32
		x     float32
		low   bool
	}{
		{-40, -40, true}, {-40, above(-40), false}, {-40, -above(40), true},
		{0, 0, true}, {0, zero, true}, {zero, 0, true}, {zero, zero, true}, {0, 1e-45, false}, {zero, -1e-45, true},
		{infinite, infinite, true}, {infinite, 1e30, true}, {infinite, -infinite, true}, {infinite, notANumber, false},
		{-infinite, -infinite, true}, {-infinite, -1e30, false}, {-infinite, notANumber, false},
		{notANumber, notANumber, false}, {notANumber, 0, false}, {notANumber, -infinite, false}, {notANumber, infinite, false},
		{0, notANumber, false}, {0, infinite, false}, {0, -infinite, true},
	}
	for _, c := range cases {
		if got := impl.Lows(slices.Repeat([]float32{c.x}, 9), c.slice); (len(got) == 1) != c.low || len(got) > 1 {
			t.Errorf("Lows of nine samples %v with the slice %v = %v", c.x, c.slice, got)
		}
	}
	broken := []float32{-1, -1, -1, -1, -1, notANumber, -1, -1, -1, -1, infinite, -1, -1, -1, -1, -1, -1}
	if got := impl.Lows(broken, 0); !slices.Equal(got, []impl.Run{{Begin: 0, Length: 5}, {Begin: 11, Length: 6}}) {
		t.Errorf("Lows(%v, 0) = %v", broken, got)
	}
}

func TestLowsOfLongStreams(t *testing.T) {
	for _, n := range []int{19999, impl.MaxStream} {
		want := []impl.Run{{Begin: 0, Length: n}}
		if got := impl.Lows(slices.Repeat([]float32{-1}, n), 0); !slices.Equal(got, want) {
			t.Errorf("Lows of %d low samples = %v", n, got)
		}
		want = []impl.Run{{Begin: 0, Length: 5}, {Begin: n - 5, Length: 5}}
		if got := impl.Lows(streamWithLows(n, 0, n-5), 0); !slices.Equal(got, want) {
			t.Errorf("Lows of %d samples = %v, want %v", n, got, want)
		}
		if got := impl.Lows(streamWithLows(n, n-4), 0); len(got) != 0 {
			t.Errorf("Lows of %d samples = %v", n, got)
		}
	}
	for _, n := range []int{impl.MaxStream + 1, 20005, 40000} {
		for _, stream := range [][]float32{slices.Repeat([]float32{-1}, n), streamWithLows(n, 0, 100), make([]float32, n)} {
			if got := impl.Lows(stream, 0); len(got) != 0 {
				t.Errorf("Lows of %d samples = %v", n, got)
			}
		}
	}
	var all []int
	for begin := 0; begin < impl.MaxStream; begin += 6 {
		all = append(all, begin)
	}
	stream := streamWithLows(impl.MaxStream, all...)
	if got := impl.Lows(stream, 0); !slices.Equal(got, lows(stream, 0)) || len(got) != 3333 {
		t.Errorf("Lows finds %d runs", len(got))
	}
}

// checkLows reports if Lows does not give what the document describes, or if its runs are not
// apart, or have samples that are not low.
func checkLows(t *testing.T, stream []float32, slice float32) int {
	t.Helper()
	got := impl.Lows(stream, slice)
	if !slices.Equal(got, lows(stream, slice)) {
		t.Errorf("Lows(%v, %v) = %v, want %v", stream, slice, got, lows(stream, slice))
	}
	end := -1
	for _, run := range got {
		if run.Begin <= end || run.Length < 5 {
			t.Errorf("Lows(%v, %v) = %v, of which %v is not apart or too short", stream, slice, got, run)
		}
		end = run.Begin + run.Length
		for _, x := range stream[run.Begin:end] {
			if !(x <= slice) {
				t.Errorf("Lows(%v, %v) = %v, and in %v there is %v", stream, slice, got, run, x)
			}
		}
	}
	return len(got)
}

func TestLowsOfSomeStreams(t *testing.T) {
	r := rand.New(rand.NewPCG(6, 1))
	found := 0
	for range 2000 {
		stream := someStream(r, r.IntN(400), 28+r.IntN(40))
		found += checkLows(t, stream, 0)
		checkLows(t, stream, -2)
		checkLows(t, stream, 2)
		checkLows(t, someSamples(r, r.IntN(60)), manyNumbers[r.IntN(len(manyNumbers))])
	}
	if found < 2000 {
		t.Errorf("only %d runs were found", found)
	}
}

func TestLowsOfAllShortStreams(t *testing.T) {
	for n := range 15 {
		for bits := range 1 << n {
			stream := make([]float32, n)
			for i := range stream {
				stream[i] = float32(bits>>i&1)*2 - 1
			}
			checkLows(t, stream, 0)
		}
	}
}

func TestRunsHaveMemoryOfTheirOwn(t *testing.T) {
	stream := roomy(streamWithLows(300, 0, 28, 60), streamWithLows(30, 0)...)
	checkMemory(t, "Lows", func() any { return impl.Lows(stream, 0) }, stream)
	long := roomy(streamWithLows(20001, 5), -1, -1, -1)
	before := slices.Clone(long[:cap(long)])
	impl.Lows(long, 0)
	if !sameSamples(long[:cap(long)], before) {
		t.Error("Lows changes a stream that is too long")
	}
}
