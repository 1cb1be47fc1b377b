package tests

import (
	"math"
	"math/rand/v2"
	"slices"

	"loop.example/g03326/impl"
)

// farPlaces are places that no stream has.
var farPlaces = []int{-1, -2, -28, -280, -281, -20000, 20001, 20281, 1 << 31, 1 << 62, -1 << 31, -1 << 62, math.MaxInt, math.MaxInt - 27, math.MaxInt - 279, math.MaxInt - 280, math.MinInt, math.MinInt + 28, math.MinInt + 280}

// lengthsNoLineHas are numbers of samples that no line has.
var lengthsNoLineHas = []int{27, 281, 0, -1, 1, -28, -280, 282, 20000, 1 << 62, math.MaxInt, math.MinInt}

// streamWithLows returns so many samples 1, but -1 where runs of 5 begin, at these places.
func streamWithLows(samples int, begins ...int) []float32 {
	return streamWithRuns(samples, 5, begins...)
}

// streamWithRuns returns so many samples 1, but -1 where runs of this length begin, at these places.
func streamWithRuns(samples, length int, begins ...int) []float32 {
	stream := slices.Repeat([]float32{1}, samples)
	for _, begin := range begins {
		for i := begin; i < begin+length && i < samples; i++ {
			stream[i] = -1
		}
	}
	return stream
}

// lows returns the runs that the document describes.
func lows(stream []float32, slice float32) []impl.Run {
	var runs []impl.Run
	isLow := func(i int) bool { return i >= 0 && i < len(stream) && stream[i] <= slice }
	for i := range stream {
		if !isLow(i) || isLow(i-1) {
			continue
		}
		n := 1
		for isLow(i + n) {
			n++
		}
		if n >= 5 {
			runs = append(runs, impl.Run{Begin: i, Length: n})
		}
	}
	if len(stream) > 20000 {
		return nil
	}
	return runs
}

// starts returns the places that the document describes.
func starts(stream []float32, slice float32, length, gap int) []int {
	runs := lows(stream, slice)
	if len(runs) == 0 || length < 28 || length > 280 || gap < 0 || gap > 10 || len(stream) < runs[0].Begin+length {
		return nil
	}
	places, missed := []int{runs[0].Begin}, 0
	for wanted := runs[0].Begin + length; wanted+length <= len(stream); {
		found := -1
		for _, run := range slices.Backward(runs) {
			if run.Begin >= wanted-3 && run.Begin <= wanted+3 {
				found = run.Begin
			}
		}
		if found >= 0 {
			wanted, missed = found, 0
		} else if missed++; missed > gap {
			break
		}
		places = append(places, wanted)
		wanted += length
	}
	return places
}

// cutLines returns the lines that the document describes.
func cutLines(stream []float32, places []int, length int) [][]float32 {
	var lines [][]float32
	if length < 28 || length > 280 || len(stream) > 20000 {
		return nil
	}
	for _, place := range places {
		if place >= 0 && place <= 20000 && place+length <= len(stream) {
			lines = append(lines, stream[place:place+length])
		}
	}
	return lines
}

// erased returns the stream that the document describes.
func erased(stream []float32, at, n int) []float32 {
	made := slices.Clone(stream)
	for i := range made {
		// In unsigned numbers the difference is right even where it would not fit an int.
		if n >= 0 && n <= 280 && i >= at && uint(i)-uint(at) < uint(n) {
			made[i] = 0
		}
	}
	return made
}

// someStream returns so many samples, among which are runs of low ones (less than 0) near to
// multiples of length.
func someStream(r *rand.Rand, samples, length int) []float32 {
	stream := make([]float32, samples)
	for i := range stream {
		stream[i] = float32(r.IntN(4)) + 1
		if r.IntN(20) == 0 {
			stream[i] = -float32(r.IntN(3)) - 1
		}
	}
	lost := []int{2, 4, 100}[r.IntN(3)]
	for begin := r.IntN(length); begin < samples; begin += length + max(0, r.IntN(24)-16) - max(0, r.IntN(24)-16) {
		if r.IntN(lost) == 0 {
			continue
		}
		for i := begin; i < min(samples, begin+4+r.IntN(6)); i++ {
			stream[i] = -float32(r.IntN(3)) - 1
		}
	}
	return stream
}

// streamRows returns so many rows with brightnesses from 16 to 60 and parts of colours of at most 2.
func streamRows(r *rand.Rand, rows, cells int) [][]impl.Cell {
	part := func() float32 { return []float32{2, -2, 0, r.Float32()*4 - 2, r.Float32()*4 - 2}[r.IntN(5)] }
	made := make([][]impl.Cell, rows)
	for i := range made {
		for range cells {
			y := []float32{16, 60, 16 + r.Float32()*44, 16 + r.Float32()*44}[r.IntN(4)]
			made[i] = append(made[i], impl.Cell{Y: y, C: complex(part(), part())})
		}
	}
	return made
}

// linesOf returns the lines of the rows, of which every other one is odd.
func linesOf(rows [][]impl.Cell) [][]float32 {
	var lines [][]float32
	for i, row := range rows {
		lines = append(lines, impl.MakeLine(row, i%2 == 1))
	}
	return lines
}

func sameLines(a, b [][]float32) bool { return slices.EqualFunc(a, b, sameSamples) }
