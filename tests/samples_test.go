package tests

import (
	"math"
	"math/rand/v2"
	"slices"

	"loop.example/g03326/impl"
)

// manyNumbers are finite and infinite numbers of all kinds, and NaN.
var manyNumbers = slices.Concat(levels, noLevels, []float32{math.SmallestNonzeroFloat32, 512, -512, 1024, 16777215, 16777216, -16777216})

func sameSamples(a, b []float32) bool { return slices.EqualFunc(a, b, sameFloat) }

func isFinite(x float32) bool { return x-x == 0 }

// sum and difference are rounded once, as the document asks for: those of two singles, taken as
// float64, have so many digits that their rounding cannot move that of the single.
func sum(x, y float32) float32 { return float32(float64(x) + float64(y)) }

func difference(x, y float32) float32 { return float32(float64(x) - float64(y)) }

// quotient is rounded once, too, if both numbers are singles: as a float64 it has enough digits.
func quotient(x float32, n float64) float32 { return float32(float64(x) / n) }

// countingSamples returns samples 1, 2, 3 and so on.
func countingSamples(n int) []float32 {
	samples := make([]float32, n)
	for i := range samples {
		samples[i] = float32(i + 1)
	}
	return samples
}

// someSamples returns so many samples, each of them one of manyNumbers or of at most 1024.
func someSamples(r *rand.Rand, n int) []float32 {
	samples := make([]float32, n)
	for i := range samples {
		samples[i] = (r.Float32()*2 - 1) * 1024
		if r.IntN(3) == 0 {
			samples[i] = manyNumbers[r.IntN(len(manyNumbers))]
		}
	}
	return samples
}

// someCellSamples returns the samples of so many cells. What is carried on their brightness, at
// times a great one that the others of its cell lift, is not more than a valid cell can have.
func someCellSamples(r *rand.Rand, cells int) []float32 {
	var samples []float32
	for range cells {
		high := []float32{0, 0, 0, 1e-45, 1, 1e5, 16777216, -16777216, 1e30, math.MaxFloat32, -math.MaxFloat32}[r.IntN(11)]
		s, t := high+someLevel(r)/2, someLevel(r)/2-high
		samples = append(samples, s, t, high+someLevel(r)/2, someLevel(r)/2-high)
	}
	return samples
}

// sixteenths returns a multiple of 1/16 in the range -limit to limit.
func sixteenths(r *rand.Rand, limit int) float32 {
	return float32(r.IntN(32*limit+1)-16*limit) / 16
}

// plainRow returns a row that is plain in the sense of the document's promises, with the limits
// of its range in it.
func plainRow(r *rand.Rand, cells int) []impl.Cell {
	row := make([]impl.Cell, cells)
	for i := range row {
		row[i] = impl.Cell{Y: sixteenths(r, 64), C: complex(sixteenths(r, 32), sixteenths(r, 32))}
	}
	edges := []impl.Cell{{Y: 64, C: 32 + 32i}, {Y: -64, C: -32 - 32i}, {Y: 64, C: -32 + 32i}, {Y: negativeZero, C: complex(negativeZero, 0.0625)}}
	row[r.IntN(cells)] = edges[r.IntN(len(edges))]
	return row
}

// levelWithSamples returns the samples of a row of so many cells with the brightness 1, in which
// those of cell number at are others.
func levelWithSamples(cells, at int, four [4]float32) []float32 {
	samples := slices.Repeat([]float32{1}, 4*cells)
	copy(samples[4*at:], four[:])
	return samples
}

// brokenCells are samples of cells that are not valid.
func brokenCells() [][4]float32 {
	over, big := above(256), float32(math.MaxFloat32)
	cells := [][4]float32{
		{over, over, over, over}, {-over, -over, -over, -over},
		{over, 0, -over, 0}, {-over, 0, over, 0}, {0, over, 0, -over}, {0, -over, 0, over},
		{big, big, big, big}, {-big, -big, -big, -big}, {big, 0, -big, 0}, {0, -big, 0, big}, {big, big, -big, -big},
		{big, big, big, -big}, {1e30, -1e30, 1e30, 1e30}, {infinite, -infinite, infinite, -infinite}, {notANumber, notANumber, notANumber, notANumber},
		{infinite, 0, infinite, 0}, {0, infinite, 0, infinite}, {infinite, infinite, infinite, infinite}, {1024, 0, 0, 0}, {512, 512, 512, 512},
	}
	for place := range 4 {
		for _, x := range []float32{notANumber, infinite, -infinite, big, -big, 1e30, 1025, -1025} {
			var four [4]float32
			four[place] = x
			cells = append(cells, four)
		}
	}
	return cells
}
