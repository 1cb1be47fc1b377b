package tests

import (
	"math/rand/v2"
	"slices"

	"loop.example/g03326/impl"
)

// samplesNoLineHas are numbers that a sample of a valid line cannot be.
var samplesNoLineHas = []float32{above(1024), -above(1024), 1025, -1025, 1e30, -1e30, infinite, -infinite, notANumber}

// product is rounded once: that of two singles is exact as a float64.
func product(x, y float32) float32 { return float32(float64(x) * float64(y)) }

// madeLine returns the line of a row as the document describes it.
func madeLine(row []impl.Cell, odd bool) []float32 {
	four := []float32{-16, -16, 16, 16}
	if odd {
		four = []float32{-16, 16, 16, -16}
	}
	return slices.Concat(slices.Repeat([]float32{-64}, 8), slices.Repeat(four, 4), encoded(row, odd))
}

// someLine returns a valid line with samples of all kinds.
func someLine(r *rand.Rand, cells int) []float32 {
	line := make([]float32, 24+4*cells)
	for i := range line {
		line[i] = (r.Float32()*2 - 1) * 1024
		if r.IntN(3) == 0 {
			line[i] = []float32{0, negativeZero, 1e-45, -1e-45, 1024, -1024, 64}[r.IntN(7)]
		}
	}
	return line
}

// lineWithBurst returns a line of two cells with these samples as its burst.
func lineWithBurst(burst []float32) []float32 {
	return slices.Concat(slices.Repeat([]float32{-64}, 8), burst, countingSamples(8))
}

// coloured returns the samples of cells with these colours, also their signs of 0, and brightnesses
// that are 0 or nearly so.
func coloured(colours ...complex64) []float32 {
	var samples []float32
	for _, c := range colours {
		samples = append(samples, real(c), 0-imag(c), 0-real(c), imag(c))
	}
	return samples
}

// lineWithColours returns a line with these colours, also their signs of 0, in the cells of its
// burst.
func lineWithColours(colours ...complex64) []float32 { return lineWithBurst(coloured(colours...)) }

// lineWithColour returns a line with this BurstColour, if its parts are not too small.
func lineWithColour(c complex64) []float32 { return lineWithColours(c, c, c, c) }

// turnedLine returns the line with its colours multiplied by g. It is exact for lines of plain
// rows if the parts of g are small multiples of 1/4.
func turnedLine(line []float32, g complex128) []float32 {
	turned := slices.Clone(line[:8])
	for _, c := range decoded(line[8:], false) {
		d := complex128(c.C) * g
		for _, carried := range []float64{real(d), -imag(d), -real(d), imag(d)} {
			turned = append(turned, float32(float64(c.Y)+carried))
		}
	}
	return turned
}

// brokenLines returns lists that are not valid lines, each for another reason.
func brokenLines() map[string][]float32 {
	lines := map[string][]float32{"nil": nil, "empty": {}}
	for n := range 600 {
		if n%4 != 0 || n < 28 || n > 280 {
			lines[impl.FormatInt(n)+" samples"] = make([]float32, n)
		}
	}
	for _, cells := range []int{1, 3, impl.MaxCells} {
		line := madeLine(greyRow(cells), false)
		lines["one less, cells "+impl.FormatInt(cells)] = line[1:]
		lines["one more, cells "+impl.FormatInt(cells)] = append(slices.Clone(line), 0)
		for _, at := range []int{0, 1, 7, 8, 9, 23, 24, len(line) - 1} {
			for _, x := range samplesNoLineHas {
				broken := slices.Clone(line)
				broken[at] = x
				lines[floatText(x)+" at "+impl.FormatInt(at)+", cells "+impl.FormatInt(cells)] = broken
			}
		}
	}
	return lines
}

// brokenBursts returns valid lines with bursts of which DecodeCells tells no row.
func brokenBursts() [][]float32 {
	grey := []float32{1, 1, 1, 1}
	fours := [][]float32{{512, 512, 512, 512}, {0, 1024, 0, 0}, {0, 0, 0, -1024}}
	for _, four := range brokenCells() {
		if impl.LineOk(lineWithBurst(slices.Repeat(four[:], 4))) {
			fours = append(fours, four[:])
		}
	}
	var lines [][]float32
	for _, four := range fours {
		for at := range 4 {
			cells := [][]float32{grey, grey, grey, grey}
			cells[at] = four
			lines = append(lines, lineWithBurst(slices.Concat(cells...)))
		}
	}
	return lines
}
