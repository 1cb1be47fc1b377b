package tests

import (
	"math"
	"math/rand/v2"
	"slices"

	"loop.example/g03326/impl"
)

// The colours of the bursts of lines that MakeLine made.
const (
	evenBurst = -16 + 16i
	oddBurst  = -16 - 16i
)

// decodedAlone returns the row that the document describes of a line; nil if there is none.
func decodedAlone(line []float32, odd bool) []impl.Cell {
	if !impl.LineOk(line) {
		return nil
	}
	row := decoded(line[24:], odd)
	if !impl.RowOk(row) {
		return nil
	}
	return row
}

// hueOf returns the Swing and the HueGain that the document describes of two lists.
func hueOf(a, b []float32) (int, complex64) {
	if !impl.LineOk(a) || !impl.LineOk(b) {
		return 0, 0
	}
	p, ok := burstColour(a)
	q, fine := burstColour(b)
	if !ok || !fine {
		return 0, 0
	}
	return swing(p, q), hueGain(p, q)
}

// decodedPair returns the rows that the document describes of two lines; nil if there are none.
func decodedPair(a, b []float32) [][]impl.Cell {
	p, q := decodedAlone(a, false), decodedAlone(b, false)
	if len(p) == 0 || len(p) != len(q) {
		return nil
	}
	turn, _ := hueOf(a, b)
	for i := range p {
		re, im := mean(real(p[i].C), real(q[i].C)), float32(0)
		switch turn {
		case 1:
			im = mean(imag(p[i].C), -imag(q[i].C))
		case -1:
			im = mean(-imag(p[i].C), imag(q[i].C))
		default:
			re = 0
		}
		p[i].C, q[i].C = complex(re, im), complex(re, im)
	}
	return [][]impl.Cell{p, q}
}

// greyed returns the rows that the document describes.
func greyed(rows [][]impl.Cell) [][]impl.Cell {
	var grey [][]impl.Cell
	for _, row := range rows {
		made := make([]impl.Cell, len(row))
		for i, c := range row {
			made[i].Y = c.Y
		}
		grey = append(grey, made)
	}
	return grey
}

// killed reports whether the document kills the lines.
func killed(a, b []float32, least float32) bool {
	turn, gain := hueOf(a, b)
	return turn == 0 || math.Abs(float64(real(gain))) < float64(least)
}

// scaledRows returns the rows that the document describes, and whether ScaleRow makes all of them.
func scaledRows(rows [][]impl.Cell, k float32) ([][]impl.Cell, bool) {
	var scaled [][]impl.Cell
	for _, row := range rows {
		made := slices.Clone(row)
		for i, c := range row {
			made[i].C = complex(product(real(c.C), k), product(imag(c.C), k))
		}
		if !impl.RowOk(row) || !impl.RowOk(made) {
			return nil, false
		}
		scaled = append(scaled, made)
	}
	return scaled, true
}

// sizedRows returns the rows that the document describes, and whether ToSize makes them.
func sizedRows(rows [][]impl.Cell, g complex64) ([][]impl.Cell, bool) {
	if real(g) == 0 {
		return nil, false
	}
	return scaledRows(rows, quotient(1, float64(real(g))))
}

// takenPair returns the rows that the document describes, and whether TakePair makes them.
func takenPair(a, b []float32, least, k float32) ([][]impl.Cell, bool) {
	rows := decodedPair(a, b)
	if rows == nil || killed(a, b, least) {
		return greyed(rows), rows != nil
	}
	_, gain := hueOf(a, b)
	sized, ok := sizedRows(rows, gain)
	if !ok {
		return nil, false
	}
	return scaledRows(sized, k)
}

// hueTurn returns the sum that the document describes of valid rows with as many cells.
func hueTurn(a, b []impl.Cell) float32 {
	var turn float32
	for i, c := range a {
		x := product(real(c.C), imag(b[i].C))
		y := product(imag(c.C), real(b[i].C))
		turn = sum(turn, difference(x, y))
	}
	return turn
}

// lineWithCells returns a line with this BurstColour, if its parts are not too small, and these
// samples of cells.
func lineWithCells(burst complex64, cells []float32) []float32 {
	return slices.Concat(lineWithColour(burst)[:24], cells)
}

// gainPair returns lines of a cell that swing and have a HueGain with this real part, which must
// not be 0.
func gainPair(x float32) (a, b []float32) {
	cell := coloured(2 + 1i)
	return lineWithCells(complex(-16*x, 16), cell), lineWithCells(complex(-16*x, -16), cell)
}

// noGainPair returns lines of a cell that swing and have a HueGain whose real part is 0.
func noGainPair() (a, b []float32) {
	cell := coloured(2 + 1i)
	return lineWithCells(3+5i, cell), lineWithCells(-3+5i, cell)
}

// refusedLines returns valid lines of 5 cells, one of which DecodeCells does not accept.
func refusedLines() [][]float32 {
	fours := [][4]float32{{512, 512, 512, 512}, {-512, -512, -512, -512}, {0, 1024, 0, 0}, {0, 0, 0, -1024}, {600, 0, -600, 0}}
	var lines [][]float32
	for _, four := range append(brokenCells(), fours...) {
		for _, at := range []int{0, 1, 4} {
			line := lineWithCells(evenBurst, levelWithSamples(5, at, four))
			if impl.LineOk(line) {
				lines = append(lines, line)
			}
		}
	}
	return lines
}

// somePair returns two valid lines, mostly with as many cells, that mostly swing.
func somePair(r *rand.Rand) (a, b []float32) {
	cells := 1 + r.IntN(6)
	a, b = someBurstLine(r), someBurstLine(r)
	if r.IntN(2) == 0 {
		gain := complex(r.Float32()*4-2, r.Float32()*4-2)
		a, b = lineWithColour(times(evenBurst, gain)), lineWithColour(times(oddBurst, gain))
	}
	a, b = append(a[:24:24], cellsOfALine(r, cells)...), append(b[:24:24], cellsOfALine(r, cells)...)
	switch r.IntN(12) {
	case 0:
		b = slices.Concat(b[:24], cellsOfALine(r, 1+r.IntN(6)))
	case 1:
		b = slices.Concat(a[:24], b[24:])
	case 2:
		a, b = b, slices.Concat(brokenBursts()[r.IntN(8)][:24], b[24:])
	case 3:
		return b, a
	}
	return a, b
}

// cellsOfALine returns samples of so many cells, which mostly are valid cells.
func cellsOfALine(r *rand.Rand, cells int) []float32 {
	limit := []float32{1, 16, 64, 128, 256, 256, 300}[r.IntN(7)]
	samples := make([]float32, 4*cells)
	for i := range samples {
		samples[i] = (r.Float32()*2 - 1) * limit
		if r.IntN(5) == 0 {
			samples[i] = []float32{0, negativeZero, 1e-45, -1e-45, 4e-45, limit, -limit}[r.IntN(7)]
		}
	}
	return samples
}

// rowsWith returns valid rows of different numbers of cells, of which number at is this one.
func rowsWith(at int, row []impl.Cell) [][]impl.Cell {
	rows := [][]impl.Cell{greyRow(2), greyRow(5), greyRow(1)}
	rows[at] = row
	return rows
}
