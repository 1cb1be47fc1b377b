package tests

import (
	"math"
	"math/rand/v2"
	"slices"

	"loop.example/g03326/impl"
)

// levels are brightnesses, and parts of colours, that a valid cell may have.
var levels = []float32{0, negativeZero, 1, -1, 0.0625, -3.1875, 1e-45, -1e-45, 1.1754944e-38, 0.1, 100.3, 255.99998, -255.99998, 256, -256}

// noLevels are numbers that no valid cell has.
var noLevels = []float32{above(256), -above(256), 257, -257, 1e30, -1e30, math.MaxFloat32, -math.MaxFloat32, infinite, -infinite, notANumber}

var (
	negativeZero = float32(math.Copysign(0, -1))
	infinite     = float32(math.Inf(1))
	notANumber   = float32(math.NaN())
)

// above returns the next number above x.
func above(x float32) float32 { return math.Nextafter32(x, infinite) }

// sameFloat reports whether x and y are the same in the document's sense.
func sameFloat(x, y float32) bool {
	if x != x || y != y {
		return x != x && y != y
	}
	return x == y && math.Signbit(float64(x)) == math.Signbit(float64(y))
}

func sameColour(c, d complex64) bool {
	return sameFloat(real(c), real(d)) && sameFloat(imag(c), imag(d))
}

func sameCell(c, d impl.Cell) bool { return sameFloat(c.Y, d.Y) && sameColour(c.C, d.C) }

func sameRow(a, b []impl.Cell) bool { return slices.EqualFunc(a, b, sameCell) }

func samePicture(p, q [][]impl.Cell) bool { return slices.EqualFunc(p, q, sameRow) }

// cellsWith returns three cells, each of which has x as one of its numbers.
func cellsWith(x float32) []impl.Cell {
	return []impl.Cell{{Y: x, C: 1 - 2i}, {Y: 1, C: complex(x, 2)}, {Y: -1, C: complex(-2, x)}}
}

func greyRow(cells int) []impl.Cell {
	row := make([]impl.Cell, cells)
	for i := range row {
		row[i].Y = float32(i)
	}
	return row
}

func greyPicture(rows, cells int) [][]impl.Cell {
	p := make([][]impl.Cell, rows)
	for r := range p {
		p[r] = greyRow(cells)
	}
	return p
}

// someLevel returns one of levels, or any number that a valid cell may have.
func someLevel(r *rand.Rand) float32 {
	if r.IntN(3) == 0 {
		return levels[r.IntN(len(levels))]
	}
	return (r.Float32()*2 - 1) * 256
}

func someCell(r *rand.Rand) impl.Cell {
	return impl.Cell{Y: someLevel(r), C: complex(someLevel(r), someLevel(r))}
}

func someRow(r *rand.Rand, cells int) []impl.Cell {
	row := make([]impl.Cell, cells)
	for i := range row {
		row[i] = someCell(r)
	}
	return row
}

func somePicture(r *rand.Rand, rows, cells int) [][]impl.Cell {
	p := make([][]impl.Cell, rows)
	for i := range p {
		p[i] = someRow(r, cells)
	}
	return p
}

// roomyPicture returns the picture with room behind its rows and in each of them.
func roomyPicture(p [][]impl.Cell) [][]impl.Cell {
	var rows [][]impl.Cell
	for _, row := range p {
		rows = append(rows, roomy(row, impl.Cell{Y: 7, C: 7i}, impl.Cell{Y: 8}))
	}
	return roomy(rows, greyRow(2), greyRow(2))
}

// brokenRows returns rows that are not valid, each for another reason.
func brokenRows() map[string][]impl.Cell {
	rows := map[string][]impl.Cell{"nil": nil, "empty": {}, "65 cells": greyRow(65), "1000 cells": greyRow(1000)}
	names := []string{"Y", "real part", "imaginary part"}
	for _, x := range noLevels {
		for i, c := range cellsWith(x) {
			for _, at := range []int{0, 1, 4} {
				row := greyRow(5)
				row[at] = c
				rows[names[i]+impl.FormatInt(at)+" "+floatText(x)] = row
			}
		}
	}
	return rows
}

// brokenPictures returns pictures that are not valid, each for another reason.
func brokenPictures() map[string][][]impl.Cell {
	pictures := map[string][][]impl.Cell{"nil": nil, "empty": {}, "rows without cells": make([][]impl.Cell, 4)}
	for _, rows := range []int{1, 2, 3, 5, 6, 7, 9, 10, 11, 61, 62, 63, 65, 66, 67, 68, 72, 128} {
		pictures[impl.FormatInt(rows)+" rows"] = greyPicture(rows, 2)
	}
	for name, row := range brokenRows() {
		for at := range 4 {
			p := greyPicture(4, len(row))
			p[at] = row
			pictures["row "+impl.FormatInt(at)+": "+name] = p
		}
	}
	for at := range 8 {
		for _, cells := range []int{0, 1, 2, 4, 64} {
			p := greyPicture(8, 3)
			p[at] = greyRow(cells)
			pictures["row "+impl.FormatInt(at)+" with cells "+impl.FormatInt(cells)] = p
		}
	}
	return pictures
}
