package tests

import (
	"math/rand/v2"
	"slices"
	"testing"

	"loop.example/g03326/impl"
)

func TestBurstColour(t *testing.T) {
	zero, half := negativeZero, float32(1.0/65536)
	cases := []struct {
		line []float32
		want complex64
	}{
		{impl.MakeLine(greyRow(1), false), -16 + 16i},
		{impl.MakeLine(greyRow(64), true), -16 - 16i},
		{lineWithColours(1+2i, 3+8i, 5-32i, 7+128i), 4 + 26.5i},
		{lineWithColours(0, 0, 0, 0), 0},
		{lineWithColours(256+256i, 256+256i, 256+256i, 256+256i), 256 + 256i},
		{lineWithColours(-256-256i, -256-256i, -256-256i, -256-256i), -256 - 256i},
		// The brightness of the burst does not matter.
		{lineWithBurst(slices.Repeat([]float32{201, 197, 199, 203}, 4)), 1 + 3i},
		{lineWithBurst(slices.Repeat([]float32{1024, -1024, 1000, -1000}, 4)), 12 + 12i},
		// Half of the last digit of 256 is lost where it is added to it, but not where it is added before.
		{lineWithColours(complex(256, half), complex(half, half), complex(half, half), complex(half, 256)), complex(64, 64.000015)},
		{lineWithColours(complex(half, 256), complex(half, half), complex(half, half), complex(256, half)), complex(64.000015, 64)},
		{lineWithColours(complex(half, 256), complex(half, half), complex(256, half), complex(half, half)), complex(64.000015, 64)},
		{lineWithColours(complex(256, half), complex(half, 256), complex(-256, half), complex(half, -256)), complex(half/4, 0)},
		// The sum of the smallest numbers is rounded after it was divided.
		{lineWithColours(complex(1e-45, 0), complex(1e-45, 0), complex(1e-45, 1e-45), complex(1e-45, 1e-45)), complex(1e-45, 0)},
		{lineWithColours(complex(1e-45, 1e-45), complex(1e-45, 1e-45), complex(0, 1e-45), complex(0, 0)), complex(0, 1e-45)},
		// It begins with the first colour, not with 0.
		{lineWithColour(complex(zero, zero)), complex(zero, zero)},
		{lineWithColours(complex(zero, zero), complex(zero, 0), complex(zero, zero), complex(zero, zero)), complex(zero, 0)},
		{lineWithColours(complex(0, zero), complex(zero, zero), complex(zero, zero), complex(zero, zero)), complex(0, zero)},
	}
	for _, c := range cases {
		if got, ok := impl.BurstColour(c.line); !ok || !sameColour(got, c.want) {
			t.Errorf("BurstColour(%v) = %v, %t, want %v", c.line, got, ok, c.want)
		}
	}
}

// burstColour returns what the document describes of a valid line.
func burstColour(line []float32) (complex64, bool) {
	row := decoded(line[8:24], false)
	if !impl.RowOk(row) {
		return 0, false
	}
	re, im := real(row[0].C), imag(row[0].C)
	for _, c := range row[1:] {
		re, im = sum(re, real(c.C)), sum(im, imag(c.C))
	}
	return complex(quotient(re, 4), quotient(im, 4)), true
}

// someBurstLine returns a line with any burst that DecodeCells tells a row of.
func someBurstLine(r *rand.Rand) []float32 {
	for range 1000 {
		line := lineWithBurst(someCellSamples(r, 4))
		if _, ok := burstColour(line); ok && impl.LineOk(line) {
			return line
		}
	}
	return lineWithColour(3 + 4i)
}

func TestBurstColourOfSomeLines(t *testing.T) {
	r := rand.New(rand.NewPCG(4, 5))
	for range 3000 {
		for _, line := range [][]float32{someBurstLine(r), someLine(r, 1+r.IntN(64))} {
			got, ok := impl.BurstColour(line)
			if want, wantOk := burstColour(line); ok != wantOk || !sameColour(got, want) {
				t.Errorf("BurstColour(%v) = %v, %t, want %v, %t", line, got, ok, want, wantOk)
			}
		}
	}
}

func TestBurstColourLooksAtTheBurstAlone(t *testing.T) {
	r := rand.New(rand.NewPCG(4, 6))
	for range 100 {
		line := someBurstLine(r)
		want, _ := impl.BurstColour(line)
		other := someLine(r, 1+r.IntN(64))
		copy(other[8:24], line[8:24])
		if got, ok := impl.BurstColour(other); !ok || !sameColour(got, want) {
			t.Errorf("BurstColour(%v) = %v, %t, and BurstColour(%v) = %v", other, got, ok, line, want)
		}
	}
}

func TestBurstColourInvalid(t *testing.T) {
	for name, line := range brokenLines() {
		if got, ok := impl.BurstColour(line); ok || !sameColour(got, 0) {
			t.Errorf("BurstColour = %v, %t: %s", got, ok, name)
		}
	}
	for _, line := range brokenBursts() {
		if got, ok := impl.BurstColour(line); ok || !sameColour(got, 0) || !impl.LineOk(line) {
			t.Errorf("BurstColour(%v) = %v, %t", line, got, ok)
		}
	}
}

func TestBurstsThatAreRefusedAreManyKinds(t *testing.T) {
	if n := len(brokenBursts()); n < 4*10 {
		t.Errorf("only %d lines have bursts that are refused", n)
	}
}
