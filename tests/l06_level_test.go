package tests

import (
	"math"
	"math/rand/v2"
	"slices"
	"testing"

	"loop.example/g03326/impl"
)

// levelLine returns a line with these samples as its pulse, these as its burst and these as its
// cells; of a list that is too short, the last sample is repeated.
func levelLine(pulse, burst, cells []float32) []float32 {
	filled := func(list []float32, n int) []float32 {
		return append(slices.Clone(list), slices.Repeat(list[len(list)-1:], n)...)[:n]
	}
	return slices.Concat(filled(pulse, 8), filled(burst, 16), filled(cells, max(4, len(cells))))
}

// measured returns the levels that the document describes of a valid line.
func measured(line []float32) (tip, black float32) {
	tip, black = line[0], line[8]
	for _, x := range line[1:8] {
		tip = sum(tip, x)
	}
	for _, x := range line[9:24] {
		black = sum(black, x)
	}
	return quotient(tip, 8), quotient(black, 16)
}

// levelled returns the samples that the document describes of a line that has levels.
func levelled(line []float32) []float32 {
	tip, black := measured(line)
	k := quotient(64, float64(difference(black, tip)))
	var made []float32
	for _, x := range line {
		made = append(made, product(k, difference(x, black)))
	}
	return made
}

func TestLevels(t *testing.T) {
	zero, tiny := negativeZero, float32(1e-45)
	// Half of the last digit of 1024, and of 512.
	half, quarter := float32(1.0/(1<<14)), float32(1.0/(1<<15))
	some := []float32{5}
	cases := []struct {
		name       string
		line       []float32
		tip, black float32
	}{
		{"a made line", impl.MakeLine(greyRow(1), false), -64, 0},
		{"a made line that is odd", impl.MakeLine(greyRow(64), true), -64, 0},
		{"counted samples", countingSamples(40), 4.5, 16.5},
		{"the greatest levels", levelLine([]float32{-1024}, []float32{1024}, some), -1024, 1024},
		{"each sample of the pulse", levelLine([]float32{1, 2, 4, 8, 16, 32, 64, 128}, []float32{1000}, some), 31.875, 1000},
		{"each sample of the burst", levelLine([]float32{-1}, []float32{1, 2, 4, 8, 16, 32, 64, 128, 256, 512, 1, 2, 4, 8, 16, 32}, some), -1, 67.875},
		{"a level that the cells do not move", levelLine([]float32{1}, []float32{2}, []float32{1024, -1024, 7, 8}), 1, 2},
		// The sums are in order, beginning with the first sample.
		{"what is small is lost behind what is great", levelLine([]float32{1024, half, half, half, half, half, half, half}, []float32{1000}, some), 128, 1000},
		{"what is small comes first", levelLine([]float32{half, half, half, half, half, half, half, 1024}, []float32{1000}, some), sum(128, half), 1000},
		{"what is small is lost in the burst", levelLine([]float32{-1}, []float32{512, quarter}, some), -1, 32},
		{"what is small comes first in the burst", levelLine([]float32{-1}, slices.Concat(slices.Repeat([]float32{quarter}, 15), []float32{512}), some), -1, sum(32, quarter)},
		{"what is great goes away again", levelLine([]float32{1024, half, -1024, half, 0}, []float32{1}, some), half / 8, 1},
		{"what is great goes away in the burst", levelLine([]float32{-1}, []float32{1024, half, -1024, half, 0}, some), -1, half / 16},
		// The sums are divided after they were added, and then rounded.
		{"the least pulse", levelLine([]float32{tiny}, some, some), tiny, 5},
		{"half of the least pulse", levelLine([]float32{tiny, tiny, tiny, tiny, 0}, some, some), 0, 5},
		{"more than half of the least pulse", levelLine([]float32{tiny, tiny, tiny, tiny, tiny, 0}, some, some), tiny, 5},
		{"the least burst", levelLine([]float32{-1}, []float32{tiny}, some), -1, tiny},
		{"half of the least burst", levelLine([]float32{-1}, []float32{tiny, tiny, tiny, tiny, tiny, tiny, tiny, tiny, 0}, some), -1, 0},
		{"half of the least burst below 0", levelLine([]float32{-1}, []float32{-tiny, -tiny, -tiny, -tiny, -tiny, -tiny, -tiny, -tiny, 0}, some), -1, zero},
		// Signs of 0.
		{"a pulse of -0", levelLine([]float32{zero}, some, some), zero, 5},
		{"a pulse of -0 and 0", levelLine([]float32{zero, zero, zero, 0, zero}, some, some), 0, 5},
		{"a burst of -0", levelLine([]float32{-1}, []float32{zero}, some), -1, zero},
		{"a burst of 0 and -0", levelLine([]float32{-1}, []float32{0, zero}, some), -1, 0},
		// Levels that are near to each other.
		{"a little greater, at 0", levelLine([]float32{0}, []float32{tiny}, some), 0, tiny},
		{"a little greater, below 0", levelLine([]float32{-tiny}, []float32{0}, some), -tiny, 0},
		{"as little as a sum can tell", levelLine([]float32{512}, slices.Concat(slices.Repeat([]float32{512}, 15), []float32{sum(512, 1.0/1024)}), some), 512, above(512)},
		{"as little as a sum can tell of a pulse", levelLine([]float32{-512, -512, -512, -512, -512, -512, -512, sum(-512, -1.0/2048)}, []float32{-512}, some), -above(512), -512},
	}
	for _, c := range cases {
		tip, black, ok := impl.Levels(c.line)
		if !ok || !sameFloat(tip, c.tip) || !sameFloat(black, c.black) {
			t.Errorf("Levels(%v) = %v, %v, %t, want %v, %v: %s", c.line, tip, black, ok, c.tip, c.black, c.name)
		}
		if tip, black := measured(c.line); !sameFloat(tip, c.tip) || !sameFloat(black, c.black) {
			t.Errorf("the levels of %s are %v and %v, not %v and %v", c.name, tip, black, c.tip, c.black)
		}
	}
}

// linesWithoutLevels returns valid lines whose level of black is not greater than that of the pulse.
func linesWithoutLevels() map[string][]float32 {
	zero, tiny := negativeZero, float32(1e-45)
	half := float32(1.0 / (1 << 14))
	some := []float32{5}
	return map[string][]float32{
		"equal":                           levelLine([]float32{7}, []float32{7}, some),
		"zeros":                           levelLine([]float32{0}, []float32{0}, some),
		"-0 and 0":                        levelLine([]float32{zero}, []float32{0}, some),
		"0 and -0":                        levelLine([]float32{0}, []float32{zero}, some),
		"less":                            levelLine([]float32{8}, []float32{7}, some),
		"a little less":                   levelLine([]float32{above(7)}, []float32{7}, some),
		"upside down":                     levelLine([]float32{64}, []float32{16, 16, -16, -16, 16, 16, -16, -16, 16, 16, -16, -16, 16, 16, -16, -16}, some),
		"the greatest":                    levelLine([]float32{1024}, []float32{1024}, some),
		"the least":                       levelLine([]float32{-1024}, []float32{-1024}, some),
		"far less":                        levelLine([]float32{1024}, []float32{-1024}, some),
		"less than can tell":              levelLine([]float32{512}, slices.Concat(slices.Repeat([]float32{512}, 15), []float32{sum(512, 1.0/2048)}), some),
		"equal, as what is small is lost": levelLine([]float32{128}, []float32{1024, half, half, half, 1024, 0}, some),
		"equal, rounded to 0":             levelLine([]float32{0}, []float32{tiny, tiny, tiny, tiny, tiny, tiny, tiny, tiny, 0}, some),
		"equal means of other samples":    levelLine([]float32{1, 3}, []float32{2.75}, some),
	}
}

func TestLevelsInvalid(t *testing.T) {
	refuse := func(line []float32, name string) {
		t.Helper()
		if tip, black, ok := impl.Levels(line); ok || !sameFloat(tip, 0) || !sameFloat(black, 0) {
			t.Errorf("Levels = %v, %v, %t: %s", tip, black, ok, name)
		}
		if made, ok := impl.ToLevel(line); ok || len(made) != 0 {
			t.Errorf("ToLevel = %v, %t: %s", made, ok, name)
		}
	}
	for name, line := range brokenLines() {
		refuse(line, name)
	}
	for name, line := range linesWithoutLevels() {
		refuse(line, name)
		if !impl.LineOk(line) {
			t.Errorf("LineOk is false: %s", name)
		}
	}
}

func TestToLevel(t *testing.T) {
	zero := negativeZero
	level := func(cells ...float32) []float32 { return levelLine([]float32{-64}, []float32{0}, cells) }
	uneven := levelLine([]float32{-128, 0, -128, 0, -128, 0, -128, 0}, []float32{-16, 16, -16, 16, -16, 16, -16, 16, 0}, []float32{8})
	cases := []struct {
		name       string
		line, want []float32
	}{
		{"a made line", impl.MakeLine(greyRow(3), true), impl.MakeLine(greyRow(3), true)},
		{"twice as great, and moved", levelLine([]float32{-125}, []float32{3}, []float32{43, 3, -29, 7}), level(20, 0, -16, 2)},
		{"moved down", levelLine([]float32{0}, []float32{64}, []float32{64, 0, 100, -1}), level(0, -64, 36, -65)},
		{"small", levelLine([]float32{-1}, []float32{1}, []float32{1, 2, 3, 4}), level(0, 32, 64, 96)},
		{"levels are means, and single samples far away from them", uneven, uneven},
		{"the greatest samples that can be made", levelLine([]float32{-1}, []float32{0}, []float32{16, -16, 1, 0}), level(1024, -1024, 64, 0)},
		{"a product that is a little too large before it is rounded", levelLine([]float32{-7}, []float32{0}, []float32{112, -112, 7, 0}), level(1024, -1024, 64, 0)},
		{"the greatest levels", levelLine([]float32{-1024}, []float32{1024}, []float32{1024, 992}), level(0, -1, -1, -1)},
		{"samples 0 and -0, and black at 0", level(zero, 0), level(zero, 0, 0, 0)},
		{"samples 0 and -0, and black at -0", levelLine([]float32{-64}, []float32{zero}, []float32{zero, 0}), level(0, 0, 0, 0)},
		{"levels that are neighbours", levelLine([]float32{1}, []float32{above(1)}, []float32{above(above(1)), 1}), level(64, -64, -64, -64)},
		{"levels so near that their quotient is nearly infinite", levelLine([]float32{-0x1p-121}, []float32{0}, []float32{0x1p-117, -0x1p-117, 0, 0x1p-149}), level(1024, -1024, 0, 0x1p-22)},
	}
	for _, c := range cases {
		if got, ok := impl.ToLevel(c.line); !ok || !sameSamples(got, c.want) {
			t.Errorf("ToLevel(%v) = %v, %t, want %v: %s", c.line, got, ok, c.want, c.name)
		}
	}
}

func TestToLevelRoundsEachOperation(t *testing.T) {
	r := rand.New(rand.NewPCG(6, 5))
	seen := [3]int{}
	for range 2000 {
		cells := []float32{r.Float32() * 64, r.Float32(), -r.Float32() * 64, r.Float32() * 1e-3}
		line := levelLine([]float32{-8 - r.Float32()*64}, []float32{r.Float32() * 8}, cells)
		tip, black := measured(line)
		got, ok := impl.ToLevel(line)
		if !ok || !sameSamples(got, levelled(line)) {
			t.Errorf("ToLevel(%v) = %v, %t, want %v", line, got, ok, levelled(line))
			continue
		}
		k := 64 / float64(difference(black, tip))
		for i, x := range line {
			d := difference(x, black)
			for operation, unrounded := range []float64{
				float64(float32(k)) * (float64(x) - float64(black)),
				k * float64(d),
				float64(float32(64/(float64(black)-float64(tip)))) * float64(d),
			} {
				if float32(unrounded) != got[i] {
					seen[operation]++
				}
			}
		}
	}
	if slices.Min(seen[:]) < 100 {
		t.Errorf("it was seen %v times that the difference of a sample, the quotient and that of the levels are rounded", seen)
	}
}

func TestToLevelThatBecomesTooLarge(t *testing.T) {
	refuse := func(line []float32) {
		t.Helper()
		if _, _, ok := impl.Levels(line); !ok || allWithinLine(levelled(line)) {
			t.Errorf("%v has levels (%t), or becomes %v", line, ok, levelled(line))
		}
		if got, ok := impl.ToLevel(line); ok || len(got) != 0 {
			t.Errorf("ToLevel(%v) = %v, %t", line, got, ok)
		}
	}
	for _, c := range []struct{ tip, black, x float32 }{
		{-1, 0, above(16)}, {-1, 0, -above(16)}, {-1, 0, 1024}, {-1, 0, -1024}, {0, 1, 18}, {0, 1, -16}, {0, 1, above(17)}, {-2, -1, 16},
		{-7, 0, above(112)}, {-7, 0, -above(112)}, {-1024, -1000, 1024},
	} {
		for _, cells := range []int{1, 3, impl.MaxCells} {
			for _, at := range []int{0, 1, 4*cells - 1} {
				samples := slices.Repeat([]float32{c.black}, 4*cells)
				samples[at] = c.x
				refuse(levelLine([]float32{c.tip}, []float32{c.black}, samples))
			}
		}
	}
	// A sample of the pulse or of the burst alone becomes too large.
	refuse(levelLine([]float32{8, -100, 8}, []float32{0}, []float32{0}))
	refuse(levelLine([]float32{8, 8, 8, 8, 8, 8, 8, -100}, []float32{0}, []float32{0}))
	refuse(levelLine([]float32{-1}, []float32{0, 20, 0, -16, -4, 0}, []float32{0}))
	refuse(levelLine([]float32{-1}, []float32{0, -20, 0, 16, 4, 0}, []float32{0}))
	// The levels are so near to each other that 64 divided by their difference is infinite.
	for _, tip := range []float32{-1e-45, -1e-40, -1e-38, -1.8e-37} {
		for _, x := range []float32{0, negativeZero, tip, 1, -1} {
			refuse(levelLine([]float32{tip}, []float32{0}, []float32{x}))
		}
	}
}

// allWithinLine reports whether the document accepts the samples as those of a line.
func allWithinLine(samples []float32) bool {
	return !slices.ContainsFunc(samples, func(x float32) bool { return !(x >= -1024 && x <= 1024) })
}

func TestLevelsOfSomeLines(t *testing.T) {
	r := rand.New(rand.NewPCG(6, 6))
	seen := [3]int{}
	for range 10000 {
		line := someLine(r, 1+r.IntN(8))
		if limit := []float32{1024, 100, 3}[r.IntN(3)]; limit < 1024 {
			for i := range line {
				line[i] = (r.Float32()*2 - 1) * limit
			}
		}
		if r.IntN(2) == 0 {
			for i := range 8 {
				line[i] -= min(1024+line[i], 200*r.Float32())
			}
		}
		tip, black := measured(line)
		wantOk := black > tip
		gotTip, gotBlack, ok := impl.Levels(line)
		if ok != wantOk || ok && (!sameFloat(gotTip, tip) || !sameFloat(gotBlack, black)) || !ok && (!sameFloat(gotTip, 0) || !sameFloat(gotBlack, 0)) {
			t.Errorf("Levels(%v) = %v, %v, %t, want %v, %v, %t", line, gotTip, gotBlack, ok, tip, black, wantOk)
		}
		var want []float32
		if wantOk && allWithinLine(levelled(line)) {
			want = levelled(line)
		}
		made, fine := impl.ToLevel(line)
		if fine != (want != nil) || !sameSamples(made, want) {
			t.Errorf("ToLevel(%v) = %v, %t, want %v", line, made, fine, want)
		}
		switch {
		case fine:
			seen[0]++
		case ok:
			seen[1]++
		default:
			seen[2]++
		}
	}
	if slices.Min(seen[:]) < 500 {
		t.Errorf("of the lines tried, %v were brought to level, became too large, and had no levels", seen)
	}
}

func TestPlainLinesComeBackToTheirLevel(t *testing.T) {
	r := rand.New(rand.NewPCG(6, 7))
	for _, a := range []float32{0.25, 0.5, 1, 2} {
		for eighths := -32; eighths <= 32; eighths++ {
			ch := impl.Channel{A: a, Offset: float32(eighths) / 8, G: complex(a, []float32{0, negativeZero}[r.IntN(2)])}
			for _, odd := range []bool{false, true} {
				row := plainRow(r, 1+r.IntN(impl.MaxCells))
				for i := range row {
					row[i].Y = float32(math.Abs(float64(row[i].Y)))
				}
				line := impl.MakeLine(row, odd)
				sent, ok := impl.Transmit(ch, line)
				if got, fine := impl.ToLevel(sent); !ok || !fine || !slices.Equal(got, line) {
					t.Errorf("ToLevel of %v that came through %v = %v, %t", line, ch, got, fine)
				}
			}
		}
	}
}

func TestLevelledLinesHaveMemoryOfTheirOwn(t *testing.T) {
	r := rand.New(rand.NewPCG(6, 8))
	for _, cells := range []int{1, 3, impl.MaxCells} {
		for _, odd := range []bool{false, true} {
			line := roomy(impl.MakeLine(plainRow(r, cells), odd), countingSamples(300)...)
			checkMemory(t, "ToLevel", func() any { made, _ := impl.ToLevel(line); return made }, line)
		}
	}
	lines := [][]float32{levelLine([]float32{-1}, []float32{0}, []float32{1024}), levelLine([]float32{5}, []float32{5}, []float32{5}), make([]float32, 27), {notANumber, 1, 2, 3}}
	for _, line := range lines {
		line = roomy(line, countingSamples(300)...)
		before := memoryOf(line)
		impl.Levels(line)
		impl.ToLevel(line)
		if memoryOf(line) != before {
			t.Errorf("a line was changed: %v", line)
		}
	}
}
