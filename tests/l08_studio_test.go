package tests

import (
	"math/rand/v2"
	"slices"
	"testing"

	"loop.example/g03326/impl"
)

// checkStudio reports if Studio does not give what the document describes, and returns whether
// there are samples.
func checkStudio(t *testing.T, p [][]impl.Cell, ch impl.Channel) bool {
	t.Helper()
	want, wantOk := sentStream(p, ch)
	if !wantOk {
		want = nil
	}
	got, ok := impl.Studio(p, ch)
	if ok != wantOk || !sameSamples(got, want) {
		t.Errorf("Studio(%v, %v) = %v, %t, want %v, %t", p, ch, got, ok, want, wantOk)
	}
	return ok
}

func TestStudio(t *testing.T) {
	p := [][]impl.Cell{{{Y: 1, C: 2 + 3i}}, {{Y: 2, C: 1i}}, {{Y: 3, C: -1}}, {{Y: 4, C: 5 - 1i}}}
	pulse := slices.Repeat([]float32{-127}, 8)
	even, odd := slices.Repeat([]float32{17, 17, -15, -15}, 4), slices.Repeat([]float32{17, -15, -15, 17}, 4)
	want := slices.Concat(
		pulse, even, []float32{1, 6, 5, 0},
		pulse, odd, []float32{8, 7, 6, 7},
		pulse, even, []float32{5, 6, 5, 4},
		pulse, odd, []float32{4, 10, 14, 8},
	)
	got, ok := impl.Studio(p, impl.Channel{A: 2, Offset: 1, G: -1})
	if !ok || !sameSamples(got, want) {
		t.Errorf("Studio(%v) = %v, %t, want %v", p, got, ok, want)
	}
}

func TestStudioSendsOneFieldBehindTheOther(t *testing.T) {
	r := rand.New(rand.NewPCG(8, 4))
	for rows := 4; rows <= impl.MaxRows; rows += 4 {
		for _, cells := range []int{1, 2, 7, 64} {
			p := somePicture(r, rows, cells)
			for i := range p {
				for k := range p[i] {
					p[i][k].C /= 4
				}
			}
			stream, ok := impl.Studio(p, sound)
			if !ok || len(stream) != rows*(24+4*cells) {
				t.Fatalf("Studio of %d rows of %d cells gives %d samples, %t", rows, cells, len(stream), ok)
			}
			lines := slices.Collect(slices.Chunk(stream, 24+4*cells))
			for i, row := range p {
				line := lines[i%2*rows/2+i/2]
				want := transmitted(sound, impl.MakeLine(row, i%4 >= 2))
				if !sameSamples(line, want) {
					t.Errorf("row %d of %d is sent as %v, want %v", i, rows, line, want)
				}
			}
			checkStudio(t, p, sound)
		}
	}
}

func TestStudioOfSomePictures(t *testing.T) {
	r := rand.New(rand.NewPCG(8, 5))
	seen := [2]int{}
	for range 2000 {
		ch := someChannel(r)
		if r.IntN(2) == 0 {
			ch = somePlainChannel(r)
		}
		if checkStudio(t, somePicture(r, 4*(1+r.IntN(3)), 1+r.IntN(4)), ch) {
			seen[1]++
		} else {
			seen[0]++
		}
	}
	if slices.Min(seen[:]) < 300 {
		t.Errorf("of the pictures tried, %v were refused and sent", seen)
	}
}

func refuseStudio(t *testing.T, p [][]impl.Cell, ch impl.Channel, name string) {
	t.Helper()
	if got, ok := impl.Studio(p, ch); ok || len(got) != 0 {
		t.Errorf("Studio with %v = %v, %t: %s", ch, got, ok, name)
	}
}

func TestStudioInvalid(t *testing.T) {
	for name, p := range brokenPictures() {
		refuseStudio(t, p, sound, name)
		refuseStudio(t, p, impl.Channel{}, name)
	}
	for _, ch := range brokenChannels() {
		for _, p := range [][][]impl.Cell{greyPicture(4, 1), greyPicture(64, 64), nil, greyPicture(5, 2)} {
			refuseStudio(t, p, ch, "a channel that is not valid")
		}
	}
}

func TestStudioOfLinesThatBecomeTooLarge(t *testing.T) {
	loud := impl.Channel{A: 5, G: 1}
	for _, rows := range []int{4, 8, impl.MaxRows} {
		for at := range rows {
			p := greyPicture(rows, 2)
			p[at][1].Y = 200
			if !checkStudio(t, p, loud) {
				t.Errorf("Studio refuses a row %d of %d with 1000", at, rows)
			}
			for _, c := range []impl.Cell{{Y: 205}, {Y: -205}, {Y: 200, C: 25}, {Y: 200, C: -25i}, {Y: -200, C: 25i}} {
				p[at][1] = c
				refuseStudio(t, p, loud, "row "+impl.FormatInt(at)+" of "+impl.FormatInt(rows)+" becomes too large")
				if checkStudio(t, p, loud) {
					t.Errorf("%v does not become too large", c)
				}
			}
		}
	}
	// The pulse becomes too large, and so each line; it is just not with the greatest A alone.
	p := greyPicture(4, 2)
	if !checkStudio(t, p, impl.Channel{A: 16, G: 16}) || !checkStudio(t, p, impl.Channel{A: 16, Offset: 64, G: 16i}) {
		t.Error("Studio refuses a line with the greatest gains")
	}
	refuseStudio(t, p, impl.Channel{A: 16, Offset: -0.125, G: 1}, "a pulse that is too large")
	refuseStudio(t, p, impl.Channel{A: 15.5, Offset: -64, G: 1}, "a pulse that is too large")
}

func TestStreamsHaveMemoryOfTheirOwn(t *testing.T) {
	r := rand.New(rand.NewPCG(8, 6))
	for _, rows := range []int{4, 8, impl.MaxRows} {
		p := roomyPicture(linkedPicture(r, rows, 3))
		checkMemory(t, "Studio", func() any { stream, _ := impl.Studio(p, sound); return stream }, p)
	}
	row := roomy(greyRow(3), greyRow(2)...)
	p := roomyPicture([][]impl.Cell{row, row, row, row})
	checkMemory(t, "Studio", func() any { stream, _ := impl.Studio(p, sound); return stream }, p)
	for _, p := range [][][]impl.Cell{greyPicture(5, 2), {row, row, row, row[:2]}, {row, row, row, {{Y: 220}, {}, {}}}} {
		p = roomyPicture(p)
		before := memoryOf(p)
		refuseStudio(t, p, impl.Channel{A: 5, G: 1}, "refused")
		refuseStudio(t, p, impl.Channel{}, "no channel")
		if memoryOf(p) != before {
			t.Errorf("a picture was changed: %v", p)
		}
	}
}
