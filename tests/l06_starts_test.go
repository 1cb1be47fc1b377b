package tests

import (
	"math/rand/v2"
	"slices"
	"testing"

	"loop.example/g03326/impl"
)

func TestStarts(t *testing.T) {
	cases := []struct {
		name   string
		stream []float32
		gap    int
		want   []int
	}{
		{"one line", streamWithLows(30, 0), 0, []int{0}},
		{"three lines", streamWithLows(90, 0, 30, 60), 0, []int{0, 30, 60}},
		{"a beginning before the first pulse", streamWithLows(97, 7, 37, 67), 0, []int{7, 37, 67}},
		{"an end behind the last line", streamWithLows(119, 0, 30, 60, 90), 0, []int{0, 30, 60}},
		{"the first pulse has just a line", streamWithLows(37, 7), 10, []int{7}},
		{"the first pulse has one sample less", streamWithLows(36, 7), 10, nil},
		{"the first pulse has no line behind it, though the second one is near", streamWithLows(29, 0, 24), 10, nil},
		{"the second line is one sample short", streamWithLows(59, 0, 30), 10, []int{0}},
		{"the second line has just its samples", streamWithLows(60, 0, 30), 0, []int{0, 30}},
		{"a pulse that is not first may be anywhere", streamWithLows(120, 0, 15, 30, 47, 60, 90), 0, []int{0, 30, 60, 90}},
		{"the first pulse counts, also if it is not that of a line", streamWithLows(90, 3, 12, 42, 72), 0, []int{3}},
		// Pulses near the wanted place.
		{"3 ahead", streamWithLows(120, 0, 27, 57), 0, []int{0, 27, 57}},
		{"4 ahead", streamWithLows(120, 0, 26, 56), 0, []int{0}},
		{"4 ahead, with a gap", streamWithLows(120, 0, 26, 56), 1, []int{0, 30}},
		{"3 behind", streamWithLows(120, 0, 33, 63), 0, []int{0, 33, 63}},
		{"4 behind", streamWithLows(120, 0, 34, 64), 0, []int{0}},
		{"4 behind, with a gap", streamWithLows(120, 0, 34, 64), 1, []int{0, 30}},
		{"1 ahead, then 2 behind", streamWithLows(120, 0, 29, 61), 0, []int{0, 29, 61}},
		{"always 3 behind", streamWithLows(140, 0, 33, 66, 99), 0, []int{0, 33, 66, 99}},
		{"always 3 ahead", streamWithLows(120, 0, 27, 54, 81), 0, []int{0, 27, 54, 81}},
		{"two near, 3 ahead and 3 behind", streamWithLows(90, 0, 27, 33), 0, []int{0, 27}},
		{"two near, and the next line behind the first one", streamWithLows(120, 0, 27, 33, 57, 63), 0, []int{0, 27, 57}},
		{"4 ahead, and 2 behind", streamWithLows(90, 0, 26, 32), 0, []int{0, 32}},
		{"one is too long, but begins near", streamWithRuns(90, 12, 0, 30, 60), 0, []int{0, 30, 60}},
		{"one reaches over the wanted place, but begins ahead of it", streamWithRuns(90, 9, 0, 25, 60), 1, []int{0, 30, 60}},
		{"one near is too short", append(streamWithRuns(60, 5, 0), streamWithRuns(60, 4, 0, 30)...), 1, []int{0, 30}},
		{"one near is too short, and the next one long enough", append(streamWithRuns(58, 5, 0, 32), 1, 1), 0, []int{0, 32}},
		// What is found may have fewer samples than a line.
		{"the last one is 3 behind, and 3 samples short", streamWithLows(60, 0, 33), 0, []int{0, 33}},
		{"the last one is 1 behind, and 1 sample short", streamWithLows(60, 0, 31), 0, []int{0, 31}},
		{"the wanted place is 1 sample short, though one is found ahead of it", streamWithLows(59, 0, 27), 10, []int{0}},
		{"as late as can be, with one more place behind it", streamWithLows(62, 0, 33), 10, []int{0, 33}},
		// Missed lines.
		{"one missed, gap 0", streamWithLows(90, 0, 60), 0, []int{0}},
		{"one missed, gap 1", streamWithLows(90, 0, 60), 1, []int{0, 30, 60}},
		{"two missed, gap 1", streamWithLows(120, 0, 90), 1, []int{0, 30}},
		{"two missed, gap 2", streamWithLows(120, 0, 90), 2, []int{0, 30, 60, 90}},
		{"three missed, gap 2", streamWithLows(150, 0, 120), 2, []int{0, 30, 60}},
		{"missed at the end, gap 0", streamWithLows(90, 0), 0, []int{0}},
		{"missed at the end, gap 1", streamWithLows(90, 0), 1, []int{0, 30}},
		{"missed at the end, gap 2", streamWithLows(90, 0), 2, []int{0, 30, 60}},
		{"missed at the end, gap 3", streamWithLows(90, 0), 3, []int{0, 30, 60}},
		{"missed on both sides, gap 1", streamWithLows(180, 0, 60, 120), 1, []int{0, 30, 60, 90, 120, 150}},
		{"missed on both sides, gap 0", streamWithLows(180, 0, 60, 120), 0, []int{0}},
		{"two missed on both sides, gap 2", streamWithLows(240, 0, 90, 180), 2, []int{0, 30, 60, 90, 120, 150, 180, 210}},
		{"two missed and then three, gap 2", streamWithLows(240, 0, 90, 210), 2, []int{0, 30, 60, 90, 120, 150}},
		{"places go on from one that is found late behind a gap", streamWithLows(160, 0, 63, 93), 1, []int{0, 30, 63, 93, 123}},
		{"places go on from one that is found early behind a gap", streamWithLows(150, 0, 57, 117), 1, []int{0, 30, 57, 87, 117}},
	}
	for _, c := range cases {
		for name, stream := range map[string][]float32{"": c.stream, "; room behind it": roomy(c.stream, streamWithLows(300, 0, 30)...)} {
			if got := impl.Starts(stream, 0, 30, c.gap); !slices.Equal(got, c.want) {
				t.Errorf("Starts with the gap %d = %v, want %v: %s%s", c.gap, got, c.want, c.name, name)
			}
		}
		if want := starts(c.stream, 0, 30, c.gap); !slices.Equal(c.want, want) {
			t.Errorf("%v was expected of %s, and %v is described", c.want, c.name, want)
		}
	}
}

func TestStartsOfEachGap(t *testing.T) {
	for gap := range impl.MaxGap + 1 {
		for missed := range impl.MaxGap + 3 {
			far := 28 * (missed + 1)
			stream := streamWithLows(28*(missed+2), 0, far)
			var want []int
			for i := range missed + 2 {
				want = append(want, 28*i)
			}
			if missed > gap {
				want = want[:gap+1]
			}
			if got := impl.Starts(stream, 0, 28, gap); !slices.Equal(got, want) {
				t.Errorf("Starts with the gap %d, and %d missed = %v, want %v", gap, missed, got, want)
			}
			if got := impl.Starts(stream[:far], 0, 28, gap); !slices.Equal(got, want[:min(len(want), missed+1)]) {
				t.Errorf("Starts with the gap %d, and %d missed at the end = %v, want %v", gap, missed, got, want)
			}
		}
	}
}

func TestStartsOfEachPlaceNearTheWantedOne(t *testing.T) {
	for _, length := range []int{28, 29, 100, 279, 280} {
		for away := -length + 6; away < 12; away++ {
			stream := streamWithLows(2*length+20, 0, length+away)
			want := []int{0}
			if away >= -3 && away <= 3 {
				want = append(want, length+away)
			}
			if got := impl.Starts(stream, 0, length, 0); !slices.Equal(got, want) {
				t.Errorf("Starts = %v, want %v: a pulse begins %d behind the place that is wanted", got, want, away)
			}
		}
	}
}

func TestStartsOfEachNumberOfSamples(t *testing.T) {
	for n := range 400 {
		for _, stream := range [][]float32{streamWithLows(n, 0), streamWithLows(n, 9), streamWithLows(n, 9, 35, 68, 96, 127)} {
			for _, length := range []int{28, 29, 30, 280} {
				got, want := impl.Starts(stream, 0, length, 2), starts(stream, 0, length, 2)
				if !slices.Equal(got, want) {
					t.Errorf("Starts of %d samples, with the length %d = %v, want %v", n, length, got, want)
				}
			}
		}
	}
}

func TestStartsInvalid(t *testing.T) {
	stream := streamWithLows(1000, 0, 28, 56, 280, 560)
	for _, length := range []int{28, 29, 279, 280} {
		for _, gap := range []int{0, 1, 9, 10} {
			if got, want := impl.Starts(stream, 0, length, gap), starts(stream, 0, length, gap); len(got) == 0 || !slices.Equal(got, want) {
				t.Errorf("Starts with the length %d and the gap %d = %v, want %v", length, gap, got, want)
			}
		}
		for _, gap := range []int{-1, 11, -2, 12, 100, -1 << 63, 1<<63 - 1} {
			if got := impl.Starts(stream, 0, length, gap); len(got) != 0 {
				t.Errorf("Starts with the length %d and the gap %d = %v", length, gap, got)
			}
		}
	}
	for _, length := range lengthsNoLineHas {
		for _, gap := range []int{-1, 0, 1, 10, 11} {
			if got := impl.Starts(stream, 0, length, gap); len(got) != 0 {
				t.Errorf("Starts with the length %d and the gap %d = %v", length, gap, got)
			}
		}
	}
	noLows := [][]float32{nil, {}, make([]float32, 300), streamWithRuns(300, 4, 0, 28, 56), slices.Repeat([]float32{notANumber}, 300)}
	for _, stream := range noLows {
		for _, length := range []int{27, 28, 280, 281, -1} {
			if got := impl.Starts(stream, -0.5, length, 1); len(got) != 0 {
				t.Errorf("Starts of a stream without pulses = %v", got)
			}
		}
	}
	for _, slice := range []float32{notANumber, -infinite, -above(1)} {
		if got := impl.Starts(stream, slice, 28, 1); len(got) != 0 {
			t.Errorf("Starts with the slice %v = %v", slice, got)
		}
	}
}

func TestStartsOfLongStreams(t *testing.T) {
	for _, length := range []int{28, 280} {
		var begins []int
		for begin := 0; begin < impl.MaxStream; begin += length {
			begins = append(begins, begin)
		}
		for _, n := range []int{19600, 19999, impl.MaxStream} {
			if got := impl.Starts(streamWithLows(n, begins...), 0, length, 0); !slices.Equal(got, begins[:n/length]) {
				t.Errorf("Starts of %d samples, with the length %d = %v", n, length, got)
			}
		}
		for _, n := range []int{impl.MaxStream + 1, 20002, 30000} {
			if got := impl.Starts(streamWithLows(n, begins...), 0, length, 0); len(got) != 0 {
				t.Errorf("Starts of %d samples, with the length %d = %v", n, length, got)
			}
		}
	}
	last := impl.MaxStream - 280
	if got := impl.Starts(streamWithLows(impl.MaxStream, last), 0, 280, 10); !slices.Equal(got, []int{last}) {
		t.Errorf("Starts = %v, want %d", got, last)
	}
	if got := impl.Starts(streamWithLows(impl.MaxStream, last+1), 0, 280, 10); len(got) != 0 {
		t.Errorf("Starts = %v", got)
	}
}

func TestStartsOfSamplesAtTheSlice(t *testing.T) {
	stream := slices.Repeat([]float32{-64, -64, -64, -64, -64, -40, -40, -40, above(-40), 0, 0, 0, notANumber, infinite, 7, 8}, 20)
	cases := []struct {
		slice float32
		want  []int
	}{{-40, []int{0, 32, 64}}, {-64, []int{0, 32, 64}}, {-above(64), nil}, {above(-40), []int{0, 32, 64}}, {1e30, []int{0, 30, 62}}, {infinite, []int{0, 29, 61}}, {-infinite, nil}}
	for _, c := range cases {
		got := impl.Starts(stream[:100], c.slice, 32, 0)
		if want := starts(stream[:100], c.slice, 32, 0); !slices.Equal(got, want) || !slices.Equal(got, c.want) {
			t.Errorf("Starts with the slice %v = %v, want %v (%v)", c.slice, got, want, c.want)
		}
	}
}

func TestStartsOfSomeStreams(t *testing.T) {
	r := rand.New(rand.NewPCG(6, 2))
	found := 0
	for range 5000 {
		length := 28 + r.IntN(30)
		stream := someStream(r, r.IntN(900), length)
		gap := r.IntN(4)
		got, want := impl.Starts(stream, 0, length, gap), starts(stream, 0, length, gap)
		if !slices.Equal(got, want) {
			t.Errorf("Starts(%v, 0, %d, %d) = %v, want %v", stream, length, gap, got, want)
		}
		found += len(got)
	}
	if found < 10000 {
		t.Errorf("only %d lines were found", found)
	}
}

func TestMadeLinesAreCutAtTheirPulses(t *testing.T) {
	r := rand.New(rand.NewPCG(6, 3))
	for cells := 1; cells <= impl.MaxCells; cells++ {
		length := 24 + 4*cells
		for _, rows := range []int{1, 2, 3, 1 + r.IntN(impl.MaxStream/length), impl.MaxStream / length} {
			lines := linesOf(streamRows(r, rows, cells))
			stream := slices.Concat(lines...)
			places := impl.Starts(stream, -40, length, 1)
			if got := impl.CutLines(stream, places, length); !sameLines(got, lines) {
				t.Errorf("%d lines of %d cells are cut into %d lines, at %v", rows, cells, len(got), places)
			}
			lost := []int{1, rows / 2, rows - 2, rows - 1, r.IntN(rows)}
			for _, line := range lost {
				if line < 1 {
					continue
				}
				erased := impl.Erase(stream, line*length, impl.SyncLen)
				if got := impl.Starts(erased, -40, length, 1); !slices.Equal(got, places) {
					t.Errorf("with the pulse of line %d erased, %d lines of %d cells are at %v", line, rows, cells, got)
				}
			}
		}
	}
}

func TestStartsHaveMemoryOfTheirOwn(t *testing.T) {
	stream := roomy(streamWithLows(300, 0, 28, 60, 116), streamWithLows(30, 0)...)
	for _, gap := range []int{0, 1, 10} {
		checkMemory(t, "Starts", func() any { return impl.Starts(stream, 0, 28, gap) }, stream)
	}
	before := memoryOf(stream)
	for _, length := range []int{-1, 27, 281} {
		impl.Starts(stream, 0, length, 1)
		impl.Starts(stream, 0, 30, length)
		impl.Starts(stream[:27], 0, 30, 1)
	}
	if memoryOf(stream) != before {
		t.Error("Starts changes a stream")
	}
}
