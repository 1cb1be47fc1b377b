package tests

import (
	"math"
	"math/rand/v2"
	"slices"
	"strings"
	"testing"

	"loop.example/g03326/impl"
)

func TestSetConstants(t *testing.T) {
	if got := []int{impl.MaxLog, impl.SetGap}; !slices.Equal(got, []int{100, 3}) {
		t.Error("unexpected constants", got)
	}
}

func TestSetOkOfSizes(t *testing.T) {
	for cells := -3; cells <= 70; cells++ {
		for rows := -9; rows <= 70; rows++ {
			want := cells >= 1 && cells <= 64 && rows >= 4 && rows <= 64 && rows%4 == 0
			if got := impl.SetOk(newSet(cells, rows)); got != want {
				t.Errorf("SetOk of a set of %d cells and %d rows is %t", cells, rows, got)
			}
		}
	}
}

func TestSetOkOfNumbers(t *testing.T) {
	for _, slice := range around(1024) {
		for _, least := range amountsOfGains {
			for _, sat := range amountsOfGains {
				for _, n := range []int{0, 1, 99, 100} {
					s := impl.Set{Cells: 64, Rows: 4, Slice: slice, Least: least, Sat: sat, Log: logOf(n)}
					if !impl.SetOk(s) {
						t.Errorf("SetOk(%v) is false", s)
					}
				}
			}
		}
	}
}

func TestSetOkLooksAtTheLengthOfTheLogAlone(t *testing.T) {
	s := newSet(1, 4)
	for _, log := range [][]string{nil, {}, {""}, {"nonsense", "slice", "size 0 0", strings.Repeat("x", 30000), "\x00"}, logOf(200)[:100]} {
		if s.Log = log; !impl.SetOk(s) {
			t.Errorf("SetOk is false with the log %q", log)
		}
	}
}

func TestSetOkInvalid(t *testing.T) {
	for _, s := range brokenSets() {
		if impl.SetOk(s) {
			t.Errorf("SetOk(%v) is true", s)
		}
	}
}

func TestNewSet(t *testing.T) {
	for cells := -3; cells <= 70; cells++ {
		for rows := -9; rows <= 70; rows++ {
			wantOk := cells >= 1 && cells <= 64 && rows >= 4 && rows <= 64 && rows%4 == 0
			want := impl.Set{}
			if wantOk {
				want = impl.Set{Cells: cells, Rows: rows, Slice: -24, Least: 0.125, Sat: 1}
			}
			s, ok := impl.NewSet(cells, rows)
			if ok != wantOk || !sameSet(s, want) {
				t.Errorf("NewSet(%d, %d) = %v, %t, want %v, %t", cells, rows, s, ok, want, wantOk)
			}
		}
	}
}

func TestNewSetInvalid(t *testing.T) {
	for _, far := range farNumbers {
		for _, n := range slices.Concat(farNumbers, []int{1, 4, 64}) {
			for _, size := range [][2]int{{far, n}, {n, far}} {
				if s, ok := impl.NewSet(size[0], size[1]); ok || !isZeroSet(s) {
					t.Errorf("NewSet(%d, %d) = %v, %t", size[0], size[1], s, ok)
				}
			}
		}
	}
}

func TestReport(t *testing.T) {
	cases := []struct {
		s    impl.Set
		want string
	}{
		{newSet(1, 4), "1 4 -24.000 0.125 1.000"},
		{newSet(64, 64), "64 64 -24.000 0.125 1.000"},
		{impl.Set{Cells: 10, Rows: 12, Slice: 1024, Least: 16, Sat: 16}, "10 12 1024.000 16.000 16.000"},
		{impl.Set{Cells: 10, Rows: 12, Slice: -1024, Least: 0, Sat: 0, Log: logOf(100)}, "10 12 -1024.000 0.000 0.000"},
		{impl.Set{Cells: 1, Rows: 8, Slice: negativeZero, Least: negativeZero, Sat: negativeZero}, "1 8 0.000 0.000 0.000"},
		{impl.Set{Cells: 1, Rows: 8, Slice: 1e-45, Least: 1e-45, Sat: 0.0004}, "1 8 0.000 0.000 0.000"},
		{impl.Set{Cells: 1, Rows: 8, Slice: -1e-45, Least: 0.0006, Sat: 0.05}, "1 8 0.000 0.001 0.050"},
		{impl.Set{Cells: 1, Rows: 8, Slice: -0.0004, Least: 0.3333, Sat: 2.0 / 3}, "1 8 0.000 0.333 0.667"},
		{impl.Set{Cells: 1, Rows: 8, Slice: -0.0006, Least: 9.99949, Sat: 9.99951}, "1 8 -0.001 9.999 10.000"},
		// Halves of a thousandth.
		{impl.Set{Cells: 1, Rows: 8, Slice: -0.0625, Least: 0.0625, Sat: 0.1875}, "1 8 -0.063 0.063 0.188"},
		{impl.Set{Cells: 1, Rows: 8, Slice: -above(-0.0625), Least: above(0.0625), Sat: -above(-0.0625)}, "1 8 0.062 0.063 0.062"},
		{impl.Set{Cells: 1, Rows: 8, Slice: -100.1, Least: 0.1, Sat: 15.9999}, "1 8 -100.100 0.100 16.000"},
		{impl.Set{Cells: 1, Rows: 8, Slice: -1023.99994, Least: 15.999999, Sat: 15.9994}, "1 8 -1024.000 16.000 15.999"},
	}
	for _, c := range cases {
		if got := impl.Report(c.s); got != c.want {
			t.Errorf("Report(%v) = %q, want %q", c.s, got, c.want)
		}
	}
}

func TestReportOfSomeSets(t *testing.T) {
	r := rand.New(rand.NewPCG(8, 1))
	for range 3000 {
		s := someSet(r)
		fields := []string{impl.FormatInt(s.Cells), impl.FormatInt(s.Rows)}
		for _, x := range []float32{s.Slice, s.Least, s.Sat} {
			fields = append(fields, impl.FormatFixed(int(math.Round(float64(x)*1000))))
		}
		if got, want := impl.Report(s), strings.Join(fields, " "); got != want {
			t.Errorf("Report(%v) = %q, want %q", s, got, want)
		}
	}
}

func TestReportInvalid(t *testing.T) {
	for _, s := range brokenSets() {
		if got := impl.Report(s); got != "" {
			t.Errorf("Report(%v) = %q", s, got)
		}
	}
}

func TestASetThatReadsAReportReportsTheSame(t *testing.T) {
	r := rand.New(rand.NewPCG(8, 2))
	for range 3000 {
		s := someSet(r)
		report := impl.Report(s)
		fields := strings.Fields(report)
		lines := []string{"slice " + fields[2], "killer " + fields[3], "saturation " + fields[4]}
		again, ok := impl.NewSet(s.Cells, s.Rows)
		again, done := impl.TuneAll(again, lines)
		if got := impl.Report(again); !ok || slices.Contains(done, false) || got != report {
			t.Errorf("the report %q, read, makes %q, %t, %v", report, got, ok, done)
		}
	}
}

func TestReportsLeaveTheSetAsItWas(t *testing.T) {
	r := rand.New(rand.NewPCG(8, 3))
	for _, s := range append(brokenSets(), someSet(r), someSet(r), someSet(r)) {
		s.Log = roomy(s.Log, "behind", "far behind")
		before := memoryOf(s)
		impl.SetOk(s)
		impl.Report(s)
		if memoryOf(s) != before {
			t.Errorf("a set was changed: %v", s)
		}
	}
}
