package tests

import (
	"math"
	"math/rand/v2"
	"slices"
	"testing"
	"unsafe"

	"loop.example/g03326/impl"
)

// checkTuneAll reports if TuneAll does not give what the document describes, and returns what it
// gives.
func checkTuneAll(t *testing.T, s impl.Set, lines []string) (impl.Set, []bool) {
	t.Helper()
	want, wantDone := s, make([]bool, len(lines))
	for i, line := range lines {
		want, wantDone[i] = tunedSet(want, line)
	}
	got, done := impl.TuneAll(s, lines)
	if !sameSet(got, want) || !slices.Equal(done, wantDone) {
		t.Errorf("TuneAll(%v, %q) = %v, %v, want %v, %v", s, lines, got, done, want, wantDone)
	}
	return got, done
}

func TestTuneAll(t *testing.T) {
	s := newSet(1, 4)
	lines := []string{"size 1 5", "size  2 8", "", "slice -40.000", "size 3 8", "saturation 17.000", " killer 0.500 ", "saturation 2.000", "nonsense", "slice -30.000"}
	want := impl.Set{Cells: 3, Rows: 8, Slice: -30, Least: 0.5, Sat: 2}
	want.Log = []string{"size 2 8", "slice -40.000", "size 3 8", "killer 0.500", "saturation 2.000", "slice -30.000"}
	wantDone := []bool{false, true, false, true, true, false, true, true, false, true}
	got, done := impl.TuneAll(s, lines)
	if !sameSet(got, want) || !slices.Equal(done, wantDone) {
		t.Errorf("TuneAll(%v, %q) = %v, %v, want %v, %v", s, lines, got, done, want, wantDone)
	}
	checkTuneAll(t, s, lines)
}

func TestTuneAllOfNoLines(t *testing.T) {
	for _, s := range append(brokenSets(), newSet(1, 4), tunable()) {
		for _, lines := range [][]string{nil, {}} {
			if got, done := impl.TuneAll(s, lines); !sameSet(got, s) || len(done) != 0 {
				t.Errorf("TuneAll(%v) of no lines = %v, %v", s, got, done)
			}
		}
	}
}

func TestTuneAllOfSetsThatAreNotValid(t *testing.T) {
	lines := append([]string{"size 3 8", "slice -24.000", "nonsense"}, goodCommands...)
	for _, s := range brokenSets() {
		got, done := checkTuneAll(t, s, lines)
		if !sameSet(got, s) || len(done) != len(lines) || slices.Contains(done, true) {
			t.Errorf("TuneAll(%v) = %v, %v", s, got, done)
		}
	}
}

func TestTuneAllOfMoreLinesThanALogMayHave(t *testing.T) {
	for _, logged := range []int{0, 1, 50, 99, 100} {
		s := newSet(1, 4)
		s.Log = logOf(logged)
		var lines []string
		for n := range 250 {
			// Each second line is refused, and so has no place in the log.
			lines = append(lines, "slice "+impl.FormatInt(n)+".000", "slice "+impl.FormatInt(n))
		}
		got, done := checkTuneAll(t, s, lines)
		room := impl.MaxLog - logged
		for i, ok := range done {
			if ok != (i%2 == 0 && i < 2*room) {
				t.Errorf("with %d strings in the log, line %d is done: %t", logged, i, ok)
			}
		}
		if room > 0 {
			s.Slice = float32(room - 1)
		}
		if len(got.Log) != impl.MaxLog || got.Slice != s.Slice {
			t.Errorf("with %d strings in the log, the set becomes %v", logged, got)
		}
	}
}

// someCommands returns lines that mostly are commands.
func someCommands(r *rand.Rand, n int) []string {
	lines := make([]string, n)
	for i := range lines {
		lines[i] = someCommand(r)
	}
	return lines
}

func TestTuneAllOfSomeLines(t *testing.T) {
	r := rand.New(rand.NewPCG(8, 23))
	for range 500 {
		s := []impl.Set{newSet(5, 8), someSet(r), {}}[r.IntN(3)]
		checkTuneAll(t, s, someCommands(r, r.IntN(30)))
	}
}

// checkRetune reports if Retune does not give what the document describes, and returns whether
// there is a set.
func checkRetune(t *testing.T, cells, rows int, log []string) bool {
	t.Helper()
	want, wantOk := newSet(cells, rows), setInRange(newSet(cells, rows))
	for _, line := range log {
		if wantOk {
			want, wantOk = tunedSet(want, line)
		}
	}
	if !wantOk {
		want = impl.Set{}
	}
	got, ok := impl.Retune(cells, rows, log)
	if ok != wantOk || !sameSet(got, want) {
		t.Errorf("Retune(%d, %d, %q) = %v, %t, want %v, %t", cells, rows, log, got, ok, want, wantOk)
	}
	return ok
}

func TestRetune(t *testing.T) {
	log := []string{"slice -40.000", "size 3 8", " saturation  2.000 ", "slice -30.000", "killer 0.000"}
	want := impl.Set{Cells: 3, Rows: 8, Slice: -30, Least: 0, Sat: 2}
	want.Log = []string{"slice -40.000", "size 3 8", "saturation 2.000", "slice -30.000", "killer 0.000"}
	for _, size := range [][2]int{{1, 4}, {3, 8}, {64, 64}} {
		if got, ok := impl.Retune(size[0], size[1], log); !ok || !sameSet(got, want) {
			t.Errorf("Retune(%v, %q) = %v, %t, want %v", size, log, got, ok, want)
		}
	}
	for _, none := range [][]string{nil, {}} {
		if got, ok := impl.Retune(7, 12, none); !ok || !sameSet(got, newSet(7, 12)) {
			t.Errorf("Retune of no lines = %v, %t", got, ok)
		}
	}
}

func TestRetuneOfALogWithARefusedLine(t *testing.T) {
	for _, bad := range []string{"", "nonsense", "size 4 5", "killer 16.001", "slice 1", "Size 4 4"} {
		for _, n := range []int{1, 2, 7, 99, 100} {
			for at := range n {
				log := logOf(n)
				if !checkRetune(t, 2, 4, log) {
					t.Errorf("a log of %d lines is refused", n)
				}
				log[at] = bad
				if got, ok := impl.Retune(2, 4, log); ok || !isZeroSet(got) {
					t.Errorf("Retune of a log with %q at %d of %d = %v, %t", bad, at, n, got, ok)
				}
			}
		}
	}
}

func TestRetuneOfALogThatIsTooLong(t *testing.T) {
	for n := range 110 {
		if got := checkRetune(t, 2, 4, logOf(n)); got != (n <= impl.MaxLog) {
			t.Errorf("Retune of %d lines gives a set: %t", n, got)
		}
	}
	checkRetune(t, 2, 4, logOf(1000))
}

func TestRetuneOfSizesThatNewSetRefuses(t *testing.T) {
	// The log may have the right size.
	for _, log := range [][]string{nil, {"size 4 4"}, {"slice 1.000", "size 4 4"}, {"nonsense"}} {
		for _, n := range slices.Concat(farNumbers, []int{5, 6, 7, 63}) {
			got, ok := impl.Retune(4, n, log)
			if ok || !isZeroSet(got) {
				t.Errorf("Retune(4, %d, %q) = %v, %t", n, log, got, ok)
			}
		}
		for _, n := range farNumbers {
			got, ok := impl.Retune(n, 4, log)
			if ok || !isZeroSet(got) {
				t.Errorf("Retune(%d, 4, %q) = %v, %t", n, log, got, ok)
			}
		}
	}
	for cells := -1; cells < 67; cells++ {
		for rows := -1; rows < 70; rows++ {
			checkRetune(t, cells, rows, []string{"killer 0.000"})
		}
	}
}

func TestALogDoneAgainGivesTheSameSet(t *testing.T) {
	r := rand.New(rand.NewPCG(8, 24))
	logged := 0
	for range 1000 {
		cells, rows := 1+r.IntN(64), 4+4*r.IntN(16)
		s, _ := impl.NewSet(cells, rows)
		s, done := impl.TuneAll(s, someCommands(r, r.IntN(60)))
		again, ok := impl.Retune(cells, rows, s.Log)
		if !ok || !sameSet(again, s) {
			t.Errorf("the set %v, by its log, is %v, %t", s, again, ok)
		}
		if commands := slices.DeleteFunc(done, func(ok bool) bool { return !ok }); len(commands) != len(s.Log) {
			t.Errorf("%d commands were done, and the log has %d", len(commands), len(s.Log))
		}
		logged += len(s.Log)
	}
	if logged < 5000 {
		t.Errorf("only %d lines were done again", logged)
	}
}

func TestARefusedCommandChangesNothing(t *testing.T) {
	r := rand.New(rand.NewPCG(8, 25))
	refused := 0
	for range 3000 {
		s, line := someSet(r), someCommand(r)
		first, ok := impl.Tune(s, line)
		if ok {
			continue
		}
		refused++
		next := someCommands(r, 5)
		want, wantDone := impl.TuneAll(s, next)
		got, done := impl.TuneAll(first, next)
		if !sameSet(first, s) || impl.Report(first) != impl.Report(s) || !sameSet(got, want) || !slices.Equal(done, wantDone) {
			t.Errorf("the refused command %q makes %v of %v", line, first, s)
		}
	}
	if refused < 500 {
		t.Errorf("only %d commands were refused", refused)
	}
}

// tunedAll is what TuneAll returns.
type tunedAll struct {
	Set  impl.Set
	Done []bool
}

func TestLogsHaveMemoryOfTheirOwn(t *testing.T) {
	r := rand.New(rand.NewPCG(8, 26))
	for range 50 {
		lines := roomy(append(someCommands(r, r.IntN(10)), "size 4 4", "nonsense"), "slice 0.000", "size 1 4")
		for _, lines := range [][]string{lines, lines[:0], lines[len(lines)-1:]} {
			s := someSet(r)
			s.Log = roomy(s.Log, "behind", "far behind")
			all := func() any {
				tuned, done := impl.TuneAll(s, lines)
				return tunedAll{tuned, done}
			}
			checkMemory(t, "TuneAll", all, s, lines)
			checkMemory(t, "Retune", func() any { tuned, _ := impl.Retune(4, 8, lines); return tuned }, lines)
		}
		good := roomy(logOf(1+r.IntN(100)), "slice 0.000")
		checkMemory(t, "Retune", func() any { tuned, _ := impl.Retune(4, 8, good); return tuned }, good)
		checkMemory(t, "NewSet", func() any { s, _ := impl.NewSet(4, 8); return s })
	}
}

// overlap reports whether the bytes of both texts share memory.
func overlap(a, b string) bool {
	if a == "" || b == "" {
		return false
	}
	at, begin := uintptr(unsafe.Pointer(unsafe.StringData(a))), uintptr(unsafe.Pointer(unsafe.StringData(b)))
	return at < begin+uintptr(len(b)) && begin < at+uintptr(len(a))
}

func TestStringsInALogShareNoBytesWithAnArgument(t *testing.T) {
	s := tunable()
	lines := []string{"size 4 4", " slice  1.000", "nonsense"}
	check := func(got impl.Set, name string) {
		t.Helper()
		for _, text := range got.Log {
			if slices.ContainsFunc(append(lines, s.Log...), func(given string) bool { return overlap(text, given) }) {
				t.Errorf("after %s, %q in the log shares memory with an argument", name, text)
			}
		}
	}
	for _, line := range lines {
		tuned, _ := impl.Tune(s, line)
		check(tuned, "Tune with "+line)
	}
	for n := range len(lines) + 1 {
		tuned, _ := impl.TuneAll(s, lines[:n])
		check(tuned, "TuneAll of lines")
	}
	again, ok := impl.Retune(1, 4, lines[:2])
	if check(again, "Retune"); !ok || len(again.Log) != 2 {
		t.Errorf("Retune = %v, %t", again, ok)
	}
}

func TestNewSetsHaveNoLog(t *testing.T) {
	for _, size := range [][2]int{{1, 4}, {64, 64}, {0, 4}, {1, 5}, {math.MinInt, math.MaxInt}} {
		if s, _ := impl.NewSet(size[0], size[1]); len(s.Log) != 0 {
			t.Errorf("NewSet(%v) = %v", size, s)
		}
	}
}
