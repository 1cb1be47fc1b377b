package tests

import (
	"math/rand/v2"
	"slices"
	"strings"
	"testing"

	"loop.example/g03326/impl"
)

// checkTune reports if Tune does not give what the document describes, and returns whether the
// command was done.
func checkTune(t *testing.T, s impl.Set, line string) bool {
	t.Helper()
	want, wantOk := tunedSet(s, line)
	got, ok := impl.Tune(s, line)
	if ok != wantOk || !sameSet(got, want) {
		t.Errorf("Tune(%v, %q) = %v, %t, want %v, %t", s, line, got, ok, want, wantOk)
	}
	return ok
}

// refuseTune reports if Tune does not return the set unchanged and false.
func refuseTune(t *testing.T, s impl.Set, line string) {
	t.Helper()
	if got, ok := impl.Tune(s, line); ok || !sameSet(got, s) {
		t.Errorf("Tune(%v, %.700q) = %v, %t", s, line, got, ok)
	}
	if want, ok := tunedSet(s, line); ok {
		t.Errorf("Tune(%v, %q) is described as %v", s, line, want)
	}
}

// tunable returns a valid set with numbers that no new set has.
func tunable() impl.Set {
	return impl.Set{Cells: 7, Rows: 12, Slice: -33.5, Least: 0.75, Sat: 2.5, Log: []string{"slice -33.500", "anything"}}
}

func TestTune(t *testing.T) {
	cases := map[string]func(s *impl.Set){
		"slice -40.000":     func(s *impl.Set) { s.Slice = -40 },
		"slice -1024.000":   func(s *impl.Set) { s.Slice = -1024 },
		"slice 1024.000":    func(s *impl.Set) { s.Slice = 1024 },
		"slice 0.000":       func(s *impl.Set) { s.Slice = 0 },
		"slice -0.001":      func(s *impl.Set) { s.Slice = -0.001 },
		"slice 0.001":       func(s *impl.Set) { s.Slice = 0.001 },
		"slice -33.500":     func(s *impl.Set) {},
		"slice -1023.999":   func(s *impl.Set) { s.Slice = -1023.999 },
		"slice 100.100":     func(s *impl.Set) { s.Slice = 100.1 },
		"killer 0.000":      func(s *impl.Set) { s.Least = 0 },
		"killer 0.001":      func(s *impl.Set) { s.Least = 0.001 },
		"killer 0.125":      func(s *impl.Set) { s.Least = 0.125 },
		"killer 0.333":      func(s *impl.Set) { s.Least = 0.333 },
		"killer 15.999":     func(s *impl.Set) { s.Least = 15.999 },
		"killer 16.000":     func(s *impl.Set) { s.Least = 16 },
		"saturation 0.000":  func(s *impl.Set) { s.Sat = 0 },
		"saturation 0.001":  func(s *impl.Set) { s.Sat = 0.001 },
		"saturation 1.000":  func(s *impl.Set) { s.Sat = 1 },
		"saturation 1.100":  func(s *impl.Set) { s.Sat = 1.1 },
		"saturation 15.999": func(s *impl.Set) { s.Sat = 15.999 },
		"saturation 16.000": func(s *impl.Set) { s.Sat = 16 },
		"size 1 4":          func(s *impl.Set) { s.Cells, s.Rows = 1, 4 },
		"size 64 64":        func(s *impl.Set) { s.Cells, s.Rows = 64, 64 },
		"size 64 4":         func(s *impl.Set) { s.Cells, s.Rows = 64, 4 },
		"size 4 60":         func(s *impl.Set) { s.Cells, s.Rows = 4, 60 },
		"size 7 12":         func(s *impl.Set) {},
	}
	for line, change := range cases {
		want := tunable()
		change(&want)
		want.Log = append(want.Log, line)
		got, ok := impl.Tune(tunable(), line)
		if !ok || !sameSet(got, want) {
			t.Errorf("Tune(%q) = %v, %t, want %v", line, got, ok, want)
		}
		checkTune(t, tunable(), line)
	}
}

func TestTuneBeyondTheLimits(t *testing.T) {
	numbers := map[string][]string{
		"slice":      {"1024.001", "-1024.001", "1025.000", "-1025.000", "1000000.000", "-1000000.000", "1000000.001"},
		"killer":     {"-0.001", "16.001", "17.000", "-1.000", "-16.000", "1000000.000", "-1000000.000"},
		"saturation": {"-0.001", "16.001", "17.000", "-1.000", "-16.000", "1000000.000", "-1000000.000"},
		"size": {
			"0 4", "65 4", "1 0", "1 1", "1 2", "1 3", "1 5", "1 6", "1 7", "1 63", "1 62", "1 65", "1 66", "1 68", "0 0", "66 68",
			"1000000000 4", "4 1000000000", "1000000001 4", "4 1000000004", "4 4294967300", "4294967297 4", "18446744073709551617 4", "4 18446744073709551620",
		},
	}
	for name, texts := range numbers {
		for _, text := range texts {
			refuseTune(t, tunable(), name+" "+text)
		}
	}
}

func TestTuneOfEachSize(t *testing.T) {
	for cells := range 68 {
		for rows := range 70 {
			line := "size " + impl.FormatInt(cells) + " " + impl.FormatInt(rows)
			want := cells >= 1 && cells <= 64 && rows >= 4 && rows <= 64 && rows%4 == 0
			if got := checkTune(t, tunable(), line); got != want {
				t.Errorf("Tune(%q) is done: %t", line, got)
			}
		}
	}
}

func TestTuneOfLinesThatAreNoCommands(t *testing.T) {
	lines := []string{
		"", " ", "    ", "slice", "killer", "saturation", "size", "1.000", "1 4", "slice slice", "slice killer", "size slice 1.000",
		// Too few and too many fields.
		"slice 1.000 1.000", "killer 1.000 1.000", "saturation 1.000 1.000", "size 4", "size 4 4 4", "size 4 4 4 4", "slice 1 4", "slice - 1.000",
		"size 4 size 4", "slice 1.000 killer 1.000", "slice 1.000 ;", "slice 1.000 #", "size" + strings.Repeat(" 4", 23), "size" + strings.Repeat(" 4", 24),
		// Other names, also in other letters.
		"Slice 1.000", "SLICE 1.000", "slicE 1.000", "Killer 1.000", "KILLER 1.000", "Saturation 1.000", "SATURATION 1.000", "Size 4 4", "SIZE 4 4", "sizE 4 4",
		"slic 1.000", "slices 1.000", "lice 1.000", "kill 1.000", "killers 1.000", "sat 1.000", "saturatio 1.000", "saturations 1.000", "siz 4 4", "sizes 4 4",
		"least 1.000", "cells 4", "rows 4", "log 1.000", "report", "reset", "\"slice\" 1.000", "slice=1.000", "slice: 1.000", "slice,1.000", "slice1.000", "size4 4",
		"1.000 slice", "4 4 size", "x slice 1.000", "nil 1.000",
		// Numbers that are not written as they must be.
		"slice 1", "slice 1.0", "slice 1.00", "slice 1.0000", "slice 01.000", "slice .500", "slice -.500", "slice +1.000", "slice -0.000", "slice --1.000", "slice 1,000",
		"slice 1e0", "slice 0x1.000", "slice NaN", "slice Inf", "slice 1.000.", "slice \"1.000\"", "slice 1_0.000", "slice -", "slice 1.", "slice a.000",
		"killer 1", "killer +1.000", "killer -0.000", "killer 01.000", "killer 0.12", "killer 0.1250", "killer NaN", "killer 1.00x",
		"saturation 1", "saturation +1.000", "saturation -0.000", "saturation 001.000", "saturation 1.5", "saturation inf", "saturation half",
		"size 1.000 4.000", "size 1.000 4", "size 4 4.000", "size 04 4", "size 4 04", "size +4 4", "size 4 +4", "size -4 4", "size 4 -4", "size -0 4", "size 4 4e0",
		"size 0x4 4", "size four 4", "size 4 four", "size 4,4", "size 4x4", "size 4 4,", "size 1_2 4",
	}
	for _, line := range lines {
		refuseTune(t, tunable(), line)
		refuseTune(t, newSet(1, 4), line)
	}
}

func TestTuneOfLinesWithSpaces(t *testing.T) {
	for _, command := range []string{"slice -40.000", "killer 0.250", "saturation 3.000", "size 5 8"} {
		plain, _ := impl.Tune(tunable(), command)
		fill := 600 - len(command)
		for _, line := range []string{
			" " + command, command + " ", "   " + command + "  ", strings.ReplaceAll(command, " ", "  "), strings.ReplaceAll(" "+command+" ", " ", "       "),
			strings.Repeat(" ", fill) + command, command + strings.Repeat(" ", fill), strings.Replace(command, " ", strings.Repeat(" ", fill+1), 1),
		} {
			got, ok := impl.Tune(tunable(), line)
			if !ok || !sameSet(got, plain) || got.Log[2] != command {
				t.Errorf("Tune(%q) = %v, %t, want %v", line, got, ok, plain)
			}
			checkTune(t, tunable(), line)
		}
		// No line is that long.
		for _, n := range []int{fill + 1, fill + 2, 5000, impl.MaxInputLen, impl.MaxInputLen + 1, 1 << 20} {
			refuseTune(t, tunable(), command+strings.Repeat(" ", n))
			refuseTune(t, tunable(), strings.Repeat(" ", n)+command)
		}
		for _, b := range []string{"\t", "\n", "\r", "\v", "\x00", "\x1f", "\x7f", "\x80", "\xff", "\u00a0", "\u2003", "é", "\ufeff"} {
			refuseTune(t, tunable(), command+b)
			refuseTune(t, tunable(), b+command)
			refuseTune(t, tunable(), command+" "+b)
			refuseTune(t, tunable(), strings.Replace(command, " ", b, 1))
			refuseTune(t, tunable(), strings.Replace(command, " ", " "+b, 1))
		}
	}
	refuseTune(t, tunable(), "size 1"+strings.Repeat("0", 600)+" 4")
	refuseTune(t, tunable(), strings.Repeat("x", impl.MaxInputLen+1))
}

// goodCommands are commands that each valid set does, if its log has room.
var goodCommands = []string{"slice 1.000", "killer 1.000", "saturation 1.000", "size 4 4"}

func TestTuneWithEachLengthOfTheLog(t *testing.T) {
	for n := range 105 {
		for _, line := range append(goodCommands, "size 4 5", "nonsense") {
			s := newSet(1, 4)
			s.Log = logOf(n)
			if n >= impl.MaxLog {
				refuseTune(t, s, line)
			} else if got := checkTune(t, s, line); got != slices.Contains(goodCommands, line) {
				t.Errorf("Tune(%q) with %d strings in the log is done: %t", line, n, got)
			}
		}
	}
}

func TestTuneOfSetsThatAreNotValid(t *testing.T) {
	// Some of these commands would make the set valid.
	for _, s := range brokenSets() {
		for _, line := range append(goodCommands, "size 3 8", "slice -24.000", "killer 0.125", "nonsense", "") {
			refuseTune(t, s, line)
		}
	}
}

// someCommand returns a line that is mostly a command.
func someCommand(r *rand.Rand) string {
	name := []string{"slice", "killer", "saturation", "size", "size", "sice", "Size"}[r.IntN(7)]
	number := func() string {
		limit := []int{16, 100, 16000, 16001, 64000, 1024000, 1030000, 2000000}[r.IntN(8)]
		text := impl.FormatFixed(r.IntN(limit+1) * (1 - r.IntN(2)*r.IntN(2)*2))
		if r.IntN(20) == 0 {
			return text[1:]
		}
		return text
	}
	values := []string{number()}
	if strings.HasSuffix(name, "ize") {
		values = []string{impl.FormatInt(r.IntN(67)), impl.FormatInt(4 * r.IntN(18))}
	}
	if r.IntN(20) == 0 {
		values = append(values, number())
	}
	if r.IntN(20) == 0 {
		values = values[1:]
	}
	space := func() string { return strings.Repeat(" ", max(0, r.IntN(6)-3)) }
	line := space() + name
	for _, value := range values {
		line += " " + space() + value
	}
	return line + space()
}

func TestTuneOfSomeLines(t *testing.T) {
	r := rand.New(rand.NewPCG(8, 22))
	seen := [2]int{}
	for range 10000 {
		if checkTune(t, someSet(r), someCommand(r)) {
			seen[1]++
		} else {
			seen[0]++
		}
	}
	if slices.Min(seen[:]) < 2000 {
		t.Errorf("of the lines tried, %v were refused and done", seen)
	}
}

func TestTuneOfAllThousandths(t *testing.T) {
	s := newSet(1, 4)
	for n := -1024100; n <= 1024100; n += 7 {
		text := impl.FormatFixed(n)
		tuned, ok := impl.Tune(s, "slice "+text)
		if want := float32(float64(n) / 1000); ok != (want >= -1024 && want <= 1024) || ok && !sameFloat(tuned.Slice, want) {
			t.Errorf("Tune(%q) = %v, %t", "slice "+text, tuned, ok)
		}
	}
	for n := -20; n <= 16020; n++ {
		want := float32(float64(n) / 1000)
		k, kOk := impl.Tune(s, "killer "+impl.FormatFixed(n))
		c, cOk := impl.Tune(s, "saturation "+impl.FormatFixed(n))
		wantOk := n >= 0 && n <= 16000
		if kOk != wantOk || cOk != wantOk || wantOk && (!sameFloat(k.Least, want) || !sameFloat(c.Sat, want)) {
			t.Errorf("Tune of %d thousandths = %v, %t, and %v, %t", n, k, kOk, c, cOk)
		}
	}
}

func TestTunedSetsHaveMemoryOfTheirOwn(t *testing.T) {
	for _, n := range []int{0, 1, 3, 99, 100, 101} {
		for _, line := range append(goodCommands, "size 4 5", "nonsense", "", strings.Repeat("x", 700)) {
			s := newSet(3, 8)
			s.Log = roomy(logOf(n), "behind", "far behind", "at the end")
			checkMemory(t, "Tune", func() any { tuned, _ := impl.Tune(s, line); return tuned }, s)
		}
	}
}

func TestTuneOfOneSetTwice(t *testing.T) {
	for _, spare := range []int{0, 1, 10} {
		s := newSet(3, 8)
		s.Log = roomy(logOf(2), make([]string, spare)...)
		first, _ := impl.Tune(s, "size 1 4")
		second, _ := impl.Tune(s, "size 2 4")
		third, _ := impl.Tune(first, "size 3 4")
		fourth, _ := impl.Tune(first, "size 4 4")
		refused, _ := impl.Tune(first, "size 5 5")
		fifth, _ := impl.Tune(refused, "size 5 8")
		last := func(s impl.Set) string { return s.Log[len(s.Log)-1] }
		got := []string{last(s), last(first), last(second), last(third), last(fourth), last(refused), last(fifth)}
		if want := []string{"saturation 1.101", "size 1 4", "size 2 4", "size 3 4", "size 4 4", "size 1 4", "size 5 8"}; !slices.Equal(got, want) {
			t.Errorf("the last strings are %q, want %q", got, want)
		}
	}
}
