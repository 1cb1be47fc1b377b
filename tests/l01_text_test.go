package tests

import (
	"encoding/hex"
	"math"
	"slices"
	"strconv"
	"strings"
	"testing"

	"loop.example/g03326/impl"
)

func TestTextLimits(t *testing.T) {
	got := []int{impl.MaxInputLen, impl.MaxUint, impl.MaxLineLen, impl.MaxFieldsPerLine, impl.MaxFixed}
	if want := []int{20000, 1000000000, 600, 24, 1000000000}; !slices.Equal(got, want) {
		t.Errorf("limits are %v, want %v", got, want)
	}
}

func TestEncodeHex(t *testing.T) {
	cases := map[string]string{
		"":                 "",
		"az":               "617a",
		"\x00":             "00",
		"\x09\x0a\x0f\x10": "090a0f10",
		"\x99\x9a\xa9\xff": "999aa9ff",
		"é":                "c3a9",
	}
	for s, want := range cases {
		if got := parse(impl.EncodeHex, s); got != (parsed[string]{want, true}) {
			t.Errorf("EncodeHex(%q) = %v, want %q", s, got, want)
		}
	}
	if got, _ := impl.EncodeHex(allBytes()); got != hex.EncodeToString([]byte(allBytes())) {
		t.Errorf("EncodeHex of all bytes = %q", got)
	}
}

func TestEncodeHexLimit(t *testing.T) {
	longest := strings.Repeat("k", impl.MaxInputLen)
	if got := parse(impl.EncodeHex, longest); got != (parsed[string]{strings.Repeat("6b", impl.MaxInputLen), true}) {
		t.Errorf("EncodeHex of MaxInputLen bytes: %v, %d bytes", got.ok, len(got.value))
	}
	if got := parse(impl.EncodeHex, longest+"k"); got != (parsed[string]{}) {
		t.Errorf("EncodeHex of MaxInputLen + 1 bytes: %v, %d bytes", got.ok, len(got.value))
	}
}

func TestDecodeHexInvertsEncodeHex(t *testing.T) {
	all := allBytes()
	inputs := []string{"", "a", "az", all, strings.Repeat(all, 78), strings.Repeat("\xff", impl.MaxInputLen)}
	for i := range len(all) {
		inputs = append(inputs, all[i:i+1])
	}
	for _, s := range inputs {
		encoded, ok := impl.EncodeHex(s)
		if got := parse(impl.DecodeHex, encoded); !ok || got != (parsed[string]{s, true}) {
			t.Errorf("decoding the encoding of %d bytes: %v, %d bytes", len(s), got.ok, len(got.value))
		}
	}
}

func TestDecodeHexInvalid(t *testing.T) {
	inputs := []string{
		"6", "617", "61 ", " 61", "6 1", "0x61", "61\n", "-1", "+1", "6A", "A6", "FF", "zz", "é",
		strings.Repeat("6b", impl.MaxInputLen) + "6b",
		strings.Repeat("6b", impl.MaxInputLen) + "6",
	}
	for i := range 256 {
		if c := string([]byte{byte(i)}); !strings.Contains("0123456789abcdef", c) {
			inputs = append(inputs, c+"0", "0"+c, "61"+c+"f7a")
		}
	}
	for _, s := range inputs {
		if got := parse(impl.DecodeHex, s); got != (parsed[string]{}) {
			t.Errorf("DecodeHex of %d bytes (%.20q) = %v, %d bytes", len(s), s, got.ok, len(got.value))
		}
	}
}

func TestFormatInt(t *testing.T) {
	cases := map[int]string{
		0: "0", 7: "7", 10: "10", -1: "-1", -10: "-10", 305: "305",
		impl.MaxUint: "1000000000",
		math.MaxInt:  "9223372036854775807",
		math.MinInt:  "-9223372036854775808",
	}
	for n, want := range cases {
		if got := impl.FormatInt(n); got != want {
			t.Errorf("FormatInt(%d) = %q, want %q", n, got, want)
		}
	}
}

func TestParseUintInvertsFormatInt(t *testing.T) {
	check := func(n int) {
		if got := parse(impl.ParseUint, impl.FormatInt(n)); got != (parsed[int]{n, true}) {
			t.Errorf("ParseUint(%q) = %v", impl.FormatInt(n), got)
		}
	}
	for n := 0; n <= impl.MaxUint; n += 99991 {
		check(n)
	}
	for n := range 2000 {
		check(n)
		check(impl.MaxUint - n)
	}
}

func TestParseUintInvalid(t *testing.T) {
	inputs := []string{
		"", " ", "-", "+", "-0", "-1", "+0", "+1", "00", "01", "007", "0000000000", "01000000000",
		"1000000001", "1000000009", "1999999999", "9999999999", "10000000000", "10000000001",
		impl.FormatInt(math.MaxInt), impl.FormatInt(math.MinInt),
		"18446744073709551616", "18446744073709551621", "18446744074709551616",
		"1 ", " 1", "1 2", "1.0", "1e3", "1_000", "1,000", "0x1f", "1f", "12a", "a12", "1-", "\x001", "1\x00", "٣",
		strings.Repeat("0", 600), strings.Repeat("1", 600),
	}
	for i := range 256 {
		if c := string([]byte{byte(i)}); !strings.Contains("0123456789", c) {
			inputs = append(inputs, c, c+"5", "5"+c, "5"+c+"5")
		}
	}
	for _, s := range inputs {
		if got := parse(impl.ParseUint, s); got != (parsed[int]{}) {
			t.Errorf("ParseUint(%.30q) = %v, want 0 and false", s, got)
		}
	}
}

func TestParseUintOfAllShortTexts(t *testing.T) {
	allTexts("-+ .01289", 5, func(s string) {
		want := parsed[int]{}
		if n, err := strconv.Atoi(s); err == nil && n >= 0 && strconv.Itoa(n) == s {
			want = parsed[int]{n, true}
		}
		if got := parse(impl.ParseUint, s); got != want {
			t.Errorf("ParseUint(%q) = %v, want %v", s, got, want)
		}
	})
}

func TestSplitFields(t *testing.T) {
	twentyFour := strings.Fields(strings.Repeat("f ", impl.MaxFieldsPerLine))
	cases := []struct {
		line string
		want []string
	}{
		{"", nil},
		{" ", nil},
		{"     ", nil},
		{"slice", []string{"slice"}},
		{"slice -24.000", []string{"slice", "-24.000"}},
		{"  size   8 4  ", []string{"size", "8", "4"}},
		{"a b", []string{"a", "b"}},
		{"! ~ \"", []string{"!", "~", "\""}},
		{"a\\tb a,b", []string{"a\\tb", "a,b"}},
		{strings.Join(twentyFour, " "), twentyFour},
		{" " + strings.Join(twentyFour, "  ") + " ", twentyFour},
		{strings.Repeat(" ", impl.MaxLineLen), nil},
		{strings.Repeat("x", impl.MaxLineLen), []string{strings.Repeat("x", impl.MaxLineLen)}},
	}
	for _, c := range cases {
		if got, ok := impl.SplitFields(c.line); !ok || !slices.Equal(got, c.want) {
			t.Errorf("SplitFields(%.40q) = %q, %v, want %q", c.line, got, ok, c.want)
		}
	}
}

func TestSplitFieldsInvalid(t *testing.T) {
	lines := []string{
		strings.Repeat("x", impl.MaxLineLen+1),
		strings.Repeat(" ", impl.MaxLineLen+1),
		strings.Repeat("x", impl.MaxLineLen) + " ",
		strings.Repeat("f ", impl.MaxFieldsPerLine+1),
		strings.Repeat(" f", impl.MaxFieldsPerLine) + " last",
		"a\tb", "a\n", "\ra", "a\x00b", "grün", "a\u00a0b", "a\u2003b",
	}
	for _, line := range lines {
		if got, ok := impl.SplitFields(line); ok || len(got) != 0 {
			t.Errorf("SplitFields(%.40q) = %q, %v, want nil and false", line, got, ok)
		}
	}
}

func TestSplitFieldsOfEachByte(t *testing.T) {
	for i := range 256 {
		c := string([]byte{byte(i)})
		var want []string
		switch {
		case i == 32:
			want = []string{"a", "b"}
		case i > 32 && i <= 126:
			want = []string{"a" + c + "b"}
		}
		if got, ok := impl.SplitFields("a" + c + "b"); ok != (want != nil) || !slices.Equal(got, want) {
			t.Errorf("SplitFields with the byte %d = %q, %v, want %q", i, got, ok, want)
		}
	}
}

func TestJoinedFieldsHaveTheSameFields(t *testing.T) {
	allTexts(" a~ ", 6, func(line string) {
		fields, ok := impl.SplitFields(line)
		if joined := strings.Join(fields, ""); !ok || joined != strings.ReplaceAll(line, " ", "") {
			t.Errorf("SplitFields(%q) = %q, %v", line, fields, ok)
		}
		for _, space := range []string{" ", "   "} {
			again, ok := impl.SplitFields(strings.Join(fields, space))
			if !ok || !slices.Equal(again, fields) || slices.Contains(again, "") {
				t.Errorf("the fields %q, joined, have the fields %q, %v", fields, again, ok)
			}
		}
	})
}

func TestSplitFieldsReturnsNewMemory(t *testing.T) {
	first, _ := impl.SplitFields("one two")
	first[0] = "changed"
	_ = append(first, "more")
	if second, ok := impl.SplitFields("one two"); !ok || !slices.Equal(second, []string{"one", "two"}) {
		t.Errorf("SplitFields after a change of an earlier result = %q, %v", second, ok)
	}
}

func TestClamp(t *testing.T) {
	cases := []struct{ n, low, high, want int }{
		{5, 0, 10, 5}, {-1, 0, 10, 0}, {11, 0, 10, 10}, {0, 0, 10, 0}, {10, 0, 10, 10},
		{5, 7, 7, 7}, {9, 7, 7, 7}, {7, 7, 7, 7}, {-5, -9, -3, -5}, {0, -9, -3, -3},
		{5, 10, 0, 10}, {-5, 10, 0, 10}, {50, 10, 0, 10}, {0, 1, 0, 1},
		{math.MinInt, -1, 1, -1}, {math.MaxInt, -1, 1, 1},
		{math.MinInt, math.MinInt, math.MaxInt, math.MinInt},
		{math.MaxInt, math.MinInt, math.MaxInt, math.MaxInt},
		{0, math.MaxInt, math.MinInt, math.MaxInt},
	}
	for _, c := range cases {
		if got := impl.Clamp(c.n, c.low, c.high); got != c.want {
			t.Errorf("Clamp(%d, %d, %d) = %d, want %d", c.n, c.low, c.high, got, c.want)
		}
	}
}

func TestClampIsIdempotent(t *testing.T) {
	numbers := []int{math.MinInt, math.MinInt + 1, -1000, -3, -2, -1, 0, 1, 2, 3, 1000, math.MaxInt - 1, math.MaxInt}
	for _, n := range numbers {
		for _, low := range numbers {
			for _, high := range numbers {
				once := impl.Clamp(n, low, high)
				if twice := impl.Clamp(once, low, high); twice != once {
					t.Errorf("Clamp(%d, %d, %d) = %d, and clamped again %d", n, low, high, once, twice)
				}
			}
		}
	}
}
