package tests

import (
	"math"
	"strings"
	"testing"

	"loop.example/g03326/impl"
)

// someFixed returns numbers from -MaxFixed to MaxFixed: those next to 0 and to both ends, and
// some in between.
func someFixed() []int {
	var numbers []int
	for n := -impl.MaxFixed; n <= impl.MaxFixed; n += 99991 {
		numbers = append(numbers, n)
	}
	for n := range 12000 {
		numbers = append(numbers, n, -n, impl.MaxFixed-n, n-impl.MaxFixed)
	}
	return numbers
}

func TestFormatFixed(t *testing.T) {
	cases := map[int]string{
		0: "0.000", 1: "0.001", -1: "-0.001", 10: "0.010", -50: "-0.050", 100: "0.100", -999: "-0.999",
		1000: "1.000", -1000: "-1.000", 1001: "1.001", -1099: "-1.099", 9999: "9.999", 10000: "10.000",
		12345: "12.345", -24000: "-24.000", 123456789: "123456.789",
		impl.MaxFixed:      "1000000.000",
		impl.MaxFixed - 1:  "999999.999",
		-impl.MaxFixed:     "-1000000.000",
		impl.MaxFixed + 1:  "",
		-impl.MaxFixed - 1: "",
		math.MaxInt:        "",
		math.MinInt:        "",
	}
	for n, want := range cases {
		if got := impl.FormatFixed(n); got != want {
			t.Errorf("FormatFixed(%d) = %q, want %q", n, got, want)
		}
	}
}

func TestParseFixed(t *testing.T) {
	cases := map[string]int{
		"0.000": 0, "0.001": 1, "-0.001": -1, "-0.050": -50, "0.100": 100, "1.000": 1000, "12.345": 12345,
		"-12.345": -12345, "999999.999": 999999999, "1000000.000": impl.MaxFixed, "-1000000.000": -impl.MaxFixed,
	}
	for s, want := range cases {
		if got := parse(impl.ParseFixed, s); got != (parsed[int]{want, true}) {
			t.Errorf("ParseFixed(%q) = %v, want %d", s, got, want)
		}
	}
}

func TestParseFixedInvertsFormatFixed(t *testing.T) {
	for _, n := range someFixed() {
		if got := parse(impl.ParseFixed, impl.FormatFixed(n)); got != (parsed[int]{n, true}) {
			t.Errorf("ParseFixed(%q) = %v, want %d", impl.FormatFixed(n), got, n)
		}
	}
}

func TestParseFixedInvalid(t *testing.T) {
	inputs := []string{
		"", "-", ".", "-.", "0", "7", "1000", "0.", "0.0", "0.50", "0.5000", "1.0000", ".000", ".500", "-.500", "000", "-000",
		"-0.000", "00.000", "01.000", "-01.000", "-00.001", "000.000", "+1.000", "--1.000", "-+1.000", "+-1.000",
		"1.-00", "1.+00", "1.-000", "1-.000", "1.000-", "1..000", "1.0.00", "1.00.", "1.000.", ".1.000", "1,000", "1000.",
		" 1.000", "1.000 ", "- 1.000", "1 .000", "1. 00", "1.00a", "1.a00", "a.000", "0x1.000", "1_0.000", "1e3.000", "1.0e1",
		"1000000.001", "-1000000.001", "1000001.000", "-1000001.000", "9999999.999", "10000000.000",
		"1000000000.000", "1000000001.000", "18446744073709552.000", "18446744073709551.616", "-18446744073709551.616",
		"18446744073709551616.000", "18446744073709551617.000", "NaN", "Inf", "-Inf", "nan.000", "٣.000", "1.٣٣",
		"1.00\x00", "\x001.000", strings.Repeat("0", 600) + ".000", strings.Repeat("9", 600) + ".000",
	}
	for _, s := range inputs {
		if got := parse(impl.ParseFixed, s); got != (parsed[int]{}) {
			t.Errorf("ParseFixed(%.30q) = %v, want 0 and false", s, got)
		}
	}
}

func TestParseFixedOfAllShortTexts(t *testing.T) {
	const longest = 6
	numbers := map[string]int{}
	for n := -99999; n <= 99999; n++ {
		numbers[impl.FormatFixed(n)] = n
	}
	allTexts("-+. 0159", longest, func(s string) {
		n, ok := numbers[s]
		if got := parse(impl.ParseFixed, s); got != (parsed[int]{n, ok}) {
			t.Errorf("ParseFixed(%q) = %v, want %d, %v", s, got, n, ok)
		}
	})
}

func TestToFixed(t *testing.T) {
	cases := []struct {
		x    float64
		want int
	}{
		{0, 0}, {math.Copysign(0, -1), 0}, {1, 1000}, {-1, -1000}, {2.5, 2500}, {0.001, 1}, {-0.05, -50}, {12.345, 12345},
		// Halves of a thousandth, and their neighbours.
		{0.0625, 63}, {-0.0625, -63}, {0.1875, 188}, {-0.1875, -188}, {0.3125, 313}, {-0.3125, -313},
		{math.Nextafter(0.0625, 0), 62}, {math.Nextafter(-0.0625, 0), -62},
		{math.Nextafter(0.0625, 1), 63}, {math.Nextafter(-0.0625, -1), -63},
		{0.0005, 1}, {-0.0005, -1}, {math.Nextafter(0.0005, 0), 0}, {math.Nextafter(-0.0005, 0), 0}, {0.0015, 2}, {-0.0015, -2},
		{math.Nextafter(0.0015, 0), 1}, {math.Nextafter(-0.0015, 0), -1}, {0.0025, 3}, {math.Nextafter(0.0025, 0), 2},
		// A little less than 1000.5 thousandths, of which only the rounded product is a half.
		{1.0005, 1001}, {-1.0005, -1001},
		{0.0004, 0}, {-0.0004, 0}, {math.SmallestNonzeroFloat64, 0}, {-math.SmallestNonzeroFloat64, 0},
		{1000000, impl.MaxFixed}, {-1000000, -impl.MaxFixed}, {999999.9995, impl.MaxFixed}, {-999999.9995, -impl.MaxFixed},
		{1000000.0004, impl.MaxFixed}, {-1000000.0004, -impl.MaxFixed}, {999999.999, impl.MaxFixed - 1},
		{math.Nextafter(1000000.0005, 0), impl.MaxFixed}, {math.Nextafter(-1000000.0005, 0), -impl.MaxFixed},
	}
	for _, c := range cases {
		if got, ok := impl.ToFixed(c.x); !ok || got != c.want {
			t.Errorf("ToFixed(%v) = %d, %v, want %d", c.x, got, ok, c.want)
		}
	}
}

func TestToFixedInvalid(t *testing.T) {
	amounts := []float64{
		math.NaN(), math.Inf(1), 1000000.0005, 1000000.001, 1000001, 1e7, 9223372036854775.807, 1e16, 18446744073709551.616,
		1e18, 1e305, math.MaxFloat64 / 1000, 1e306, math.MaxFloat64,
	}
	for _, amount := range amounts {
		for _, x := range []float64{amount, -amount} {
			if got, ok := impl.ToFixed(x); ok || got != 0 {
				t.Errorf("ToFixed(%v) = %d, %v, want 0 and false", x, got, ok)
			}
		}
	}
}

func TestFromFixed(t *testing.T) {
	cases := map[int]float64{
		0: 0, 1: 0.001, -1: -0.001, -50: -0.05, 100: 0.1, 2500: 2.5, -24000: -24, 12345: 12.345, 333: 0.333,
		impl.MaxFixed:      1000000,
		-impl.MaxFixed:     -1000000,
		impl.MaxFixed - 1:  999999.999,
		impl.MaxFixed + 1:  0,
		-impl.MaxFixed - 1: 0,
		math.MaxInt:        0,
		math.MinInt:        0,
	}
	for n, want := range cases {
		if got := impl.FromFixed(n); math.Float64bits(got) != math.Float64bits(want) {
			t.Errorf("FromFixed(%d) = %v, want %v", n, got, want)
		}
	}
}

func TestThousandthsAsAFloatAreTheSameNumber(t *testing.T) {
	for _, n := range someFixed() {
		if got, ok := impl.ToFixed(impl.FromFixed(n)); !ok || got != n {
			t.Errorf("ToFixed(FromFixed(%d)) = %d, %v", n, got, ok)
		}
	}
}
