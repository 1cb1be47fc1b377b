package impl

import (
	"math"
	"strconv"
	"strings"
)

const (
	MaxInputLen      = 20000
	MaxUint          = 1000000000
	MaxLineLen       = 600
	MaxFieldsPerLine = 24
	MaxFixed         = 1000000000
)

// EncodeHex returns the lowercase hexadecimal encoding of s, two digits per byte with the high
// half first, and true. It returns "" and false if s is longer than MaxInputLen bytes. Example:
// EncodeHex("az") returns "617a" and true.
func EncodeHex(s string) (string, bool) {
	if len(s) > MaxInputLen {
		return "", false
	}
	digits := make([]byte, 0, 2*len(s))
	for i := range len(s) {
		digits = append(digits, hexDigit(s[i]>>4), hexDigit(s[i]&15))
	}
	return string(digits), true
}

// DecodeHex returns the string t for which EncodeHex(t) is s, and true. It returns "" and false
// if there is no such string (an odd length, a character other than 0-9 and a-f, or a result
// longer than MaxInputLen).
func DecodeHex(s string) (string, bool) {
	if len(s)%2 != 0 || len(s) > 2*MaxInputLen {
		return "", false
	}
	decoded := make([]byte, 0, len(s)/2)
	for i := 0; i < len(s); i += 2 {
		high, highOk := hexValue(s[i])
		low, lowOk := hexValue(s[i+1])
		if !highOk || !lowOk {
			return "", false
		}
		decoded = append(decoded, high<<4|low)
	}
	return string(decoded), true
}

func hexDigit(value byte) byte {
	switch {
	case value < 10:
		return '0' + value
	default:
		return 'a' + value - 10
	}
}

func hexValue(digit byte) (byte, bool) {
	switch {
	case '0' <= digit && digit <= '9':
		return digit - '0', true
	case 'a' <= digit && digit <= 'f':
		return digit - 'a' + 10, true
	default:
		return 0, false
	}
}

// FormatInt returns n in decimal without leading zeros, with a leading `-` for a negative number.
// It is defined for every int; FormatInt(0) is "0".
func FormatInt(n int) string { return strconv.Itoa(n) }

// ParseUint returns the number n in the range 0 to MaxUint for which FormatInt(n) is s, and true.
// It returns 0 and false if there is none. Example: ParseUint("01") returns 0 and false.
func ParseUint(s string) (int, bool) {
	n, length := scanDigits(s)
	if length == 0 || length < len(s) || n > MaxUint {
		return 0, false
	}
	if s[0] == '0' && length > 1 {
		return 0, false
	}
	return n, true
}

// scanDigits returns the number that the digits at the beginning of s make, and how many digits
// it has read. It reads none behind a number that is greater than MaxUint already: a longer one
// could wrap around.
func scanDigits(s string) (int, int) {
	n, length := 0, 0
scan:
	for length < len(s) {
		switch digit := s[length]; {
		case digit < '0' || digit > '9' || n > MaxUint:
			break scan
		default:
			n = 10*n + int(digit-'0')
			length++
		}
	}
	return n, length
}

// SplitFields returns the fields of a line in order, and true. Fields are maximal runs of bytes
// other than the space (byte 32); leading and trailing spaces are ignored. SplitFields returns
// nil and false if the line is longer than MaxLineLen bytes, contains a byte outside the range 32
// to 126, or has more than MaxFieldsPerLine fields. An empty line and a line of spaces have no
// fields.
func SplitFields(line string) ([]string, bool) {
	if len(line) > MaxLineLen || !isPrintable(line) {
		return nil, false
	}
	// Among the bytes from 32 to 126 the space is the only one that strings.Fields splits at.
	fields := strings.Fields(line)
	if len(fields) > MaxFieldsPerLine {
		return nil, false
	}
	// What strings.Fields returns lies in the memory of the line, which a result must not share.
	for i, field := range fields {
		fields[i] = strings.Clone(field)
	}
	return fields, true
}

func isPrintable(line string) bool {
	for i := range len(line) {
		if line[i] < 32 || line[i] > 126 {
			return false
		}
	}
	return true
}

// Clamp returns n clamped to the range low to high. If high is less than low, it returns low.
func Clamp(n int, low int, high int) int { return max(low, min(n, high)) }

// FormatFixed returns n thousandths as a decimal with three digits behind the point: a leading
// `-` for a negative number, the amount divided by 1000, cut off, in decimal without leading
// zeros, `.`, and three digits. It returns "" if n is not in the range -MaxFixed to MaxFixed.
// Examples: FormatFixed(-50) is "-0.050", FormatFixed(0) is "0.000".
func FormatFixed(n int) string {
	switch {
	case !inFixedRange(n):
		return ""
	case n < 0:
		return thousandths("-")(-n)
	default:
		return thousandths("")(n)
	}
}

func inFixedRange(n int) bool { return -MaxFixed <= n && n <= MaxFixed }

// thousandths returns what writes an amount of thousandths behind the sign.
func thousandths(sign string) func(amount int) string {
	return func(amount int) string {
		// The 1 in front, cut off again, keeps the zeros behind the point.
		part := FormatInt(1000 + amount%1000)[1:]
		return sign + FormatInt(amount/1000) + "." + part
	}
}

// ParseFixed returns the number n for which FormatFixed(n) is s, and true; 0 and false if there
// is none ("" has none).
func ParseFixed(s string) (int, bool) {
	amount, negative := strings.CutPrefix(s, "-")
	point := len(amount) - len(".000")
	if point < 0 || amount[point] != '.' {
		return 0, false
	}
	whole, ok := ParseUint(amount[:point])
	part, length := scanDigits(amount[point+1:])
	n := 1000*whole + part
	if !ok || length != 3 || n > MaxFixed {
		return 0, false
	}
	if negative {
		// FormatFixed writes no sign before 0.
		return -n, n != 0
	}
	return n, true
}

// ToFixed returns the whole number that is nearest to the product of x and 1000 (of two, the one
// with the greater amount), and true. The product is rounded to a float64 first. It returns 0 and
// false if x is not finite, or the number is not in the range -MaxFixed to MaxFixed.
func ToFixed(x float64) (int, bool) {
	n := math.Round(float64(x * 1000))
	if math.IsNaN(n) || math.Abs(n) > MaxFixed {
		return 0, false
	}
	return int(n), true
}

// FromFixed returns the quotient of n and 1000; 0 if n is not in the range -MaxFixed to MaxFixed.
func FromFixed(n int) float64 {
	if !inFixedRange(n) {
		return 0
	}
	return float64(n) / 1000
}
