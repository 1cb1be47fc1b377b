package tests

import "strconv"

// parsed is what a function with a text as its argument and a second result of type bool gives.
type parsed[T any] struct {
	value T
	ok    bool
}

func parse[T any](f func(string) (T, bool), s string) parsed[T] {
	value, ok := f(s)
	return parsed[T]{value, ok}
}

// allTexts calls visit with each text of at most so many of the characters of the alphabet.
func allTexts(alphabet string, most int, visit func(s string)) {
	var extend func(s string)
	extend = func(s string) {
		visit(s)
		if len(s) == most {
			return
		}
		for i := range len(alphabet) {
			extend(s + alphabet[i:i+1])
		}
	}
	extend("")
}

// allBytes returns a text of all bytes from 0 to 255.
func allBytes() string {
	b := make([]byte, 256)
	for i := range b {
		b[i] = byte(i)
	}
	return string(b)
}

// floatText writes a number so that each other one is written otherwise.
func floatText(x float32) string { return strconv.FormatFloat(float64(x), 'g', -1, 32) }
