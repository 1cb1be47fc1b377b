package tests

import (
	"math/rand/v2"
	"slices"

	"loop.example/g03326/impl"
)

// sound is a channel that changes nothing.
var sound = impl.Channel{A: 1, G: 1}

// gainsOfBrightness are numbers that the A of a valid channel may be.
var gainsOfBrightness = []float32{1e-45, 1.1754944e-38, 0.0625, 0.1, 1, 2, 15.999999, 16}

// noGainsOfBrightness are numbers that the A of a valid channel cannot be.
var noGainsOfBrightness = []float32{0, negativeZero, -1e-45, -1, -16, above(16), 17, 1e30, -1e30, infinite, -infinite, notANumber}

// around returns numbers, with either sign, that are at most limit.
func around(limit float32) []float32 {
	below := -above(-limit)
	return []float32{0, negativeZero, 1e-45, -1e-45, 0.1, -0.1, 1, -1, below, -below, limit, -limit}
}

// beyond returns numbers that are more than limit, or less than -limit, and NaN.
func beyond(limit float32) []float32 {
	return []float32{above(limit), -above(limit), limit + 1, -limit - 1, 1e30, -1e30, infinite, -infinite, notANumber}
}

// brokenChannels returns channels of which one field is not valid, or more of them.
func brokenChannels() []impl.Channel {
	channels := []impl.Channel{{}, {A: -1, Offset: 65, G: 17i}, {A: notANumber, Offset: notANumber, G: complex(notANumber, notANumber)}}
	for _, a := range noGainsOfBrightness {
		channels = append(channels, impl.Channel{A: a, Offset: 1, G: 2 - 3i})
	}
	for _, offset := range beyond(64) {
		channels = append(channels, impl.Channel{A: 1, Offset: offset, G: 2 - 3i})
	}
	for _, x := range beyond(16) {
		channels = append(channels, impl.Channel{A: 1, Offset: 1, G: complex(x, 2)}, impl.Channel{A: 1, Offset: 1, G: complex(2, x)})
	}
	return channels
}

// brokenSamples returns lists that SamplesOk refuses, each for another reason.
func brokenSamples() map[string][]float32 {
	lists := map[string][]float32{"nil": nil, "empty": {}}
	for _, n := range []int{1, 2, 3, 5, 6, 7, 9, 255, 257, 4093, 4094, 4095, 4097, 4098, 4100, 4104, 8192, 20000} {
		lists[impl.FormatInt(n)+" samples"] = make([]float32, n)
	}
	for _, n := range []int{4, 8, 260, impl.MaxSamples} {
		for _, at := range []int{0, 1, 2, 3, n - 4, n - 3, n - 2, n - 1} {
			for _, x := range samplesNoLineHas {
				samples := make([]float32, n)
				samples[at] = x
				lists[floatText(x)+" at "+impl.FormatInt(at)+" of "+impl.FormatInt(n)] = samples
			}
		}
	}
	return lists
}

func sameChannel(a, b impl.Channel) bool {
	return sameFloat(a.A, b.A) && sameFloat(a.Offset, b.Offset) && sameColour(a.G, b.G)
}

// times returns what the document describes of two complex numbers.
func times(c, g complex64) complex64 {
	a, b, x, y := real(c), imag(c), real(g), imag(g)
	return complex(difference(product(a, x), product(b, y)), sum(product(a, y), product(b, x)))
}

// transmitted returns the samples that the document describes, valid or not.
func transmitted(ch impl.Channel, samples []float32) []float32 {
	var made []float32
	for _, c := range decoded(samples, false) {
		level, d := sum(product(ch.A, c.Y), ch.Offset), times(c.C, ch.G)
		made = append(made, sum(level, real(d)), sum(level, -imag(d)), sum(level, -real(d)), sum(level, imag(d)))
	}
	return made
}

// chained returns the channel that the document describes, valid or not.
func chained(a, b impl.Channel) impl.Channel {
	return impl.Channel{A: product(a.A, b.A), Offset: sum(product(b.A, a.Offset), b.Offset), G: times(a.G, b.G)}
}

// power returns what the document describes of a complex number.
func power(g complex64) float32 {
	return sum(product(real(g), real(g)), product(imag(g), imag(g)))
}

// undone returns the channel that the document describes, valid or not.
func undone(ch impl.Channel) impl.Channel {
	p := float64(power(ch.G))
	return impl.Channel{
		A:      quotient(1, float64(ch.A)),
		Offset: quotient(-ch.Offset, float64(ch.A)),
		G:      complex(quotient(real(ch.G), p), quotient(-imag(ch.G), p)),
	}
}

// echoed returns the samples that the document describes, valid or not.
func echoed(samples []float32, cells int, k float32) []float32 {
	late := append(make([]float32, 4*cells), samples...)
	var made []float32
	for i, x := range samples {
		made = append(made, sum(x, product(k, late[i])))
	}
	return made
}

// somePart returns a number of at most limit, at times one at its edges, and at times a small one.
func somePart(r *rand.Rand, limit float32) float32 {
	switch edges := around(limit); r.IntN(4) {
	case 0:
		return edges[r.IntN(len(edges))]
	case 1:
		return r.Float32()*2 - 1
	default:
		return (r.Float32()*2 - 1) * limit
	}
}

// someChannel returns a valid channel.
func someChannel(r *rand.Rand) impl.Channel {
	a := 16 - 15.99*r.Float32()
	switch r.IntN(4) {
	case 0:
		a = gainsOfBrightness[r.IntN(len(gainsOfBrightness))]
	case 1:
		a = 1 - 0.99*r.Float32()
	}
	return impl.Channel{A: a, Offset: somePart(r, 64), G: complex(somePart(r, 16), somePart(r, 16))}
}

// somePlainChannel returns a channel that is plain in the sense of the document's promises, at
// times with the limits of its ranges.
func somePlainChannel(r *rand.Rand) impl.Channel {
	part := func(limit, all int) float32 {
		if r.IntN(4) == 0 {
			return []float32{float32(limit), -float32(limit), 0}[r.IntN(3)]
		}
		return float32(r.IntN(2*limit*all+1)-limit*all) / float32(all)
	}
	a := []float32{0.25, 0.5, 1, 2}[r.IntN(4)]
	return impl.Channel{A: a, Offset: part(4, 8), G: complex(part(2, 4), part(2, 4))}
}

// someValidSamples returns samples of so many cells that SamplesOk accepts, of which DecodeCells
// may refuse to tell a row.
func someValidSamples(r *rand.Rand, cells int) []float32 {
	limit := []float32{1, 16, 64, 256, 1024}[r.IntN(5)]
	samples := make([]float32, 4*cells)
	for i := range samples {
		samples[i] = (r.Float32()*2 - 1) * limit
		if r.IntN(4) == 0 {
			samples[i] = []float32{0, negativeZero, 1e-45, -1e-45, limit, -limit}[r.IntN(6)]
		}
	}
	return samples
}

// allSamplesOk reports whether the document accepts the samples.
func allSamplesOk(samples []float32) bool {
	refused := func(x float32) bool { return !(x >= -1024 && x <= 1024) }
	return len(samples) >= 4 && len(samples) <= 4096 && len(samples)%4 == 0 && !slices.ContainsFunc(samples, refused)
}

// channelInRange reports whether the document accepts the channel.
func channelInRange(ch impl.Channel) bool {
	inRange := func(x, limit float32) bool { return x >= -limit && x <= limit }
	return ch.A > 0 && ch.A <= 16 && inRange(ch.Offset, 64) && inRange(real(ch.G), 16) && inRange(imag(ch.G), 16)
}
