package tests

import (
	"math/rand/v2"
	"slices"
	"testing"

	"loop.example/g03326/impl"
)

func TestChain(t *testing.T) {
	zero, one := negativeZero, above(1)
	square := above(one)
	cases := []struct{ a, b, want impl.Channel }{
		{impl.Channel{A: 2, Offset: 1, G: 1i}, impl.Channel{A: 0.5, G: 2}, impl.Channel{A: 1, Offset: 0.5, G: 2i}},
		{impl.Channel{A: 0.5, G: 2}, impl.Channel{A: 2, Offset: 1, G: 1i}, impl.Channel{A: 1, Offset: 1, G: 2i}},
		{impl.Channel{A: 2, Offset: 3, G: 1 + 2i}, impl.Channel{A: 4, Offset: -5, G: 3 + 1i}, impl.Channel{A: 8, Offset: 7, G: 1 + 7i}},
		{impl.Channel{A: 4, Offset: -5, G: 3 + 1i}, impl.Channel{A: 2, Offset: 3, G: 1 + 2i}, impl.Channel{A: 8, Offset: -7, G: 1 + 7i}},
		{sound, impl.Channel{A: 4, Offset: -5, G: 3 + 1i}, impl.Channel{A: 4, Offset: -5, G: 3 + 1i}},
		{impl.Channel{A: 4, Offset: -5, G: 3 + 1i}, sound, impl.Channel{A: 4, Offset: -5, G: 3 + 1i}},
		{sound, sound, sound},
		{impl.Channel{A: 1}, impl.Channel{A: 1, G: 3}, impl.Channel{A: 1}},
		// The limits.
		{impl.Channel{A: 4, Offset: 8, G: 4}, impl.Channel{A: 4, Offset: 32, G: 4}, impl.Channel{A: 16, Offset: 64, G: 16}},
		{impl.Channel{A: 2, Offset: -16, G: 4i}, impl.Channel{A: 2, Offset: -32, G: -4}, impl.Channel{A: 4, Offset: -64, G: complex(zero, -16)}},
		{impl.Channel{A: 16, Offset: 64, G: 16}, impl.Channel{A: 1, G: 1i}, impl.Channel{A: 16, Offset: 64, G: 16i}},
		{impl.Channel{A: 1e-45, G: 1}, sound, impl.Channel{A: 1e-45, G: 1}},
		{impl.Channel{A: 1, Offset: 64, G: 1}, impl.Channel{A: 2, Offset: -64, G: 1}, impl.Channel{A: 2, Offset: 64, G: 1}},
		// Signs of 0.
		{impl.Channel{A: 1, Offset: zero, G: 1}, impl.Channel{A: 1, Offset: zero, G: 1}, impl.Channel{A: 1, Offset: zero, G: 1}},
		{impl.Channel{A: 1, Offset: zero, G: 1}, impl.Channel{A: 1, Offset: 0, G: 1}, sound},
		{impl.Channel{A: 1, Offset: 0, G: 1}, impl.Channel{A: 1, Offset: zero, G: 1}, sound},
		{impl.Channel{A: 1, G: complex(zero, 1)}, sound, impl.Channel{A: 1, G: complex(zero, 1)}},
		{sound, impl.Channel{A: 1, G: complex(zero, 1)}, impl.Channel{A: 1, G: complex(zero, 1)}},
		// Each product is rounded before it is added to something.
		{impl.Channel{A: one, Offset: one, G: 1}, impl.Channel{A: one, Offset: -square, G: 1}, impl.Channel{A: square, Offset: 0, G: 1}},
		{impl.Channel{A: 1, G: complex(one, 1)}, impl.Channel{A: 1, G: complex(one, square)}, impl.Channel{A: 1, G: complex(0, sum(product(one, square), one))}},
		// What is a little above a limit before it is rounded is at it.
		{impl.Channel{A: 15.999999, G: 1}, impl.Channel{A: one, G: 1}, impl.Channel{A: 16, G: 1}},
		{impl.Channel{A: 1, Offset: 63.999996, G: 1}, impl.Channel{A: one, Offset: 0, G: 1}, impl.Channel{A: one, Offset: 64, G: 1}},
		{impl.Channel{A: 1, Offset: 64, G: 1}, impl.Channel{A: 1, Offset: 1e-6, G: 1}, impl.Channel{A: 1, Offset: 64, G: 1}},
	}
	for _, c := range cases {
		if got, ok := impl.Chain(c.a, c.b); !ok || !sameChannel(got, c.want) {
			t.Errorf("Chain(%v, %v) = %v, %t, want %v", c.a, c.b, got, ok, c.want)
		}
	}
}

// checkChain reports if Chain does not give what the document describes, and returns whether
// there is a channel.
func checkChain(t *testing.T, a, b impl.Channel) bool {
	t.Helper()
	var want impl.Channel
	whole := chained(a, b)
	wantOk := channelInRange(a) && channelInRange(b) && channelInRange(whole)
	if wantOk {
		want = whole
	}
	got, ok := impl.Chain(a, b)
	if ok != wantOk || !sameChannel(got, want) {
		t.Errorf("Chain(%v, %v) = %v, %t, want %v, %t", a, b, got, ok, want, wantOk)
	}
	return ok
}

func TestChainOfSomeChannels(t *testing.T) {
	r := rand.New(rand.NewPCG(5, 7))
	valid := 0
	for range 50000 {
		a, b := someChannel(r), someChannel(r)
		if checkChain(t, a, b) {
			valid++
		}
		checkChain(t, a, a)
		if !checkChain(t, somePlainChannel(r), somePlainChannel(r)) {
			t.Error("two plain channels have no chain")
		}
	}
	if valid < 5000 || valid > 40000 {
		t.Errorf("of the chains tried, %d are valid", valid)
	}
}

func TestChainInvalid(t *testing.T) {
	r := rand.New(rand.NewPCG(5, 8))
	for _, broken := range brokenChannels() {
		others := append(brokenChannels(), sound, impl.Channel{A: 0.001}, impl.Channel{A: 0.001, Offset: -63, G: 0.001}, someChannel(r))
		for _, other := range others {
			for _, pair := range [][2]impl.Channel{{broken, other}, {other, broken}} {
				if got, ok := impl.Chain(pair[0], pair[1]); ok || !sameChannel(got, impl.Channel{}) {
					t.Errorf("Chain(%v, %v) = %v, %t", pair[0], pair[1], got, ok)
				}
			}
		}
	}
}

// Of these pairs one channel or both are not valid, and yet what would be their chain is.
func TestChainOfInvalidChannelsThatMakeAValidOne(t *testing.T) {
	pairs := [][2]impl.Channel{
		{{A: 20, G: 1}, {A: 0.5, G: 1}},
		{{A: -1, G: 1}, {A: -1, G: 1}},
		{{A: 1, Offset: 100, G: 1}, {A: 0.5, G: 1}},
		{{A: 1, Offset: 50, G: 1}, {A: 1, Offset: -100, G: 1}},
		{{A: 1, Offset: 100, G: 1}, {A: 1, Offset: -100, G: 1}},
		{{A: 1, G: 17}, {A: 1, G: 0.5}},
		{{A: 1, G: 17i}, {A: 1, G: 0.5}},
		{{A: 1, G: 1 + 100i}, {A: 1}},
	}
	for _, pair := range pairs {
		for _, p := range [][2]impl.Channel{pair, {pair[1], pair[0]}} {
			if got, ok := impl.Chain(p[0], p[1]); ok || !sameChannel(got, impl.Channel{}) {
				t.Errorf("Chain(%v, %v) = %v, %t", p[0], p[1], got, ok)
			}
		}
	}
}

// These channels are valid, and yet their chain is not.
func TestChainThatIsNotValid(t *testing.T) {
	pairs := [][2]impl.Channel{
		{{A: 4, G: 1}, {A: above(4), G: 1}},
		{{A: 16, G: 1}, {A: 16, G: 1}},
		{{A: 1e-30, G: 1}, {A: 1e-30, G: 1}},
		{{A: 1e-45, G: 1}, {A: 0.5, G: 1}},
		{{A: 1, Offset: 32, G: 1}, {A: 1, Offset: above(64) - 32, G: 1}},
		{{A: 1, Offset: -32, G: 1}, {A: 1, Offset: 32 - above(64), G: 1}},
		{{A: 1, Offset: 64, G: 1}, {A: above(1), G: 1}},
		{{A: 1, Offset: -64, G: 1}, {A: 16, Offset: 64, G: 1}},
		{{A: 1, G: 4}, {A: 1, G: complex(above(4), 0)}},
		{{A: 1, G: 4i}, {A: 1, G: complex(above(4), 0)}},
		{{A: 1, G: 4i}, {A: 1, G: complex(0, above(4))}},
		{{A: 1, G: -4i}, {A: 1, G: complex(above(4), 0)}},
		{{A: 1, G: 16 + 16i}, {A: 1, G: 1 + 1i}},
		{{A: 1, G: 16 + 16i}, {A: 1, G: 1 - 1i}},
	}
	for _, p := range pairs {
		if got, ok := impl.Chain(p[0], p[1]); ok || !sameChannel(got, impl.Channel{}) {
			t.Errorf("Chain(%v, %v) = %v, %t", p[0], p[1], got, ok)
		}
		if !impl.ChannelOk(p[0]) || !impl.ChannelOk(p[1]) {
			t.Errorf("%v or %v is not valid", p[0], p[1])
		}
	}
}

func TestPlainRowsComeThroughTwoChannelsAsThroughTheirChain(t *testing.T) {
	r := rand.New(rand.NewPCG(5, 9))
	through := 0
	for i := range 5000 {
		samples := impl.EncodeCells(plainRow(r, 1+i%impl.MaxCells), i%3 == 0)
		a, b := somePlainChannel(r), somePlainChannel(r)
		first, firstOk := impl.Transmit(a, samples)
		both, bothOk := impl.Transmit(b, first)
		whole, ok := impl.Chain(a, b)
		if !ok {
			t.Errorf("Chain(%v, %v) is false", a, b)
		}
		if !firstOk || !bothOk {
			continue
		}
		through++
		if got, ok := impl.Transmit(whole, samples); !ok || !slices.Equal(got, both) {
			t.Errorf("%v come through %v and %v as %v, and through their chain as %v, %t", samples, a, b, both, got, ok)
		}
	}
	if through < 4000 {
		t.Errorf("only %d rows came through", through)
	}
}

func TestUndo(t *testing.T) {
	zero := negativeZero
	third := float32(1.0) / 3
	cases := []struct{ ch, want impl.Channel }{
		{impl.Channel{A: 2, Offset: 1, G: 2}, impl.Channel{A: 0.5, Offset: -0.5, G: complex(0.5, zero)}},
		{sound, impl.Channel{A: 1, Offset: zero, G: complex(1, zero)}},
		{impl.Channel{A: 1, Offset: zero, G: complex(1, zero)}, sound},
		{impl.Channel{A: 0.5, Offset: -3, G: -1}, impl.Channel{A: 2, Offset: 6, G: complex(-1, zero)}},
		{impl.Channel{A: 4, Offset: 8, G: 0.5i}, impl.Channel{A: 0.25, Offset: -2, G: -2i}},
		{impl.Channel{A: 4, Offset: 8, G: -4i}, impl.Channel{A: 0.25, Offset: -2, G: 0.25i}},
		{impl.Channel{A: 1, G: 3 + 4i}, impl.Channel{A: 1, Offset: zero, G: 0.12 - 0.16i}},
		{impl.Channel{A: 1, G: complex(zero, 2)}, impl.Channel{A: 1, Offset: zero, G: complex(zero, -0.5)}},
		{impl.Channel{A: 3, Offset: 1, G: 3}, impl.Channel{A: third, Offset: -third, G: complex(third, zero)}},
		// The limits.
		{impl.Channel{A: 16, Offset: 64, G: 16 + 16i}, impl.Channel{A: 0.0625, Offset: -4, G: 0.03125 - 0.03125i}},
		{impl.Channel{A: 0.0625, Offset: 4, G: 0.0625}, impl.Channel{A: 16, Offset: -64, G: complex(16, zero)}},
		{impl.Channel{A: 0.0625, Offset: -4, G: -0.0625}, impl.Channel{A: 16, Offset: 64, G: complex(-16, zero)}},
		{impl.Channel{A: 1, Offset: 64, G: 0.0625i}, impl.Channel{A: 1, Offset: -64, G: -16i}},
		{impl.Channel{A: 1, Offset: -64, G: -0.0625i}, impl.Channel{A: 1, Offset: 64, G: 16i}},
		{impl.Channel{A: 1, G: 0.03125 + 0.03125i}, impl.Channel{A: 1, Offset: zero, G: 16 - 16i}},
		// A part may be so small that it is 0 where it was divided.
		{impl.Channel{A: 4, Offset: 1e-45, G: complex(2, 1e-45)}, impl.Channel{A: 0.25, Offset: zero, G: complex(0.5, zero)}},
		{impl.Channel{A: 4, Offset: -1e-45, G: complex(-1e-45, 2)}, impl.Channel{A: 0.25, Offset: 0, G: complex(zero, -0.5)}},
	}
	for _, c := range cases {
		if got, ok := impl.Undo(c.ch); !ok || !sameChannel(got, c.want) {
			t.Errorf("Undo(%v) = %v, %t, want %v", c.ch, got, ok, c.want)
		}
	}
}

func TestUndoSomeChannels(t *testing.T) {
	r := rand.New(rand.NewPCG(5, 10))
	valid := 0
	for range 50000 {
		ch := someChannel(r)
		var want impl.Channel
		wantOk := power(ch.G) != 0 && channelInRange(undone(ch))
		if wantOk {
			want = undone(ch)
			valid++
		}
		if got, ok := impl.Undo(ch); ok != wantOk || !sameChannel(got, want) {
			t.Errorf("Undo(%v) = %v, %t, want %v, %t", ch, got, ok, want, wantOk)
		}
	}
	if valid < 10000 || valid > 45000 {
		t.Errorf("of the channels tried, %d can be undone", valid)
	}
}

func TestUndoInvalid(t *testing.T) {
	channels := append(brokenChannels(),
		impl.Channel{A: 20, G: 1}, impl.Channel{A: -1, G: 1}, impl.Channel{A: 16, Offset: 100, G: 1}, impl.Channel{A: 1, G: 17},
		impl.Channel{A: 1, G: 17i}, impl.Channel{A: 1, G: 2 + 17i},
		// The number is 0, or its power is.
		impl.Channel{A: 1}, impl.Channel{A: 2, Offset: 1, G: complex(negativeZero, negativeZero)},
		impl.Channel{A: 1, G: 1e-30}, impl.Channel{A: 1, G: -1e-30i}, impl.Channel{A: 1, G: complex(1e-45, 1e-45)}, impl.Channel{A: 1, G: complex(1e-23, -1e-23)},
		// What would be returned is not valid.
		impl.Channel{A: -above(-0.0625), G: 1}, impl.Channel{A: 1e-45, G: 1}, impl.Channel{A: 1e-30, Offset: 1e-30, G: 1},
		impl.Channel{A: 0.5, Offset: above(32), G: 1}, impl.Channel{A: 0.5, Offset: -above(32), G: 1}, impl.Channel{A: -above(-1), Offset: 64, G: 1},
		impl.Channel{A: 1, G: 0.0624}, impl.Channel{A: 1, G: -0.0624}, impl.Channel{A: 1, G: 0.0624i}, impl.Channel{A: 1, G: -0.0624i},
		impl.Channel{A: 1, G: 0.031 + 0.031i}, impl.Channel{A: 1, G: complex(1e-22, 0)}, impl.Channel{A: 1, G: complex(0, 1e-22)}, impl.Channel{A: 1, G: complex(3e-23, 0)},
	)
	for _, ch := range channels {
		if got, ok := impl.Undo(ch); ok || !sameChannel(got, impl.Channel{}) {
			t.Errorf("Undo(%v) = %v, %t", ch, got, ok)
		}
	}
}

func TestPlainChannelsAreUndone(t *testing.T) {
	for _, a := range []float32{0.25, 0.5, 1, 2} {
		for eighths := -32; eighths <= 32; eighths++ {
			for _, g := range []complex64{2, -1, 0.5i, -4i} {
				ch := impl.Channel{A: a, Offset: float32(eighths) / 8, G: g}
				back, backOk := impl.Undo(ch)
				for _, pair := range [][2]impl.Channel{{ch, back}, {back, ch}} {
					if got, ok := impl.Chain(pair[0], pair[1]); !backOk || !ok || got != sound {
						t.Errorf("Chain(%v, %v) = %v, %t, and one of them should undo the other", pair[0], pair[1], got, ok)
					}
				}
			}
		}
	}
}
