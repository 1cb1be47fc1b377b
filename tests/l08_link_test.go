package tests

import (
	"math/rand/v2"
	"slices"
	"testing"

	"loop.example/g03326/impl"
)

// passages calls visit with each of the channels that the promise of the set names.
func passages(visit func(ch impl.Channel)) {
	for _, a := range []float32{0.5, 1, 2} {
		for eighths := -32; eighths <= 32; eighths++ {
			for _, x := range []float32{0.5, 1, -0.5, -1} {
				for y := -4; y <= 4; y++ {
					visit(impl.Channel{A: a, Offset: float32(eighths) / 8, G: complex(a*x, a*float32(y)/4)})
				}
			}
		}
	}
}

// checkLink reports if a new set does not receive the picture through the channel as it was sent.
func checkLink(t *testing.T, p [][]impl.Cell, ch impl.Channel) {
	t.Helper()
	stream, sent := impl.Studio(p, ch)
	s, made := impl.NewSet(len(p[0]), len(p))
	if got, ok := impl.Receive(s, stream); !sent || !made || !ok || !impl.SameRows(got, p) {
		t.Errorf("through %v, %v is received as %v, %t (sent: %t)", ch, p, got, ok, sent)
	}
}

func TestPicturesAreReceivedThroughEachChannel(t *testing.T) {
	r := rand.New(rand.NewPCG(8, 27))
	channels := 0
	passages(func(ch impl.Channel) {
		channels++
		checkLink(t, linkedPicture(r, 4, 1+r.IntN(2)), ch)
		checkLink(t, linkedPicture(r, 4*(1+r.IntN(3)), 1+r.IntN(6)), ch)
	})
	if channels != 3*65*4*9 {
		t.Errorf("there are %d channels", channels)
	}
}

func TestPicturesOfEachSizeAreReceived(t *testing.T) {
	r := rand.New(rand.NewPCG(8, 28))
	for rows := 4; rows <= impl.MaxRows; rows += 4 {
		for cells := 1; cells <= impl.MaxCells; cells++ {
			checkLink(t, linkedPicture(r, rows, cells), somePassage(r))
		}
	}
}

func TestPicturesAtTheLimitsAreReceived(t *testing.T) {
	r := rand.New(rand.NewPCG(8, 29))
	var pictures [][][]impl.Cell
	for _, y := range []float32{0, 60, 0.0625, negativeZero} {
		for _, x := range []float32{-2, 2, 0, negativeZero, 0.0625} {
			for _, z := range []float32{-2, 2, 0, negativeZero, -0.0625} {
				row := slices.Repeat([]impl.Cell{{Y: y, C: complex(x, z)}}, 2)
				other := slices.Repeat([]impl.Cell{{Y: 60 - y, C: complex(z, x)}}, 2)
				pictures = append(pictures, [][]impl.Cell{row, other, row, other}, [][]impl.Cell{row, row, row, row})
			}
		}
	}
	for _, p := range pictures {
		for range 100 {
			checkLink(t, p, somePassage(r))
		}
		for _, a := range []float32{0.5, 1, 2} {
			for _, g := range []complex64{1, -1, 0.5 + 1i, -0.5 - 1i} {
				checkLink(t, p, impl.Channel{A: a, Offset: 4, G: complex(a*real(g), a*imag(g))})
				checkLink(t, p, impl.Channel{A: a, Offset: -4, G: complex(a*real(g), a*imag(g))})
			}
		}
	}
}

func TestATunedSetReceives(t *testing.T) {
	r := rand.New(rand.NewPCG(8, 30))
	for range 200 {
		p := linkedPicture(r, 4*(1+r.IntN(4)), 1+r.IntN(8))
		size := "size " + impl.FormatInt(len(p[0])) + " " + impl.FormatInt(len(p))
		s, ok := impl.Retune(64, 64, []string{size, "slice -20.000", "saturation 0.500", "killer 0.100"})
		// The pulses are at -21.
		stream, sent := impl.Studio(p, impl.Channel{A: 0.25, Offset: -5, G: 0.125 + 0.0625i})
		want, _ := scaledRows(p, 0.5)
		if got, fine := impl.Receive(s, stream); !ok || !sent || !fine || !impl.SameRows(got, want) {
			t.Errorf("%v is received as %v, %t (tuned: %t)", p, got, fine, ok)
		}
		tuned, _ := impl.Tune(s, "killer 0.501")
		if got, fine := impl.Receive(tuned, stream); !fine || !impl.SameRows(got, greyed(p)) {
			t.Errorf("%v, killed, is received as %v, %t", p, got, fine)
		}
		tuned, _ = impl.Tune(s, "slice -24.000")
		if got, fine := impl.Receive(tuned, stream); fine || len(got) != 0 {
			t.Errorf("with the slice of a new set, %v is received as %v", p, got)
		}
	}
}
