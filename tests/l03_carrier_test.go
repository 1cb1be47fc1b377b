package tests

import (
	"math"
	"math/rand/v2"
	"testing"

	"loop.example/g03326/impl"
)

// carrierNumbers gives numbers of samples for each number from 0 to 3 that is the same modulo 4.
var carrierNumbers = [4][]int{
	{0, 4, 8, 1000, 1 << 32, math.MaxInt - 3, -4, -8, -1000, -1 << 32, math.MinInt, math.MinInt + 4},
	{1, 5, 9, 1001, 1<<32 + 1, math.MaxInt - 2, -3, -7, -999, -1<<32 + 1, math.MinInt + 1},
	{2, 6, 10, 1002, 1<<32 + 2, math.MaxInt - 1, -2, -6, -998, -1<<32 + 2, math.MinInt + 2},
	{3, 7, 11, 1003, 1<<32 + 3, math.MaxInt, math.MaxInt - 4, -1, -5, -997, -1<<32 + 3, math.MinInt + 3},
}

func TestPerCell(t *testing.T) {
	if impl.PerCell != 4 {
		t.Error("unexpected number of samples of a cell", impl.PerCell)
	}
}

func TestCarrier(t *testing.T) {
	// The constants 0 of these have no sign.
	phases := [4]complex64{complex(1, 0), complex(0, 1), complex(-1, 0), complex(0, -1)}
	for k, numbers := range carrierNumbers {
		for _, n := range numbers {
			if got := impl.Carrier(n); !sameColour(got, phases[k]) {
				t.Errorf("Carrier(%d) = %v, want %v", n, got, phases[k])
			}
		}
	}
}

func TestCarrierOfSomeNumbers(t *testing.T) {
	r := rand.New(rand.NewPCG(3, 1))
	for range 1000 {
		n := r.IntN(1<<61) >> r.IntN(61)
		for k := range 4 {
			positive, negative := impl.Carrier(4*n+k), impl.Carrier(4*-n+k)
			if !sameColour(positive, impl.Carrier(k)) || !sameColour(negative, impl.Carrier(k)) {
				t.Errorf("Carrier(%d) = %v, Carrier(%d) = %v", 4*n+k, positive, 4*-n+k, negative)
			}
		}
	}
}

func TestCarried(t *testing.T) {
	for _, x := range manyNumbers {
		for _, y := range manyNumbers {
			want := [4]float32{x, -y, -x, y}
			for k, numbers := range carrierNumbers {
				for _, n := range numbers {
					if got := impl.Carried(complex(x, y), n); !sameFloat(got, want[k]) {
						t.Errorf("Carried(%g + %gi, %d) = %g, want %g", x, y, n, got, want[k])
					}
				}
			}
		}
	}
}

func TestCarriedIsPartOfAProduct(t *testing.T) {
	r := rand.New(rand.NewPCG(3, 2))
	for n := -9; n < 9; n++ {
		c := complex(someLevel(r), someLevel(r))
		if got, want := impl.Carried(c, n), real(c*impl.Carrier(n)); got != want {
			t.Errorf("Carried(%v, %d) = %g, want %g", c, n, got, want)
		}
	}
}

func TestCarriedTwoSamplesFurther(t *testing.T) {
	for _, x := range manyNumbers {
		for _, y := range manyNumbers {
			for n := -6; n <= 6; n++ {
				c := complex(x, y)
				now, then := impl.Carried(c, n), impl.Carried(c, n+2)
				if isFinite(x) && isFinite(y) && !sameFloat(then, -now) {
					t.Errorf("of %v, sample %d carries %g and sample %d %g", c, n, now, n+2, then)
				}
			}
		}
	}
}
