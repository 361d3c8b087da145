package num

import (
	"math/big"
	"math/rand/v2"
	"testing"
)

// sample has the edges, and some numbers of each length between them.
func sample() []uint64 {
	l := []uint64{0, 1, 2, 3, 1<<32 - 1, 1 << 32, 1<<32 + 1, 1<<63 - 1, 1 << 63, 1<<63 + 1, top - 2, top - 1, top}
	r := rand.New(rand.NewPCG(1, 2))
	for length := range 64 {
		l = append(l, r.Uint64()>>length)
	}
	return l
}

// pairs calls f with each two of the sample.
func pairs(f func(a, b uint64)) {
	l := sample()
	for _, a := range l {
		for _, b := range l {
			f(a, b)
		}
	}
}

// operation is one of the three, as num has it twice, and as whole numbers without bounds have it.
type operation struct {
	name  string
	exact func(a, b uint64) (uint64, bool)
	sat   func(a, b uint64) uint64
	whole func(z, a, b *big.Int) *big.Int
}

func operations() []operation {
	return []operation{
		{"add", Add, AddSat, (*big.Int).Add},
		{"sub", Sub, SubSat, (*big.Int).Sub},
		{"mul", Mul, MulSat, (*big.Int).Mul},
	}
}

// expected is what a and b come to: does it fit, and the nearest number.
func expected(o operation, a, b uint64) (bool, uint64) {
	z := o.whole(new(big.Int), new(big.Int).SetUint64(a), new(big.Int).SetUint64(b))
	switch {
	case z.IsUint64():
		return true, z.Uint64()
	case z.Sign() < 0:
		return false, 0
	}
	return false, top
}

// P1.1
func TestExactEdges(t *testing.T) {
	for _, c := range []struct {
		o    int
		a, b uint64
		n    uint64
		fits bool
	}{
		{0, 0, 0, 0, true}, {0, 2, 3, 5, true}, {0, top, 0, top, true}, {0, 0, top, top, true}, {0, top - 1, 1, top, true},
		{0, top, 1, 0, false}, {0, 1, top, 0, false}, {0, top, top, 0, false}, {0, 1 << 63, 1 << 63, 0, false}, {0, 1 << 63, 1<<63 - 1, top, true},
		{1, 0, 0, 0, true}, {1, 3, 2, 1, true}, {1, 7, 7, 0, true}, {1, top, top, 0, true}, {1, top, 0, top, true},
		{1, 2, 3, 0, false}, {1, 0, 1, 0, false}, {1, 0, top, 0, false}, {1, top - 1, top, 0, false},
		{2, 0, top, 0, true}, {2, top, 0, 0, true}, {2, 2, 3, 6, true}, {2, top, 1, top, true}, {2, 1 << 32, 1<<32 - 1, 1<<64 - 1<<32, true},
		{2, 1 << 32, 1 << 32, 0, false}, {2, 1 << 63, 2, 0, false}, {2, top, 2, 0, false}, {2, top, top, 0, false}, {2, 1<<32 + 1, 1<<32 - 1, top, true},
	} {
		o := operations()[c.o]
		if n, fits := o.exact(c.a, c.b); n != c.n || fits != c.fits {
			t.Errorf("%s(%d, %d): %d, %v", o.name, c.a, c.b, n, fits)
		}
	}
}

// P1.1
func TestExactOfMany(t *testing.T) {
	for _, o := range operations() {
		pairs(func(a, b uint64) {
			fits, nearest := expected(o, a, b)
			want := nearest
			if !fits {
				want = 0
			}
			if n, is := o.exact(a, b); n != want || is != fits {
				t.Errorf("%s(%d, %d): %d, %v", o.name, a, b, n, is)
			}
		})
	}
}

// P1.2
func TestSaturatedEdges(t *testing.T) {
	for _, c := range []struct {
		o    int
		a, b uint64
		n    uint64
	}{
		{0, top, 1, top}, {0, top, top, top}, {0, 1 << 63, 1 << 63, top}, {0, top - 1, 1, top}, {0, 2, 5, 7}, {0, 0, 0, 0},
		{1, 2, 5, 0}, {1, 0, top, 0}, {1, 5, 2, 3}, {1, 5, 5, 0}, {1, top, 0, top},
		{2, 1 << 40, 1 << 40, top}, {2, 1 << 32, 1 << 32, top}, {2, top, 2, top}, {2, 3, 4, 12}, {2, top, 0, 0}, {2, 0, top, 0},
	} {
		o := operations()[c.o]
		if n := o.sat(c.a, c.b); n != c.n {
			t.Errorf("%s saturated(%d, %d): %d", o.name, c.a, c.b, n)
		}
	}
}

// P1.2
func TestSaturatedOfMany(t *testing.T) {
	for _, o := range operations() {
		pairs(func(a, b uint64) {
			if _, want := expected(o, a, b); o.sat(a, b) != want {
				t.Errorf("%s saturated(%d, %d): %d", o.name, a, b, o.sat(a, b))
			}
		})
	}
}

// P1.5
func TestOrderIsNothing(t *testing.T) {
	for _, o := range []operation{operations()[0], operations()[2]} {
		pairs(func(a, b uint64) {
			n, fits := o.exact(a, b)
			m, also := o.exact(b, a)
			if n != m || fits != also || o.sat(a, b) != o.sat(b, a) {
				t.Errorf("%s(%d, %d) hangs on the order", o.name, a, b)
			}
		})
	}
}

// P1.5: what fits is told alike by both; of what does not fit the nearest number is one of the two ends.
func TestFitsOrSaturates(t *testing.T) {
	for _, o := range operations() {
		end := uint64(top)
		if o.name == "sub" {
			end = 0
		}
		pairs(func(a, b uint64) {
			n, fits := o.exact(a, b)
			want := end
			if fits {
				want = n
			}
			if o.sat(a, b) != want {
				t.Errorf("%s(%d, %d): fits %v, yet saturated %d", o.name, a, b, fits, o.sat(a, b))
			}
		})
	}
}

// P1.5
func TestDifferencesAddUpAgain(t *testing.T) {
	pairs(func(a, b uint64) {
		d, fits := Sub(a, b)
		if fits != (a >= b) {
			t.Errorf("sub(%d, %d) fits: %v", a, b, fits)
		}
		if again, is := Add(d, b); fits && (!is || again != a) {
			t.Errorf("%d less %d, and that: %d, %v", a, b, again, is)
		}
	})
}
