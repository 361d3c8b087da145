package num

import (
	"math"
	"slices"
	"testing"
)

// places are Ps, and what is none.
func places() []int {
	return []int{math.MinInt, -256, -64, -9, -8, -1, 0, 1, 2, 3, 4, 5, 6, 7, 8, 9, 15, 16, 63, 64, 255, 256, math.MaxInt}
}

func isP(p int) bool { return p >= 0 && p <= 7 }

// members are those in a set, told from its digits in base two.
func members(set uint8) []int {
	var l []int
	for p, rest := 0, int(set); rest > 0; p, rest = p+1, rest/2 {
		if rest%2 == 1 {
			l = append(l, p)
		}
	}
	return l
}

// sets calls f with each set, and those in it.
func sets(f func(set uint8, in []int)) {
	for set := range 256 {
		f(uint8(set), members(uint8(set)))
	}
}

// P1.3
func TestHas(t *testing.T) {
	sets(func(set uint8, in []int) {
		for _, p := range places() {
			if Has(set, p) != slices.Contains(in, p) {
				t.Errorf("has(%08b, %d): %v", set, p, Has(set, p))
			}
		}
	})
}

// P1.3
func TestWith(t *testing.T) {
	sets(func(set uint8, in []int) {
		for _, p := range places() {
			want := slices.Clone(in)
			if isP(p) && !slices.Contains(want, p) {
				want = append(want, p)
				slices.Sort(want)
			}
			if now := With(set, p); !slices.Equal(members(now), want) {
				t.Errorf("with(%08b, %d): %08b", set, p, now)
			}
		}
	})
}

// P1.3
func TestWithout(t *testing.T) {
	sets(func(set uint8, in []int) {
		for _, p := range places() {
			want := slices.DeleteFunc(slices.Clone(in), func(x int) bool { return x == p })
			if now := Without(set, p); !slices.Equal(members(now), want) {
				t.Errorf("without(%08b, %d): %08b", set, p, now)
			}
		}
	})
}

// P1.3
func TestCount(t *testing.T) {
	sets(func(set uint8, in []int) {
		if Count(set) != len(in) {
			t.Errorf("count(%08b): %d", set, Count(set))
		}
	})
}

// P1.3
func TestMask(t *testing.T) {
	want := []uint8{0, 1, 3, 7, 15, 31, 63, 127, 255}
	for ps, set := range want {
		if Mask(ps) != set {
			t.Errorf("mask(%d): %08b", ps, Mask(ps))
		}
	}
	for _, ps := range places() {
		if ps < 0 && Mask(ps) != 0 || ps > 8 && Mask(ps) != 255 {
			t.Errorf("mask(%d): %08b", ps, Mask(ps))
		}
	}
}

// P1.4: going round is told by walking on one by one, from the first one, and back from the last one.
func TestNth(t *testing.T) {
	sets(func(set uint8, in []int) {
		if len(in) == 0 {
			return
		}
		at, back := 0, len(in)-1
		for n := range 40 {
			if p, is := Nth(set, n); !is || p != in[at] {
				t.Errorf("nth(%08b, %d): %d, %v", set, n, p, is)
			}
			if p, is := Nth(set, -1-n); !is || p != in[back] {
				t.Errorf("nth(%08b, %d): %d, %v", set, -1-n, p, is)
			}
			if at++; at == len(in) {
				at = 0
			}
			if back--; back < 0 {
				back = len(in) - 1
			}
		}
	})
}

// P1.4
func TestNthEdges(t *testing.T) {
	const some = 1<<1 | 1<<3 | 1<<6
	for _, c := range []struct {
		set  uint8
		n, p int
		is   bool
	}{
		{some, 4, 3, true}, {some, -1, 6, true}, {some, 0, 1, true}, {some, -3, 1, true}, {some, -4, 6, true},
		// The greatest number of 64 bits is 1 modulo 3, and 7 modulo 8; the least one as far from the end.
		{some, math.MaxInt, 3, true}, {some, math.MinInt, 3, true}, {255, math.MaxInt, 7, true}, {255, math.MinInt, 0, true},
		{1 << 7, math.MaxInt, 7, true}, {1 << 7, math.MinInt, 7, true}, {1, -1, 0, true},
		{0, 0, 0, false}, {0, 3, 0, false}, {0, -1, 0, false}, {0, math.MaxInt, 0, false}, {0, math.MinInt, 0, false},
	} {
		if p, is := Nth(c.set, c.n); p != c.p || is != c.is {
			t.Errorf("nth(%08b, %d): %d, %v", c.set, c.n, p, is)
		}
	}
}

// P1.4: gone through twice, the same sequence tells the same.
func TestAll(t *testing.T) {
	sets(func(set uint8, in []int) {
		all := All(set)
		for range 2 {
			if got := slices.Collect(all); !slices.Equal(got, in) {
				t.Errorf("all(%08b): %v", set, got)
			}
		}
	})
}

// P1.4: who leaves behind so many has just these, and is not called any more; then all are there anew.
func TestAllIsLeft(t *testing.T) {
	sets(func(set uint8, in []int) {
		all := All(set)
		for leave := 1; leave <= len(in); leave++ {
			var got []int
			all(func(p int) bool {
				got = append(got, p)
				return len(got) < leave
			})
			if !slices.Equal(got, in[:leave]) {
				t.Errorf("all(%08b), left behind %d: %v", set, leave, got)
			}
		}
		if got := slices.Collect(all); !slices.Equal(got, in) {
			t.Errorf("all(%08b), left and gone through: %v", set, got)
		}
	})
}

// P1.4: one going over goes on, whatever another one does within it.
func TestAllWithin(t *testing.T) {
	all := All(1<<0 | 1<<5 | 1<<7)
	var got [][2]int
	for p := range all {
		for o := range all {
			if o > p {
				break
			}
			got = append(got, [2]int{p, o})
		}
	}
	if want := [][2]int{{0, 0}, {5, 0}, {5, 5}, {7, 0}, {7, 5}, {7, 7}}; !slices.Equal(got, want) {
		t.Error(got)
	}
}
