package ring

import (
	"math"
	"slices"
	"testing"

	"helmsman/api"
)

// ring is a new one, with these numbers in it.
func ring(t *testing.T, most int, l ...int) *Ring {
	t.Helper()
	r, e := New(most)
	if e != api.OK || r == nil {
		t.Fatalf("new(%d): %v, %v", most, r, e)
	}
	push(t, r, l...)
	return r
}

func push(t *testing.T, r *Ring, l ...int) {
	t.Helper()
	for _, x := range l {
		if e := r.Push(x); e != api.OK {
			t.Fatalf("push(%d) to %v: %v", x, r.All(), e)
		}
	}
}

// gone is one in which so many were pushed and popped already, so that its row begins elsewhere.
func gone(t *testing.T, most, many int, l ...int) *Ring {
	t.Helper()
	r := ring(t, most)
	for range many {
		push(t, r, -77)
		pops(t, r, -77)
	}
	push(t, r, l...)
	return r
}

func pops(t *testing.T, r *Ring, want int) {
	t.Helper()
	if x, is := r.Pop(); !is || x != want {
		t.Errorf("pop: %d, %v; want %d", x, is, want)
	}
}

// is asks for all that is told of a row.
func is(t *testing.T, r *Ring, most int, want ...int) {
	t.Helper()
	if l := r.All(); !slices.Equal(l, want) {
		t.Errorf("all: %v; want %v", l, want)
	}
	if r.Len() != len(want) || r.Most() != most {
		t.Errorf("len %d, most %d; want %d, %d", r.Len(), r.Most(), len(want), most)
	}
}

// P3.1
func TestNew(t *testing.T) {
	for _, most := range []int{1, 2, 32, 4095, 4096} {
		is(t, ring(t, most), most)
	}
	for _, most := range []int{0, -1, 4097, 1 << 40, math.MinInt, math.MaxInt} {
		if r, e := New(most); r != nil || e != api.ErrArg {
			t.Errorf("new(%d): %v, %v", most, r, e)
		}
	}
}

// P3.1: the chapter's own example.
func TestExample(t *testing.T) {
	r := ring(t, 2, 5, 6)
	if e := r.Push(7); e != api.ErrFull {
		t.Error(e)
	}
	pops(t, r, 5)
	push(t, r, 7)
	is(t, r, 2, 6, 7)
}

// P3.1: any number may be there, and more than once.
func TestPushPop(t *testing.T) {
	l := []int{0, 3, -1, 3, math.MinInt, 0, math.MaxInt}
	r := ring(t, 7, l...)
	is(t, r, 7, l...)
	for i, x := range l {
		pops(t, r, x)
		is(t, r, 7, l[i+1:]...)
	}
	if x, was := r.Pop(); was || x != 0 {
		t.Errorf("pop of an empty one: %d, %v", x, was)
	}
	is(t, r, 7)
	push(t, r, 9)
	is(t, r, 7, 9)
}

// P3.1, P3.4: what is refused changes nothing, wherever the row begins, in the smallest and the largest one.
func TestFull(t *testing.T) {
	for _, most := range []int{1, 2, 3, 4096} {
		l := make([]int, most)
		for i := range l {
			l[i] = i
		}
		for _, begin := range []int{0, 1, most - 1, most} {
			r := gone(t, most, begin, l...)
			for range 2 {
				if e := r.Push(-5); e != api.ErrFull {
					t.Errorf("push to %d: %v", most, e)
				}
			}
			is(t, r, most, l...)
			pops(t, r, 0)
			push(t, r, -5)
			is(t, r, most, append(slices.Clone(l[1:]), -5)...)
		}
	}
}

// P3.1 to P3.3: of nil, and of a zero one, there is nothing.
func TestOfNoRing(t *testing.T) {
	for _, r := range []*Ring{nil, {}} {
		for range 2 {
			if e := r.Push(1); e != api.ErrNil {
				t.Error("push", e)
			}
		}
		if x, was := r.Pop(); was || x != 0 {
			t.Error("pop", x, was)
		}
		for _, n := range []int{math.MinInt, -1, 0, 1, math.MaxInt} {
			if l := r.Take(n); len(l) != 0 {
				t.Error("take", n, l)
			}
		}
		if r.Remove(0) || r.Has(0) || r.Remove(1) || r.Has(1) {
			t.Error("something is there")
		}
		is(t, r, 0)
	}
}

// P3.2
func TestTake(t *testing.T) {
	l := []int{4, 5, 4, 6}
	for begin := range 6 {
		for _, c := range []struct{ n, many int }{
			{math.MinInt, 0}, {-1, 0}, {0, 0}, {1, 1}, {2, 2}, {3, 3}, {4, 4}, {5, 4}, {4097, 4}, {math.MaxInt, 4},
		} {
			r := gone(t, 5, begin, l...)
			if took := r.Take(c.n); !slices.Equal(took, l[:c.many]) {
				t.Errorf("take(%d): %v", c.n, took)
			}
			is(t, r, 5, l[c.many:]...)
			push(t, r, 8)
			is(t, r, 5, append(slices.Clone(l[c.many:]), 8)...)
		}
	}
	if took := ring(t, 3).Take(2); len(took) != 0 {
		t.Errorf("of an empty one: %v", took)
	}
}

// P3.2: what is taken is the caller's: nothing done to it is seen in the row, nor the other way round.
func TestTakenIsApart(t *testing.T) {
	for begin := range 5 {
		r := gone(t, 4, begin, 1, 2, 3, 4)
		took := r.Take(2)
		push(t, r, 5, 6)
		if !slices.Equal(took, []int{1, 2}) {
			t.Errorf("taken: %v", took)
		}
		took[0], took[1] = 88, 99
		_ = append(took, 100, 101)
		is(t, r, 4, 3, 4, 5, 6)
	}
}

// P3.2: the first one alone of that number goes, and the others stay in their order.
func TestRemove(t *testing.T) {
	l := []int{7, 8, 7, 9, 8}
	for _, most := range []int{5, 6, 9} {
		for begin := range most + 1 {
			for _, c := range []struct {
				x    int
				was  bool
				left []int
			}{
				{7, true, []int{8, 7, 9, 8}},
				{8, true, []int{7, 7, 9, 8}},
				{9, true, []int{7, 8, 7, 8}},
				{0, false, l}, {-77, false, l}, {-7, false, l}, {math.MaxInt, false, l},
			} {
				r := gone(t, most, begin, l...)
				if was := r.Remove(c.x); was != c.was {
					t.Errorf("remove(%d): %v", c.x, was)
				}
				is(t, r, most, c.left...)
				if r.Len() < most {
					push(t, r, 1)
					is(t, r, most, append(slices.Clone(c.left), 1)...)
				}
				pops(t, r, c.left[0])
			}
		}
	}
}

// P3.2: one that is there so often goes so often.
func TestRemoveAll(t *testing.T) {
	r := gone(t, 4, 3, 6, 6, 5, 6)
	for i, left := range [][]int{{6, 5, 6}, {5, 6}, {5}, {5}} {
		if was := r.Remove(6); was != (i < 3) {
			t.Errorf("the %dth time: %v", i, was)
		}
		is(t, r, 4, left...)
	}
	if !r.Remove(5) || r.Remove(5) {
		t.Error("the last one")
	}
	is(t, r, 4)
}

// P3.2: there is what is in the row now, not what was, nor what never was.
func TestHas(t *testing.T) {
	for begin := range 5 {
		r := gone(t, 4, begin, 3, 0, 3)
		has := func(want bool, l ...int) {
			t.Helper()
			for _, x := range l {
				if r.Has(x) != want {
					t.Errorf("has(%d) of %v: %v", x, r.All(), !want)
				}
			}
		}
		has(true, 3, 0)
		has(false, 1, -3, -77, math.MinInt)
		pops(t, r, 3)
		has(true, 3, 0)
		r.Take(1)
		has(true, 3)
		has(false, 0)
		if !r.Remove(3) {
			t.Error("remove")
		}
		has(false, 3, 0)
		push(t, r, 1, 2, 4, 5)
		has(true, 1, 2, 4, 5)
		is(t, r, 4, 1, 2, 4, 5)
	}
}

// P3.3: what All tells is the caller's.
func TestAllIsApart(t *testing.T) {
	for begin := range 5 {
		r := gone(t, 4, begin, 1, 2, 3)
		l, other := r.All(), r.All()
		_ = append(l, 50)
		l[0], l[2] = 70, 90
		is(t, r, 4, 1, 2, 3)
		push(t, r, 4)
		pops(t, r, 1)
		push(t, r, 5)
		is(t, r, 4, 2, 3, 4, 5)
		if !slices.Equal(other, []int{1, 2, 3}) {
			t.Errorf("told earlier: %v", other)
		}
	}
}

// P3.3
func TestCopy(t *testing.T) {
	var none *Ring
	if none.Copy() != nil {
		t.Error("of nil")
	}
	zero := new(Ring).Copy()
	is(t, zero, 0)
	if e := zero.Push(1); zero == nil || e != api.ErrNil || !zero.Same(new(Ring)) {
		t.Error("of a zero one", zero, e)
	}
	for begin := range 4 {
		r := gone(t, 3, begin, 1, 2)
		c := r.Copy()
		is(t, c, 3, 1, 2)
		push(t, r, 3)
		push(t, c, 4)
		pops(t, c, 1)
		push(t, c, 5)
		is(t, r, 3, 1, 2, 3)
		is(t, c, 3, 2, 4, 5)
		if !r.Remove(2) || r.Take(1)[0] != 1 {
			t.Error("of the first one")
		}
		push(t, r, 6, 7)
		is(t, r, 3, 3, 6, 7)
		is(t, c, 3, 2, 4, 5)
	}
}

// P3.3: whatever is asked for is asked both ways.
func TestSame(t *testing.T) {
	for _, c := range []struct {
		a, b *Ring
		want bool
	}{
		{nil, nil, true}, {nil, new(Ring), true}, {new(Ring), new(Ring), true},
		{nil, ring(t, 1), false}, {new(Ring), ring(t, 1), false}, {nil, ring(t, 4, 1), false},
		{ring(t, 3), ring(t, 3), true}, {ring(t, 3), ring(t, 4), false}, {ring(t, 1), ring(t, 4096), false},
		{ring(t, 3, 1, 2), ring(t, 3, 1, 2), true}, {ring(t, 3, 1, 2), ring(t, 4, 1, 2), false},
		{ring(t, 3, 1, 2), ring(t, 3, 2, 1), false}, {ring(t, 3, 1, 2), ring(t, 3, 1), false},
		{ring(t, 3, 1, 2), ring(t, 3, 2), false}, {ring(t, 3, 1, 2), ring(t, 3, 1, 2, 2), false},
		{ring(t, 3, 0), ring(t, 3), false}, {ring(t, 3, 1, 1), ring(t, 3, 1), false},
	} {
		if c.a.Same(c.b) != c.want || c.b.Same(c.a) != c.want {
			t.Errorf("%v, %v: not %v", c.a, c.b, c.want)
		}
	}
}

// P3.3: not which slots the row stands in, nor what stood there, is asked for.
func TestSameWhereverItBegins(t *testing.T) {
	for i := range 5 {
		for j := range 5 {
			a, b := gone(t, 4, i, 1, 2, 3), gone(t, 4, j, 1, 2, 3)
			if !a.Same(b) || !a.Same(a) {
				t.Errorf("begun at %d, at %d", i, j)
			}
			pops(t, a, 1)
			if a.Same(b) || !b.Remove(1) || !a.Same(b) {
				t.Errorf("begun at %d, at %d; one went", i, j)
			}
		}
	}
}

// P3.1 to P3.3: to be told something changes nothing.
func TestLooksChangeNothing(t *testing.T) {
	r := gone(t, 4, 2, 5, 6, 5)
	for range 3 {
		r.Has(5)
		r.Has(8)
		r.Copy()
		r.Same(ring(t, 4))
		r.Take(0)
		r.Remove(8)
		is(t, r, 4, 5, 6, 5)
	}
}

// P3.4: in, and out, in the same order, round and round.
func TestInOrder(t *testing.T) {
	for most := 1; most <= 9; most++ {
		r := ring(t, most)
		in, out := 0, 0
		for round := range 200 {
			for range round % (most + 2) {
				if e := r.Push(in); (e == api.OK) != (in-out < most) || r.Len() > most {
					t.Fatalf("push(%d) to %v: %v", in, r.All(), e)
				} else if e == api.OK {
					in++
				}
			}
			for range round % 3 {
				x, was := r.Pop()
				if was != (out < in) || was && x != out {
					t.Fatalf("pop: %d, %v; want %d of %d", x, was, out, in)
				}
				if was {
					out++
				}
			}
		}
	}
}
