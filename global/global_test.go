package global

import (
	"math"
	"slices"
	"testing"
)

// queue is a new one, in which these are.
func queue(l ...int) *Queue {
	q := New()
	q.Put(l...)
	return q
}

// is asks for all that is told of one.
func is(t *testing.T, q *Queue, want ...int) {
	t.Helper()
	if l := q.All(); !slices.Equal(l, want) || q.Len() != len(want) {
		t.Errorf("all: %v, %d; want %v", l, q.Len(), want)
	}
	for _, g := range append([]int{-100, 0, 100}, want...) {
		if q.Has(g) != slices.Contains(want, g) {
			t.Errorf("has(%d) of %v: %v", g, want, q.Has(g))
		}
	}
	if !q.Same(queue(want...)) || !queue(want...).Same(q) {
		t.Errorf("%v is not the same as %v", q.All(), want)
	}
}

func takes(t *testing.T, q *Queue, p int, affinity []uint8, want int) {
	t.Helper()
	if g, was := q.Take(p, affinity); g != want || !was {
		t.Errorf("take(%d, %v): %d, %v; want %d", p, affinity, g, was, want)
	}
}

func takesNobody(t *testing.T, q *Queue, p int, affinity []uint8) {
	t.Helper()
	if g, was := q.Take(p, affinity); g != 0 || was {
		t.Errorf("take(%d, %v): %d, %v", p, affinity, g, was)
	}
}

func ahead(t *testing.T, q *Queue, g, p int, affinity []uint8, want int, there bool) {
	t.Helper()
	if n, is := q.Ahead(g, p, affinity); n != want || is != there {
		t.Errorf("ahead(%d, %d, %v): %d, %v; want %d, %v", g, p, affinity, n, is, want, there)
	}
}

// row is the numbers from one up to another.
func row(from, to int) []int {
	var l []int
	for g := from; g <= to; g++ {
		l = append(l, g)
	}
	return l
}

// everywhere is the affinity of so many who may run on each P.
func everywhere(many int) []uint8 {
	l := make([]uint8, many)
	for g := range l {
		l[g] = 255
	}
	return l
}

// P6.1: the chapter's own example.
func TestExample(t *testing.T) {
	affinity := []uint8{255, 2, 255, 255}
	q := queue(1, 2, 3)
	takes(t, q, 0, affinity, 2)
	takes(t, q, 0, affinity, 3)
	takesNobody(t, q, 0, affinity)
	is(t, q, 1)
	takes(t, q, 1, affinity, 1)
	is(t, q)
}

// P6.1
func TestPut(t *testing.T) {
	q := New()
	is(t, q)
	q.Put()
	is(t, q)
	q.Put(3)
	q.Put(1, 2)
	is(t, q, 3, 1, 2)
	q.Put(nil...)
	q.Put(row(10, 2000)...)
	is(t, q, append([]int{3, 1, 2}, row(10, 2000)...)...)
}

// P6.1: they are whatever numbers, and one may be there more than once.
func TestPutWhatever(t *testing.T) {
	q := queue(0, math.MinInt, -1, math.MaxInt, 0, -1)
	is(t, q, 0, math.MinInt, -1, math.MaxInt, 0, -1)
	takes(t, q, 5, everywhere(1), 0)
	takes(t, q, 5, everywhere(1), 0)
	takesNobody(t, q, 5, everywhere(1))
	is(t, q, math.MinInt, -1, math.MaxInt, -1)
}

// P6.1: a list that is handed in is the caller's.
func TestPutIsApart(t *testing.T) {
	l := make([]int, 3, 8)
	copy(l, []int{1, 2, 3})
	q := New()
	q.Put(l...)
	q.Put(l[:2]...)
	if !slices.Equal(l[:8], []int{1, 2, 3, 0, 0, 0, 0, 0}) {
		t.Error(l[:8])
	}
	clear(l)
	is(t, q, 1, 2, 3, 1, 2)
}

// P6.1: a zero one is a new one.
func TestZero(t *testing.T) {
	var q Queue
	is(t, &q)
	takesNobody(t, &q, 0, everywhere(3))
	q.Put(1, 2)
	is(t, &q, 1, 2)
	takes(t, &q, 0, everywhere(3), 1)
	is(t, &q, 2)
}

// P6.1: the first one that may comes, wherever it stands; the others stay in order.
func TestTake(t *testing.T) {
	affinity := []uint8{1, 2, 3, 0, 255, 129}
	for _, c := range []struct {
		p, g int
		left []int
	}{
		{0, 5, []int{3, 1, 4, 2, 0}},
		{1, 1, []int{3, 5, 4, 2, 0}},
		{2, 4, []int{3, 5, 1, 2, 0}},
		{7, 5, []int{3, 1, 4, 2, 0}},
	} {
		q := queue(3, 5, 1, 4, 2, 0)
		takes(t, q, c.p, affinity, c.g)
		is(t, q, c.left...)
	}
	q := queue(3, 3, 0)
	takes(t, q, 0, affinity, 0)
	is(t, q, 3, 3)
	takesNobody(t, q, 0, affinity)
	is(t, q, 3, 3)
}

// P6.1: one after the other they come, and the row may be begun anew when all have gone.
func TestTakeAll(t *testing.T) {
	q := New()
	takesNobody(t, q, 0, everywhere(5))
	for range 3 {
		q.Put(4, 2)
		q.Put(0)
		for _, g := range []int{4, 2, 0} {
			takes(t, q, 3, everywhere(5), g)
		}
		takesNobody(t, q, 3, everywhere(5))
		is(t, q)
	}
}

// P6.1: whoever goes, from the front, the middle, or the end, who is put then comes to the end.
func TestPutBehindWhoIsLeft(t *testing.T) {
	for gone := range 3 {
		affinity := make([]uint8, 9)
		affinity[gone] = 1
		q := queue(0, 1, 2)
		takes(t, q, 0, affinity, gone)
		q.Put(7, 8)
		left := slices.DeleteFunc(row(0, 2), func(g int) bool { return g == gone })
		is(t, q, append(left, 7, 8)...)
	}
}

// P6.1, P6.2: of a number, or a P, that has no set, nobody may.
func TestMayNot(t *testing.T) {
	for _, p := range []int{-1, 8, 64, 256, math.MinInt, math.MaxInt} {
		q := queue(0, 1, 2)
		takesNobody(t, q, p, everywhere(3))
		ahead(t, q, 1, p, everywhere(3), 0, false)
		is(t, q, 0, 1, 2)
	}
	l := []int{-1, 3, math.MinInt, math.MaxInt, 4}
	q := queue(l...)
	takesNobody(t, q, 0, everywhere(3))
	takesNobody(t, q, 0, nil)
	for _, g := range l {
		ahead(t, q, g, 0, everywhere(3), 0, false)
	}
	is(t, q, l...)
	q.Put(2)
	ahead(t, q, 2, 0, everywhere(3), 0, true)
	takes(t, q, 0, everywhere(3), 2)
	is(t, q, l...)
}

// P6.1: what is handed in is not changed; who may is asked anew each time.
func TestAffinityIsTheCallers(t *testing.T) {
	affinity := []uint8{0, 1, 3}
	q := queue(0, 1, 2)
	takes(t, q, 1, affinity, 2)
	ahead(t, q, 1, 0, affinity, 0, true)
	if !slices.Equal(affinity, []uint8{0, 1, 3}) {
		t.Error(affinity)
	}
	affinity[0] = 255
	ahead(t, q, 1, 0, affinity, 1, true)
	takes(t, q, 0, affinity, 0)
	is(t, q, 1)
}

// P6.2
func TestRemove(t *testing.T) {
	for _, c := range []struct {
		g    int
		left []int
	}{{5, []int{6, 7}}, {6, []int{5, 7}}, {7, []int{5, 6}}} {
		q := queue(5, 6, 7)
		for i := range 2 {
			if was := q.Remove(c.g); was != (i == 0) {
				t.Errorf("remove(%d): %v", c.g, was)
			}
			is(t, q, c.left...)
		}
		q.Put(8)
		is(t, q, append(c.left, 8)...)
	}
	q := queue(5, 6, 7)
	for _, g := range []int{0, -1, 8, math.MinInt, math.MaxInt} {
		if q.Remove(g) {
			t.Errorf("remove(%d)", g)
		}
		is(t, q, 5, 6, 7)
	}
}

// P6.2: all may go, in whichever order, and others come then.
func TestRemoveAll(t *testing.T) {
	for _, order := range [][]int{{0, 1, 2}, {0, 2, 1}, {1, 0, 2}, {1, 2, 0}, {2, 0, 1}, {2, 1, 0}} {
		q, left := queue(0, 1, 2), row(0, 2)
		for _, g := range order {
			if !q.Remove(g) {
				t.Errorf("%d is not there", g)
			}
			left = slices.DeleteFunc(left, func(x int) bool { return x == g })
			is(t, q, left...)
		}
		q.Put(9, 0)
		is(t, q, 9, 0)
	}
}

// P6.2: of those of one number the first goes.
func TestRemoveFirst(t *testing.T) {
	q := queue(1, 2, 1, 3, 1)
	for _, left := range [][]int{{2, 1, 3, 1}, {2, 3, 1}, {2, 3}} {
		if !q.Has(1) || !q.Remove(1) {
			t.Error("it is not there")
		}
		is(t, q, left...)
	}
	if q.Has(1) || q.Remove(1) {
		t.Error("it is there")
	}
	is(t, q, 2, 3)
}

// P6.2: those alone count who are ahead, and may.
func TestAhead(t *testing.T) {
	affinity := []uint8{1, 2, 3, 0, 255, 129}
	q := queue(3, 5, 1, 4, 2, 0)
	for _, c := range []struct {
		p    int
		want map[int]int // of whom is told that they may: how many are ahead
	}{
		{0, map[int]int{5: 0, 4: 1, 2: 2, 0: 3}},
		{1, map[int]int{1: 0, 4: 1, 2: 2}},
		{2, map[int]int{4: 0}},
		{7, map[int]int{5: 0, 4: 1}},
		{8, nil},
	} {
		for g := -1; g < 8; g++ {
			want, there := c.want[g]
			ahead(t, q, g, c.p, affinity, want, there)
		}
	}
	is(t, q, 3, 5, 1, 4, 2, 0)
}

// P6.2: one who is not there has nobody ahead, whoever is there; where one is there more than once, the first is asked for.
func TestAheadEdges(t *testing.T) {
	ahead(t, New(), 0, 0, everywhere(9), 0, false)
	q := queue(1, 2, 7, 2, 7)
	ahead(t, q, 0, 0, everywhere(9), 0, false)
	ahead(t, q, 8, 0, everywhere(9), 0, false)
	ahead(t, q, 1, 0, everywhere(9), 0, true)
	ahead(t, q, 2, 0, everywhere(9), 1, true)
	ahead(t, q, 7, 0, everywhere(9), 2, true)
	q.Remove(7)
	ahead(t, q, 7, 0, everywhere(9), 3, true)
}

// P6.3: what All tells is the caller's.
func TestAllIsApart(t *testing.T) {
	q := queue(5, 1, 2)
	l, other := q.All(), q.All()
	clear(l)
	_ = append(l, 50)
	is(t, q, 5, 1, 2)
	q.Put(3)
	q.Remove(1)
	is(t, q, 5, 2, 3)
	if !slices.Equal(other, []int{5, 1, 2}) {
		t.Errorf("told earlier: %v", other)
	}
}

// P6.3
func TestCopy(t *testing.T) {
	var none *Queue
	if none.Copy() != nil {
		t.Error("of nil")
	}
	for _, q := range []*Queue{New(), {}} {
		c := q.Copy()
		if c == nil {
			t.Fatal("of an empty one")
		}
		c.Put(1)
		is(t, c, 1)
		is(t, q)
	}
	q := queue(1, 2, 3)
	c := q.Copy()
	is(t, c, 1, 2, 3)
	c.Put(4)
	c.Remove(2)
	is(t, q, 1, 2, 3)
	is(t, c, 1, 3, 4)
	takes(t, q, 0, everywhere(9), 1)
	q.Put(5)
	q.Remove(3)
	is(t, q, 2, 5)
	is(t, c, 1, 3, 4)
	takes(t, c, 0, everywhere(9), 1)
	is(t, q, 2, 5)
	is(t, c, 3, 4)
}

// P6.3: whatever is asked for is asked both ways.
func TestSame(t *testing.T) {
	for _, c := range []struct {
		a, b *Queue
		want bool
	}{
		{nil, nil, true}, {nil, New(), true}, {nil, new(Queue), true}, {New(), new(Queue), true}, {New(), New(), true},
		{nil, queue(0), false}, {New(), queue(0), false}, {queue(0), queue(0), true}, {queue(0), queue(0, 0), false},
		{queue(1, 2), queue(1, 2), true}, {queue(1, 2), queue(2, 1), false}, {queue(1, 2), queue(1), false},
		{queue(1, 2), queue(2), false}, {queue(1, 2), queue(1, 3), false}, {queue(1, 2, 1), queue(1, 1, 2), false},
	} {
		if c.a.Same(c.b) != c.want || c.b.Same(c.a) != c.want {
			t.Errorf("%v, %v: not %v", c.a.All(), c.b.All(), c.want)
		}
	}
}

// P6.3: it does not matter how they came to be so.
func TestSameHoweverMade(t *testing.T) {
	q := queue(9, 1, 8, 2)
	q.Remove(8)
	takes(t, q, 0, everywhere(10), 9)
	q.Put(3, 7)
	q.Remove(7)
	is(t, q, 1, 2, 3)
	if !q.Same(q) || !q.Same(q.Copy()) {
		t.Error("not the same as itself")
	}
	for range 3 {
		takes(t, q, 0, everywhere(10), q.All()[0])
	}
	if !q.Same(nil) || !q.Same(New()) {
		t.Error("empty")
	}
}

// P6.1 to P6.3: of nil there is nothing, and nothing is done.
func TestOfNil(t *testing.T) {
	var q *Queue
	for range 2 {
		q.Put()
		q.Put(0, 1)
		takesNobody(t, q, 0, everywhere(3))
		for g := range 3 {
			if q.Remove(g) || q.Has(g) {
				t.Error("it has", g)
			}
			ahead(t, q, g, 0, everywhere(3), 0, false)
		}
		is(t, q)
	}
}

// P6.2, P6.3: to be told something, or to be refused, changes nothing.
func TestLooksChangeNothing(t *testing.T) {
	q := queue(3, 1, 2)
	for range 3 {
		q.Has(1)
		q.Ahead(2, 0, everywhere(4))
		q.Copy()
		q.Same(queue(3))
		q.Remove(4)
		q.Take(8, everywhere(4))
		q.Take(0, nil)
		is(t, q, 3, 1, 2)
	}
}
