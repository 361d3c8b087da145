package runq

import (
	"math"
	"slices"
	"testing"

	"helmsman/api"
)

// queue is a new one, in whose ring these are.
func queue(t *testing.T, most int, l ...int) *Queue {
	t.Helper()
	q, e := New(most)
	if e != api.OK || q == nil {
		t.Fatalf("new(%d): %v, %v", most, q, e)
	}
	for _, g := range l {
		puts(t, q, g)
	}
	return q
}

// with is a new one with somebody who is next.
func with(t *testing.T, most, next int, l ...int) *Queue {
	t.Helper()
	q := queue(t, most, l...)
	putsNext(t, q, next)
	return q
}

// puts, putsNext put one, by which these are spilled.
func puts(t *testing.T, q *Queue, g int, spilled ...int) {
	t.Helper()
	if l := q.Put(g); !slices.Equal(l, spilled) {
		t.Errorf("put(%d): %v; want %v", g, l, spilled)
	}
}

func putsNext(t *testing.T, q *Queue, g int, spilled ...int) {
	t.Helper()
	if l := q.PutNext(g); !slices.Equal(l, spilled) {
		t.Errorf("put next(%d): %v; want %v", g, l, spilled)
	}
}

// takes takes one, by which these are spilled.
func takes(t *testing.T, q *Queue, inherit bool, want int, next bool, spilled ...int) {
	t.Helper()
	g, was, l, is := q.Take(inherit)
	if g != want || was != next || !slices.Equal(l, spilled) || !is {
		t.Errorf("take(%v): %d, %v, %v, %v; want %d, %v, %v", inherit, g, was, l, is, want, next, spilled)
	}
}

// takesNobody takes one where there is none.
func takesNobody(t *testing.T, q *Queue) {
	t.Helper()
	for _, inherit := range []bool{true, false} {
		if g, was, l, is := q.Take(inherit); g != 0 || was || len(l) != 0 || is {
			t.Errorf("take(%v): %d, %v, %v, %v", inherit, g, was, l, is)
		}
	}
}

func steals(t *testing.T, q *Queue, p int, affinity []uint8, want ...int) {
	t.Helper()
	if l := q.Steal(p, affinity); !slices.Equal(l, want) {
		t.Errorf("steal(%d, %v): %v; want %v", p, affinity, l, want)
	}
}

// is asks for all that is told of one where nobody is next.
func is(t *testing.T, q *Queue, want ...int) {
	t.Helper()
	tells(t, q, 0, false, want)
}

// isNext asks for all that is told of one where somebody is next.
func isNext(t *testing.T, q *Queue, next int, want ...int) {
	t.Helper()
	tells(t, q, next, true, append([]int{next}, want...))
}

func tells(t *testing.T, q *Queue, next int, there bool, all []int) {
	t.Helper()
	if g, is := q.Next(); g != next || is != there {
		t.Errorf("next: %d, %v; want %d, %v", g, is, next, there)
	}
	if l := q.All(); !slices.Equal(l, all) || q.Len() != len(all) {
		t.Errorf("all: %v, %d; want %v", l, q.Len(), all)
	}
	for _, g := range append([]int{-100, 100}, all...) {
		if q.Has(g) != slices.Contains(all, g) {
			t.Errorf("has(%d) of %v: %v", g, all, q.Has(g))
		}
	}
}

// row is the numbers from one up to another.
func row(from, to int) []int {
	var l []int
	for g := from; g <= to; g++ {
		l = append(l, g)
	}
	return l
}

// everywhere is the affinity of so many who may run on each P.
func everywhere(many int) []uint8 {
	l := make([]uint8, many)
	for g := range l {
		l[g] = 255
	}
	return l
}

// P5.1
func TestNew(t *testing.T) {
	for _, most := range []int{2, 3, 32, 4095, 4096} {
		is(t, queue(t, most))
		takesNobody(t, queue(t, most))
	}
	for _, most := range []int{1, 0, -1, 4097, 1 << 40, math.MinInt, math.MaxInt} {
		if q, e := New(most); q != nil || e != api.ErrArg {
			t.Errorf("new(%d): %v, %v", most, q, e)
		}
	}
}

// P5.1, P5.2: the chapter's own examples.
func TestExamples(t *testing.T) {
	q := queue(t, 2)
	puts(t, q, 1)
	puts(t, q, 2)
	puts(t, q, 3, 1, 3)
	is(t, q, 2)

	q = queue(t, 2)
	putsNext(t, q, 1)
	putsNext(t, q, 2)
	isNext(t, q, 2, 1)
	takes(t, q, true, 2, true)
	takes(t, q, true, 1, false)
	is(t, q)
}

// P5.1: where the ring is full, its first half goes, rounded up, and who is put behind it.
func TestPut(t *testing.T) {
	for _, c := range []struct{ most, half int }{{2, 1}, {3, 2}, {4, 2}, {5, 3}, {32, 16}, {4095, 2048}, {4096, 2048}} {
		q := queue(t, c.most, row(1, c.most)...)
		is(t, q, row(1, c.most)...)
		puts(t, q, 9000, append(row(1, c.half), 9000)...)
		is(t, q, row(c.half+1, c.most)...)
		for g := range c.half {
			puts(t, q, 5000+g)
		}
		is(t, q, append(row(c.half+1, c.most), row(5000, 4999+c.half)...)...)
		if l := q.Put(9001); len(l) != c.half+1 || l[0] != c.half+1 || l[c.half] != 9001 {
			t.Errorf("spilled the second time: %v", l)
		}
	}
}

// P5.1: they are whatever numbers.
func TestPutWhatever(t *testing.T) {
	q := queue(t, 4, 0, math.MinInt, -1, math.MaxInt)
	is(t, q, 0, math.MinInt, -1, math.MaxInt)
	puts(t, q, 7, 0, math.MinInt, 7)
	putsNext(t, q, 0)
	isNext(t, q, 0, -1, math.MaxInt)
	takes(t, q, true, 0, true)
	takes(t, q, true, -1, false)
	takes(t, q, false, math.MaxInt, false)
	is(t, q)
}

// P5.1: who was next is put, whom nobody inherits from; one who is next has no place in the ring.
func TestPutNext(t *testing.T) {
	q := queue(t, 3, 1, 2, 3)
	putsNext(t, q, 4)
	isNext(t, q, 4, 1, 2, 3)
	putsNext(t, q, 5, 1, 2, 4)
	isNext(t, q, 5, 3)
	putsNext(t, q, 6)
	isNext(t, q, 6, 3, 5)
	puts(t, q, 7)
	isNext(t, q, 6, 3, 5, 7)
	puts(t, q, 8, 3, 5, 8)
	isNext(t, q, 6, 7)
}

// P5.1: nothing that was told of those who were spilled is written to later, and nothing written to it is seen.
func TestSpilledIsApart(t *testing.T) {
	q := queue(t, 4, 1, 2, 3, 4)
	l := q.Put(5)
	puts(t, q, 6)
	puts(t, q, 7)
	if !slices.Equal(l, []int{1, 2, 5}) {
		t.Errorf("spilled: %v", l)
	}
	l[0], l[1], l[2] = 70, 80, 90
	_ = append(l, 91, 92)
	is(t, q, 3, 4, 6, 7)
	if l = q.PutNext(8); len(l) != 0 {
		t.Error(l)
	}
	l = q.PutNext(9)
	if !slices.Equal(l, []int{3, 4, 8}) {
		t.Errorf("spilled: %v", l)
	}
	clear(l)
	isNext(t, q, 9, 6, 7)
}

// P5.2: where next is inherited, it comes ahead; else it goes to the end of the ring, from which one comes.
func TestTake(t *testing.T) {
	q := with(t, 4, 9, 1, 2)
	takes(t, q, true, 9, true)
	is(t, q, 1, 2)
	takes(t, q, true, 1, false)
	takes(t, q, true, 2, false)
	takesNobody(t, q)

	q = with(t, 4, 9, 1, 2)
	takes(t, q, false, 1, false)
	is(t, q, 2, 9)
	takes(t, q, true, 2, false)
	takes(t, q, false, 9, false)
	takesNobody(t, q)
	is(t, q)
}

// P5.2: one who is next, and not inherited, comes from the ring, where nobody else is in it.
func TestTakeNextAlone(t *testing.T) {
	q := with(t, 2, 9)
	takes(t, q, false, 9, false)
	takesNobody(t, q)
	q = with(t, 2, 9)
	takes(t, q, true, 9, true)
	takesNobody(t, q)
}

// P5.2: one who is next, and put, spills as others do; one who is inherited does not.
func TestTakeSpills(t *testing.T) {
	q := with(t, 5, 9, 1, 2, 3, 4, 5)
	takes(t, q, true, 9, true)
	is(t, q, 1, 2, 3, 4, 5)

	q = with(t, 5, 9, 1, 2, 3, 4, 5)
	takes(t, q, false, 4, false, 1, 2, 3, 9)
	is(t, q, 5)

	q = with(t, 2, 9, 1, 2)
	takes(t, q, false, 2, false, 1, 9)
	is(t, q)

	q = queue(t, 2, 1, 2)
	takes(t, q, false, 1, false)
	is(t, q, 2)
}

// P5.3: half of those of the ring that may, rounded up, from its front.
func TestSteal(t *testing.T) {
	for many := range 9 {
		q := queue(t, 8, row(0, many-1)...)
		n := (many + 1) / 2
		steals(t, q, 0, everywhere(8), row(0, n-1)...)
		is(t, q, row(n, many-1)...)
	}
	q := queue(t, 4096, row(0, 4095)...)
	steals(t, q, 7, everywhere(4096), row(0, 2047)...)
	is(t, q, row(2048, 4095)...)
}

// P5.3: who may not run there stays, in order, and does not count.
func TestStealWhoMay(t *testing.T) {
	affinity := []uint8{1, 2, 3, 0, 255, 129, 1, 2, 3}
	for _, c := range []struct {
		p            int
		stolen, left []int
	}{
		{0, []int{8, 6, 5}, []int{7, 4, 3, 2, 1, 0}},
		{1, []int{8, 7, 4}, []int{6, 5, 3, 2, 1, 0}},
		{2, []int{4}, []int{8, 7, 6, 5, 3, 2, 1, 0}},
		{7, []int{5}, []int{8, 7, 6, 4, 3, 2, 1, 0}},
	} {
		q := queue(t, 9, 8, 7, 6, 5, 4, 3, 2, 1, 0)
		steals(t, q, c.p, affinity, c.stolen...)
		is(t, q, c.left...)
		q = with(t, 9, 9, 8, 7, 6, 5, 4, 3, 2, 1, 0)
		steals(t, q, c.p, append(affinity, 255), c.stolen...)
		isNext(t, q, 9, c.left...)
	}
}

// P5.3: next goes where nobody of the ring may, and it may itself.
func TestStealNext(t *testing.T) {
	q := with(t, 4, 2)
	steals(t, q, 0, []uint8{1, 1, 2}) // of P 1 alone
	isNext(t, q, 2)
	steals(t, q, 1, []uint8{1, 1, 2}, 2)
	is(t, q)
	steals(t, q, 1, []uint8{1, 1, 2})
	is(t, q)

	q = with(t, 4, 2, 0, 1)
	steals(t, q, 1, []uint8{1, 1, 2}, 2)
	is(t, q, 0, 1)

	q = with(t, 4, 2, 0, 1)
	steals(t, q, 1, []uint8{1, 2, 2}, 1)
	isNext(t, q, 2, 0)
	steals(t, q, 1, []uint8{1, 2, 2}, 2)
	is(t, q, 0)
	steals(t, q, 1, []uint8{1, 2, 2})
	is(t, q, 0)
	q = queue(t, 4, 1)
	takes(t, q, true, 1, false)
	steals(t, q, 0, everywhere(1)) // nobody is next, who would be number 0
	is(t, q)
}

// P5.3: of a number, or a P, that has no set, nobody may.
func TestStealWrong(t *testing.T) {
	for _, p := range []int{-1, 8, 64, 256, math.MinInt, math.MaxInt} {
		q := with(t, 4, 0, 1, 2)
		steals(t, q, p, everywhere(3))
		isNext(t, q, 0, 1, 2)
	}
	for _, next := range []int{-1, 3, math.MinInt, math.MaxInt} {
		q := with(t, 4, next, 7, -2)
		steals(t, q, 0, everywhere(3))
		isNext(t, q, next, 7, -2)
		steals(t, q, 0, nil)
		isNext(t, q, next, 7, -2)
		puts(t, q, 2)
		steals(t, q, 0, everywhere(3), 2)
		isNext(t, q, next, 7, -2)
	}
}

// P5.3: what is handed in is not changed, and what is stolen is the thief's.
func TestStolenIsApart(t *testing.T) {
	affinity := []uint8{1, 0, 3, 1, 2, 1}
	q := with(t, 8, 5, 0, 1, 2, 3, 4)
	l := q.Steal(0, affinity)
	if !slices.Equal(l, []int{0, 2}) || !slices.Equal(affinity, []uint8{1, 0, 3, 1, 2, 1}) {
		t.Error(l, affinity)
	}
	puts(t, q, 6)
	puts(t, q, 7)
	if !slices.Equal(l, []int{0, 2}) {
		t.Error(l)
	}
	l[0], l[1] = 88, 99
	_ = append(l, 100, 101, 102)
	clear(affinity)
	isNext(t, q, 5, 1, 3, 4, 6, 7)
}

// P5.4
func TestRemove(t *testing.T) {
	for _, c := range []struct {
		g    int
		left []int
	}{{1, []int{2, 3}}, {2, []int{1, 3}}, {3, []int{1, 2}}} {
		q := with(t, 3, 9, 1, 2, 3)
		for i := range 2 {
			if was := q.Remove(c.g); was != (i == 0) {
				t.Errorf("remove(%d): %v", c.g, was)
			}
			isNext(t, q, 9, c.left...)
		}
		puts(t, q, 4)
		isNext(t, q, 9, append(c.left, 4)...)
	}
	q := with(t, 3, 9, 1, 2, 3)
	for i := range 2 {
		if was := q.Remove(9); was != (i == 0) {
			t.Error("the next one", was)
		}
		is(t, q, 1, 2, 3)
	}
	for _, g := range []int{0, -1, 4, math.MinInt, math.MaxInt} {
		if q.Remove(g) {
			t.Errorf("remove(%d)", g)
		}
		is(t, q, 1, 2, 3)
	}
}

// P5.4: of number 0 it is as of others, whether somebody is next or not.
func TestNumberNought(t *testing.T) {
	q := queue(t, 2)
	if q.Has(0) || q.Remove(0) {
		t.Error("of an empty one")
	}
	putsNext(t, q, 0)
	isNext(t, q, 0)
	if q.Same(queue(t, 2)) || !q.Remove(0) || q.Has(0) || q.Remove(0) || !q.Same(queue(t, 2)) {
		t.Error("as next")
	}
	puts(t, q, 0)
	is(t, q, 0)
	if q.Same(with(t, 2, 0)) || !q.Remove(0) || q.Has(0) {
		t.Error("in the ring")
	}
	is(t, q)
}

// P5.4: what All tells is the caller's.
func TestAllIsApart(t *testing.T) {
	for _, q := range []*Queue{queue(t, 4, 5, 1, 2), with(t, 4, 5, 1, 2)} {
		l, other := q.All(), q.All()
		clear(l)
		_ = append(l, 50)
		if !slices.Equal(q.All(), []int{5, 1, 2}) {
			t.Error(q.All())
		}
		puts(t, q, 3)
		if !q.Remove(1) || !slices.Equal(q.All(), []int{5, 2, 3}) {
			t.Error(q.All())
		}
		if !slices.Equal(other, []int{5, 1, 2}) {
			t.Errorf("told earlier: %v", other)
		}
	}
}

// P5.4
func TestCopy(t *testing.T) {
	var none *Queue
	if none.Copy() != nil {
		t.Error("of nil")
	}
	zero := new(Queue).Copy()
	if !zero.Same(new(Queue)) || len(zero.Put(1)) != 0 || zero.Len() != 0 {
		t.Error("of a zero one", zero)
	}
	q := with(t, 3, 9, 1, 2, 3)
	c := q.Copy()
	isNext(t, c, 9, 1, 2, 3)
	puts(t, c, 4, 1, 2, 4)
	putsNext(t, c, 5)
	isNext(t, q, 9, 1, 2, 3)
	isNext(t, c, 5, 3, 9)
	takes(t, q, true, 9, true)
	takes(t, q, true, 1, false)
	puts(t, q, 6)
	is(t, q, 2, 3, 6)
	isNext(t, c, 5, 3, 9)
	puts(t, c, 7)
	puts(t, c, 8, 3, 9, 8)
}

// P5.4: whatever is asked for is asked both ways.
func TestSame(t *testing.T) {
	for _, c := range []struct {
		a, b *Queue
		want bool
	}{
		{nil, nil, true}, {nil, new(Queue), true}, {new(Queue), new(Queue), true},
		{nil, queue(t, 2), false}, {new(Queue), queue(t, 2), false}, {nil, with(t, 2, 1), false},
		{queue(t, 2), queue(t, 2), true}, {queue(t, 2), queue(t, 3), false}, {queue(t, 2), queue(t, 4096), false},
		{queue(t, 3, 1, 2), queue(t, 3, 1, 2), true}, {queue(t, 3, 1, 2), queue(t, 4, 1, 2), false},
		{queue(t, 3, 1, 2), queue(t, 3, 2, 1), false}, {queue(t, 3, 1, 2), queue(t, 3, 1), false},
		{with(t, 3, 1, 2), with(t, 3, 1, 2), true}, {with(t, 3, 1, 2), with(t, 4, 1, 2), false},
		{with(t, 3, 1, 2), with(t, 3, 2, 1), false}, {with(t, 3, 1, 2), queue(t, 3, 1, 2), false},
		{with(t, 3, 1), queue(t, 3, 1), false}, {with(t, 3, 1), with(t, 3, 2), false},
		{with(t, 3, 1, 2), with(t, 3, 1, 3), false}, {with(t, 3, 1), queue(t, 3), false},
	} {
		if c.a.Same(c.b) != c.want || c.b.Same(c.a) != c.want {
			t.Errorf("%v, %v: not %v", c.a, c.b, c.want)
		}
	}
}

// P5.4: it does not matter how they came to be so.
func TestSameHoweverMade(t *testing.T) {
	a, b := with(t, 4, 7, 1, 2), queue(t, 4)
	for range 3 {
		puts(t, b, 50)
		takes(t, b, false, 50, false)
	}
	putsNext(t, b, 1)
	takes(t, b, true, 1, true)
	if !b.Same(queue(t, 4)) {
		t.Error("empty")
	}
	putsNext(t, b, 1)
	putsNext(t, b, 2)
	putsNext(t, b, 7)
	if !a.Same(b) || !a.Same(a) {
		t.Errorf("%v, %v", a, b)
	}
	steals(t, a, 0, everywhere(3), 1)
	if a.Same(b) || !b.Remove(1) || !a.Same(b) {
		t.Errorf("one was stolen: %v, %v", a, b)
	}
}

// P5.1 to P5.4: of nil, and of a zero one, there is nothing, and nothing is done.
func TestOfNoQueue(t *testing.T) {
	for _, q := range []*Queue{nil, {}} {
		for range 2 {
			puts(t, q, 1)
			putsNext(t, q, 2)
		}
		takesNobody(t, q)
		steals(t, q, 0, everywhere(3))
		for g := range 3 {
			if q.Remove(g) || q.Has(g) {
				t.Error("it has", g)
			}
		}
		is(t, q)
	}
}

// P5.4: to be told something changes nothing.
func TestLooksChangeNothing(t *testing.T) {
	q := with(t, 3, 9, 1, 2, 3)
	for range 3 {
		q.Next()
		q.Has(9)
		q.Has(4)
		q.Copy()
		q.Same(queue(t, 3))
		q.Remove(4)
		q.Steal(8, everywhere(10))
		isNext(t, q, 9, 1, 2, 3)
	}
}
