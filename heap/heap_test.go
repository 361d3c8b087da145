package heap

import (
	"math"
	"slices"
	"testing"

	"helmsman/api"
)

// top is the greatest time.
const top = math.MaxUint64

func at(at uint64, id int) api.Timer { return api.Timer{At: at, ID: id} }

// heap is a new one, with these timers put in this order.
func heap(t *testing.T, l ...api.Timer) *Heap {
	t.Helper()
	h := New()
	if h == nil {
		t.Fatal("new: nil")
	}
	put(t, h, l...)
	return h
}

func put(t *testing.T, h *Heap, l ...api.Timer) {
	t.Helper()
	for _, x := range l {
		if e := h.Put(x.At, x.ID); e != api.OK {
			t.Fatalf("put(%d, %d) to %v: %v", x.At, x.ID, h.All(), e)
		}
	}
}

func pops(t *testing.T, h *Heap, now uint64, want int) {
	t.Helper()
	if id, went := h.Pop(now); !went || id != want {
		t.Errorf("pop(%d): %d, %v; want %d", now, id, went, want)
	}
}

func popsNone(t *testing.T, h *Heap, now uint64) {
	t.Helper()
	if id, went := h.Pop(now); went || id != 0 {
		t.Errorf("pop(%d): %d, %v; want none", now, id, went)
	}
}

// is asks for all that is told of these timers, but for that another one is not there.
func is(t *testing.T, h *Heap, want ...api.Timer) {
	t.Helper()
	if l := h.All(); !slices.Equal(l, want) {
		t.Errorf("all: %v; want %v", l, want)
	}
	if h.Len() != len(want) {
		t.Errorf("len: %d; want %d", h.Len(), len(want))
	}
	first := at(0, 0)
	if len(want) > 0 {
		first = want[0]
	}
	if next, there := h.Next(); next != first.At || there != (len(want) > 0) {
		t.Errorf("next: %d, %v; want that of %v", next, there, want)
	}
	for _, x := range want {
		if !h.Has(x.ID) {
			t.Errorf("has(%d) of %v: false", x.ID, want)
		}
	}
}

// without are these timers but those of an ID.
func without(l []api.Timer, id int) []api.Timer {
	return slices.DeleteFunc(slices.Clone(l), func(x api.Timer) bool { return x.ID == id })
}

// orders hands on each order of the numbers below n.
func orders(n int, on func([]int)) {
	var more func(l []int)
	more = func(l []int) {
		if len(l) == n {
			on(l)
			return
		}
		for i := range n {
			if !slices.Contains(l, i) {
				more(append(slices.Clone(l), i))
			}
		}
	}
	more(nil)
}

// P4.1
func TestNew(t *testing.T) {
	h := heap(t)
	is(t, h)
	popsNone(t, h, top)
	put(t, h, at(1, 1))
	is(t, New())
}

// P4.1: the chapter's own example.
func TestExample(t *testing.T) {
	h := heap(t, at(5, 1), at(3, 2), at(5, 3))
	is(t, h, at(3, 2), at(5, 1), at(5, 3))
	pops(t, h, 4, 2)
	popsNone(t, h, 4)
	pops(t, h, 5, 1)
	pops(t, h, 5, 3)
	is(t, h)
}

// P4.1, P4.2: any time, and any ID, may be.
func TestGreatAndSmall(t *testing.T) {
	h := heap(t, at(top, math.MinInt), at(0, math.MaxInt), at(top, 0), at(1<<63, -1), at(0, -5), at(1<<63-1, 7))
	want := []api.Timer{at(0, math.MaxInt), at(0, -5), at(1<<63-1, 7), at(1<<63, -1), at(top, math.MinInt), at(top, 0)}
	is(t, h, want...)
	for i, x := range want {
		if x.At > 0 {
			popsNone(t, h, x.At-1)
		}
		is(t, h, want[i:]...)
		pops(t, h, x.At, x.ID)
		is(t, h, want[i+1:]...)
	}
	popsNone(t, h, top)
}

// P4.1: what is refused changes nothing, whatever its time, and leaves it where it is among those of its time.
func TestBusy(t *testing.T) {
	l := []api.Timer{at(4, 0), at(4, 9), at(4, -3), at(6, 2)}
	h := heap(t, l...)
	for _, id := range []int{0, 9, -3, 2} {
		for _, when := range []uint64{0, 3, 4, 5, 6, top} {
			if e := h.Put(when, id); e != api.ErrBusy {
				t.Errorf("put(%d, %d): %v", when, id, e)
			}
			is(t, h, l...)
		}
	}
	for _, x := range l {
		pops(t, h, 6, x.ID)
	}
}

// P4.1: an ID that went may come anew; among those of its time it is the last one then.
func TestAnew(t *testing.T) {
	h := heap(t, at(4, 1), at(4, 2), at(4, 3))
	if !h.Remove(1) {
		t.Error("remove")
	}
	put(t, h, at(4, 1))
	is(t, h, at(4, 2), at(4, 3), at(4, 1))
	pops(t, h, 4, 2)
	put(t, h, at(4, 2))
	is(t, h, at(4, 3), at(4, 1), at(4, 2))
	if e := h.Put(4, 2); e != api.ErrBusy {
		t.Error(e)
	}
	for _, id := range []int{3, 1, 2} {
		pops(t, h, 4, id)
	}
	put(t, h, at(2, 3), at(1, 1))
	is(t, h, at(1, 1), at(2, 3))
}

// P4.1: one goes at its time, and behind it, not ahead of it.
func TestPop(t *testing.T) {
	for _, c := range []struct {
		at, now uint64
		went    bool
	}{
		{0, 0, true}, {0, top, true}, {1, 0, false}, {5, 4, false}, {5, 5, true}, {5, 6, true},
		{top, top - 1, false}, {top, top, true}, {1 << 63, 1<<63 - 1, false}, {1<<63 - 1, 1 << 63, true},
	} {
		h := heap(t, at(c.at, 8))
		if c.went {
			pops(t, h, c.now, 8)
			is(t, h)
		} else {
			popsNone(t, h, c.now)
			is(t, h, at(c.at, 8))
		}
	}
}

// P4.1: one alone goes at each call.
func TestPopsOne(t *testing.T) {
	h := heap(t, at(3, 1), at(1, 2), at(2, 3))
	pops(t, h, 9, 2)
	is(t, h, at(2, 3), at(3, 1))
	pops(t, h, 9, 3)
	is(t, h, at(3, 1))
	pops(t, h, 9, 1)
	is(t, h)
}

// P4.1, P4.2: in whichever order they were put, each one can be removed, and all others stay in their order.
func TestRemove(t *testing.T) {
	orders(6, func(l []int) {
		want := []api.Timer{at(0, 0), at(2, 1), at(4, 2), at(6, 3), at(8, 4), at(10, 5)}
		for gone := range 7 {
			h := heap(t)
			for _, i := range l {
				put(t, h, want[i])
			}
			if was := h.Remove(gone); was != (gone < 6) {
				t.Fatalf("remove(%d) of %v: %v", gone, l, was)
			}
			left := without(want, gone)
			is(t, h, left...)
			if h.Has(gone) || h.Remove(gone) {
				t.Fatalf("%d is still there", gone)
			}
			for _, x := range left {
				pops(t, h, x.At, x.ID)
			}
			if t.Failed() {
				t.Fatalf("put as %v, without %d", l, gone)
			}
		}
	})
}

// P4.1, P4.3: who fills the gap may be ahead of all that were right above it: each is removed of a heap of several levels.
func TestRemoveBelowAnother(t *testing.T) {
	var l []api.Timer
	for _, when := range []uint64{1, 100, 2, 110, 120, 3, 4, 130, 140, 150, 160, 5, 6, 7, 8} {
		l = append(l, at(when, len(l)))
	}
	for _, gone := range l {
		h := heap(t, l...)
		if !h.Remove(gone.ID) {
			t.Errorf("remove(%d)", gone.ID)
		}
		left := without(l, gone.ID)
		slices.SortStableFunc(left, func(a, b api.Timer) int { return int(a.At) - int(b.At) })
		is(t, h, left...)
		for _, x := range left {
			pops(t, h, x.At, x.ID)
		}
	}
}

// P4.1: an ID that never was, or is gone, is not there to be removed; nothing is changed.
func TestRemoveNone(t *testing.T) {
	h := heap(t, at(3, 1), at(3, 0), at(2, 4))
	pops(t, h, 2, 4)
	for _, id := range []int{4, 2, 3, -1, math.MinInt, math.MaxInt} {
		if h.Remove(id) || h.Has(id) {
			t.Errorf("of %d", id)
		}
		is(t, h, at(3, 1), at(3, 0))
	}
}

// P4.1, P4.2: of nil there is nothing, and nothing comes to it.
func TestOfNil(t *testing.T) {
	var h *Heap
	for range 2 {
		if e := h.Put(1, 1); e != api.ErrNil {
			t.Error("put", e)
		}
		popsNone(t, h, 0)
		popsNone(t, h, top)
		if h.Remove(1) || h.Has(1) || h.Remove(0) || h.Has(0) {
			t.Error("something is there")
		}
		is(t, h)
		if h.Copy() != nil {
			t.Error("copy")
		}
	}
}

// P4.1, P4.2: a zero one is one without timers.
func TestOfZero(t *testing.T) {
	h := new(Heap)
	is(t, h)
	popsNone(t, h, top)
	if h.Remove(0) || h.Has(0) {
		t.Error("something is there")
	}
	c := h.Copy()
	if c == nil {
		t.Fatal("copy: nil")
	}
	put(t, h, at(2, 1), at(1, 2))
	is(t, h, at(1, 2), at(2, 1))
	is(t, c)
	put(t, c, at(5, 1))
	is(t, c, at(5, 1))
	if e := c.Put(5, 1); e != api.ErrBusy {
		t.Error(e)
	}
	var by Heap
	put(t, &by, at(7, 7))
	is(t, &by, at(7, 7))
}

// P4.2: there is what is there now, not what was.
func TestHas(t *testing.T) {
	h := heap(t, at(3, 1), at(2, 0))
	has := func(want ...bool) {
		t.Helper()
		for id, w := range want {
			if h.Has(id) != w {
				t.Errorf("has(%d) of %v: %v", id, h.All(), !w)
			}
		}
	}
	has(true, true, false)
	pops(t, h, 2, 0)
	has(false, true, false)
	put(t, h, at(9, 2))
	has(false, true, true)
	h.Remove(1)
	has(false, false, true)
}

// P4.2: what All tells is the caller's.
func TestAllIsApart(t *testing.T) {
	h := heap(t, at(3, 1), at(1, 2), at(2, 3))
	l, other := h.All(), h.All()
	_ = append(l, at(0, 50))
	l[0], l[2] = at(70, 70), at(0, 3)
	is(t, h, at(1, 2), at(2, 3), at(3, 1))
	pops(t, h, 9, 2)
	put(t, h, at(0, 6))
	is(t, h, at(0, 6), at(2, 3), at(3, 1))
	if !slices.Equal(other, []api.Timer{at(1, 2), at(2, 3), at(3, 1)}) {
		t.Errorf("told earlier: %v", other)
	}
}

// P4.2: a copy has the same order among those of one time, also for what comes to it later; nothing done to one is seen in the other one.
func TestCopy(t *testing.T) {
	h := heap(t, at(2, 1), at(2, 5), at(1, 7), at(2, 3))
	pops(t, h, 1, 7)
	c := h.Copy()
	is(t, c, at(2, 1), at(2, 5), at(2, 3))
	put(t, h, at(2, 8), at(0, 9))
	put(t, c, at(2, 9), at(3, 8), at(2, 7))
	is(t, h, at(0, 9), at(2, 1), at(2, 5), at(2, 3), at(2, 8))
	is(t, c, at(2, 1), at(2, 5), at(2, 3), at(2, 9), at(2, 7), at(3, 8))
	if !h.Remove(5) || h.Has(7) || !c.Has(5) {
		t.Error("of the first one")
	}
	pops(t, c, 2, 1)
	is(t, h, at(0, 9), at(2, 1), at(2, 3), at(2, 8))
	is(t, c, at(2, 5), at(2, 3), at(2, 9), at(2, 7), at(3, 8))
	put(t, c, at(4, 1))
	is(t, h, at(0, 9), at(2, 1), at(2, 3), at(2, 8))
}

// P4.2: whatever is asked for is asked both ways.
func TestSame(t *testing.T) {
	one := heap(t, at(1, 1))
	pops(t, one, 1, 1)
	for _, c := range []struct {
		a, b *Heap
		want bool
	}{
		{nil, nil, true}, {nil, new(Heap), true}, {nil, New(), true}, {new(Heap), New(), true}, {nil, one, true}, {New(), one, true},
		{nil, heap(t, at(0, 0)), false}, {New(), heap(t, at(0, 0)), false}, {new(Heap), heap(t, at(3, 1)), false},
		{heap(t, at(3, 1)), heap(t, at(3, 1)), true}, {heap(t, at(3, 1)), heap(t, at(4, 1)), false}, {heap(t, at(3, 1)), heap(t, at(3, 2)), false},
		{heap(t, at(3, 1), at(4, 2)), heap(t, at(4, 2), at(3, 1)), true}, {heap(t, at(3, 1), at(4, 2)), heap(t, at(3, 2), at(4, 1)), false},
		{heap(t, at(3, 1), at(3, 2)), heap(t, at(3, 2), at(3, 1)), false}, {heap(t, at(3, 1), at(3, 2)), heap(t, at(3, 1), at(3, 2)), true},
		{heap(t, at(3, 1), at(3, 2)), heap(t, at(3, 1)), false}, {heap(t, at(3, 1), at(3, 2)), heap(t, at(3, 2)), false},
		{heap(t, at(top, 1)), heap(t, at(0, 1)), false}, {heap(t, at(3, -1)), heap(t, at(3, 1)), false},
	} {
		if c.a.Same(c.b) != c.want || c.b.Same(c.a) != c.want {
			t.Errorf("%v, %v: not %v", c.a.All(), c.b.All(), c.want)
		}
		if !c.a.Same(c.a) || !c.a.Same(c.a.Copy()) {
			t.Errorf("%v: not as itself", c.a.All())
		}
	}
}

// P4.2: not by which calls they came to be there is asked for.
func TestSameWhateverWas(t *testing.T) {
	want := heap(t, at(0, 0), at(1, 1), at(2, 2), at(3, 3), at(4, 4))
	orders(5, func(l []int) {
		h := heap(t, at(1, 9), at(0, 8))
		for _, i := range l {
			put(t, h, at(uint64(i), i))
		}
		if h.Same(want) || !h.Remove(9) || want.Same(h) || !h.Remove(8) || !h.Same(want) || !want.Same(h) {
			t.Fatalf("put as %v: %v", l, h.All())
		}
	})
}

// P4.1 to P4.3: to be told something, and to be told that there is none, changes nothing.
func TestLooksChangeNothing(t *testing.T) {
	l := []api.Timer{at(2, 4), at(5, 1), at(5, 2), at(7, 0)}
	h := heap(t, at(5, 1), at(7, 0), at(5, 2), at(2, 4))
	for range 3 {
		h.Has(1)
		h.Has(8)
		h.Copy()
		h.Same(heap(t, at(2, 4)))
		h.Remove(8)
		h.Pop(1)
		h.Put(9, 2)
		is(t, h, l...)
	}
}

// P4.3: what goes at one time goes in the order of All, and stops ahead of the first one that comes later.
func TestPoppedAsTold(t *testing.T) {
	for now := range uint64(6) {
		h := heap(t)
		for i := range 40 {
			put(t, h, at(uint64(i*7%5), i))
		}
		told := h.All()
		for i, x := range told {
			if i > 0 && (told[i-1].At > x.At || told[i-1].At == x.At && told[i-1].ID > x.ID) {
				t.Fatalf("all: %v", told)
			}
		}
		for len(told) > 0 && told[0].At <= now {
			pops(t, h, now, told[0].ID)
			told = told[1:]
			is(t, h, told...)
		}
		popsNone(t, h, now)
	}
}

// P4.3: of many, each comes just once, or is removed.
func TestJustOnce(t *testing.T) {
	const many = 5000
	h := heap(t)
	for i := range many {
		put(t, h, at(uint64(i*2741%1009), i))
	}
	came := map[int]int{}
	for id := 0; id < many; id += 3 {
		if !h.Remove(id) || h.Remove(id) {
			t.Fatalf("remove(%d)", id)
		}
		came[id]++
	}
	var last uint64
	for {
		next, there := h.Next()
		id, went := h.Pop(top)
		if there != went {
			t.Fatalf("next %d, %v; popped %v", next, there, went)
		}
		if !went {
			break
		}
		if next < last || next != uint64(id*2741%1009) || h.Has(id) {
			t.Fatalf("pop: %d at %d behind %d", id, next, last)
		}
		came[id]++
		last = next
	}
	for id := range many {
		if came[id] != 1 {
			t.Fatalf("%d came %d times", id, came[id])
		}
	}
	is(t, h)
}
