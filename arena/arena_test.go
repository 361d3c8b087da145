package arena

import (
	"math"
	"reflect"
	"slices"
	"testing"

	"helmsman/api"
)

// top is the greatest number; the last generation is one less.
const top = math.MaxUint64

func ref(i int, gen uint64) api.Ref { return api.Ref{Index: i, Gen: gen} }

// table is a new one, with these things in it.
func table(t *testing.T, size int, first uint64, things ...string) *Table[string] {
	t.Helper()
	a, e := New[string](size, first)
	if e != api.OK {
		t.Fatalf("new(%d, %d): %v", size, first, e)
	}
	for _, x := range things {
		put(t, a, x)
	}
	return a
}

func put[T any](t *testing.T, a *Table[T], x T) api.Ref {
	t.Helper()
	r, e := a.Put(x)
	if e != api.OK {
		t.Fatalf("put(%v): %v", x, e)
	}
	return r
}

func drop[T any](t *testing.T, a *Table[T], r api.Ref) {
	t.Helper()
	if e := a.Drop(r); e != api.OK {
		t.Fatalf("drop(%v): %v", r, e)
	}
}

// has asks for what a ref names.
func has[T comparable](t *testing.T, a *Table[T], r api.Ref, want T) {
	t.Helper()
	if x, e := a.Get(r); e != api.OK || x != want {
		t.Errorf("get(%v): %v, %v; want %v", r, x, e, want)
	}
}

// stale asks all that takes a ref, of one that names nothing; nothing may be changed by it.
func stale[T comparable](t *testing.T, a *Table[T], r api.Ref, other T) {
	t.Helper()
	var zero T
	was := a.Copy()
	if x, e := a.Get(r); e != api.ErrStale || x != zero {
		t.Errorf("get(%v), stale: %v, %v", r, x, e)
	}
	if e := a.Set(r, other); e != api.ErrStale {
		t.Errorf("set(%v), stale: %v", r, e)
	}
	if e := a.Drop(r); e != api.ErrStale {
		t.Errorf("drop(%v), stale: %v", r, e)
	}
	if !reflect.DeepEqual(a, was) {
		t.Errorf("a stale ref %v changed something", r)
	}
}

// counts asks for how many things there are, how many places, free ones, and retired ones.
func counts[T any](t *testing.T, a *Table[T], l, size, free, retired int) {
	t.Helper()
	if a.Len() != l || a.Size() != size || a.Free() != free || a.Retired() != retired {
		t.Errorf("len, size, free, retired: %d %d %d %d; want %d %d %d %d", a.Len(), a.Size(), a.Free(), a.Retired(), l, size, free, retired)
	}
}

// pair is a thing, and what names it.
type pair[T any] struct {
	ref   api.Ref
	thing T
}

func all[T any](a *Table[T]) []pair[T] {
	var l []pair[T]
	for r, x := range a.All() {
		l = append(l, pair[T]{r, x})
	}
	return l
}

// P2.1
func TestNewIsRefused(t *testing.T) {
	for _, c := range []struct {
		size  int
		first uint64
		want  api.Errno
	}{
		{1, 1, api.OK}, {2, 1, api.OK}, {4095, 7, api.OK}, {4096, 1, api.OK}, {1, top - 1, api.OK}, {4096, top - 1, api.OK},
		{0, 1, api.ErrArg}, {-1, 1, api.ErrArg}, {math.MinInt, 1, api.ErrArg}, {4097, 1, api.ErrArg}, {math.MaxInt, 1, api.ErrArg},
		{1, 0, api.ErrArg}, {1, top, api.ErrArg}, {4096, top, api.ErrArg}, {0, 0, api.ErrArg},
	} {
		a, e := New[int](c.size, c.first)
		if e != c.want || (a != nil) != (e == api.OK) {
			t.Errorf("new(%d, %d): %v, %v", c.size, c.first, a, e)
		}
		if e == api.OK {
			counts(t, a, 0, c.size, c.size, 0)
		}
	}
	if MaxSize != 4096 {
		t.Error(MaxSize)
	}
}

// P2.1: the chapter's own example.
func TestExample(t *testing.T) {
	a := table(t, 2, 1)
	for i, x := range []string{"a", "b"} {
		if r, e := a.Put(x); e != api.OK || r != ref(i, 1) {
			t.Errorf("put(%s): %v, %v", x, r, e)
		}
	}
	if r, e := a.Put("c"); e != api.ErrFull || r != (api.Ref{}) {
		t.Errorf("put into a full one: %v, %v", r, e)
	}
	drop(t, a, ref(0, 1))
	if r := put(t, a, "c"); r != ref(0, 2) {
		t.Errorf("put anew: %v", r)
	}
	stale(t, a, ref(0, 1), "d")
	has(t, a, ref(0, 2), "c")
	has(t, a, ref(1, 1), "b")
}

// P2.1: what is refused for lack of room changes nothing.
func TestFull(t *testing.T) {
	a := table(t, MaxSize, 3)
	for i := range MaxSize {
		if r := put(t, a, "x"); r != ref(i, 3) {
			t.Fatalf("put %d: %v", i, r)
		}
	}
	counts(t, a, MaxSize, MaxSize, 0, 0)
	was := a.Copy()
	if r, e := a.Put("y"); e != api.ErrFull || r != (api.Ref{}) || !reflect.DeepEqual(a, was) {
		t.Errorf("one more: %v, %v", r, e)
	}
	drop(t, a, ref(MaxSize-1, 3))
	if r := put(t, a, "y"); r != ref(MaxSize-1, 4) {
		t.Errorf("at the last place: %v", r)
	}
}

// P2.1
func TestGetSetDrop(t *testing.T) {
	a := table(t, 3, 5, "a", "b", "c")
	if e := a.Set(ref(1, 5), "B"); e != api.OK {
		t.Error(e)
	}
	has(t, a, ref(0, 5), "a")
	has(t, a, ref(1, 5), "B")
	has(t, a, ref(2, 5), "c")
	drop(t, a, ref(1, 5))
	stale(t, a, ref(1, 5), "d")
	has(t, a, ref(0, 5), "a")
	has(t, a, ref(2, 5), "c")
	counts(t, a, 2, 3, 1, 0)
}

// P2.1: no such place, nothing there, another generation.
func TestWrongRefs(t *testing.T) {
	a := table(t, 3, 5, "a", "b")
	drop(t, a, ref(1, 5))
	for _, r := range []api.Ref{
		{}, ref(-1, 5), ref(3, 5), ref(math.MinInt, 5), ref(math.MaxInt, 5), ref(4096, 5),
		ref(0, 0), ref(0, 4), ref(0, 6), ref(0, top), ref(1, 5), ref(1, 6), ref(2, 5), ref(2, 0),
	} {
		stale(t, a, r, "z")
	}
}

// P2.1: zero is a thing like any other.
func TestZeroThings(t *testing.T) {
	a := table(t, 2, 1, "")
	has(t, a, ref(0, 1), "")
	counts(t, a, 1, 2, 1, 0)
	if l := all(a); !slices.Equal(l, []pair[string]{{ref(0, 1), ""}}) {
		t.Error(l)
	}
}

// P2.1: what was freed last is taken first, all that was freed ahead of all that was never taken, and of these the least.
func TestWhichPlaceIsTaken(t *testing.T) {
	a := table(t, 6, 1, "a", "b", "c", "d")
	for _, i := range []int{1, 3, 0} {
		drop(t, a, ref(i, 1))
	}
	for _, want := range []api.Ref{ref(0, 2), ref(3, 2)} {
		if r := put(t, a, "e"); r != want {
			t.Errorf("put: %v, want %v", r, want)
		}
	}
	drop(t, a, ref(2, 1))
	for _, want := range []api.Ref{ref(2, 2), ref(1, 2), ref(4, 1), ref(5, 1)} {
		if r := put(t, a, "f"); r != want {
			t.Errorf("put: %v, want %v", r, want)
		}
	}
	counts(t, a, 6, 6, 0, 0)
}

// P2.1, P2.2: of the last generation there is one; behind it nothing comes to that place.
func TestRetired(t *testing.T) {
	a := table(t, 2, top-2, "a")
	drop(t, a, ref(0, top-2))
	counts(t, a, 0, 2, 2, 0)
	if r := put(t, a, "b"); r != ref(0, top-1) {
		t.Errorf("of the last generation: %v", r)
	}
	drop(t, a, ref(0, top-1))
	counts(t, a, 0, 2, 1, 1)
	for gen := uint64(top - 3); gen != 2; gen++ {
		stale(t, a, ref(0, gen), "x")
	}
	if r := put(t, a, "c"); r != ref(1, top-2) {
		t.Errorf("past a retired place: %v", r)
	}
	if r, e := a.Put("d"); e != api.ErrFull || r != (api.Ref{}) {
		t.Errorf("a retired place is not free: %v, %v", r, e)
	}
	counts(t, a, 1, 2, 0, 1)
	if _, is := a.At(0); is {
		t.Error("something is at a retired place")
	}
}

// P2.1, P2.2
func TestRetiredAtOnce(t *testing.T) {
	a := table(t, 1, top-1, "a")
	has(t, a, ref(0, top-1), "a")
	drop(t, a, ref(0, top-1))
	counts(t, a, 0, 1, 0, 1)
	stale(t, a, ref(0, top-1), "b")
	stale(t, a, ref(0, top), "b")
	if _, e := a.Put("b"); e != api.ErrFull {
		t.Error(e)
	}
	if l := all(a); l != nil {
		t.Error(l)
	}
}

// P2.1 to P2.3: nil, and a zero one, are none; a wrong ref or a wrong place of theirs is no other error.
func TestOfNoTable(t *testing.T) {
	for _, a := range []*Table[int]{nil, {}} {
		if r, e := a.Put(3); e != api.ErrNil || r != (api.Ref{}) {
			t.Error("put", r, e)
		}
		for _, r := range []api.Ref{{}, ref(0, 1), ref(-1, 1)} {
			if x, e := a.Get(r); e != api.ErrNil || x != 0 {
				t.Error("get", x, e)
			}
			if e := a.Set(r, 4); e != api.ErrNil {
				t.Error("set", e)
			}
			if e := a.Drop(r); e != api.ErrNil {
				t.Error("drop", e)
			}
			if at, is := a.At(r.Index); is || at != (api.Ref{}) {
				t.Error("at", at)
			}
		}
		counts(t, a, 0, 0, 0, 0)
		if l := all(a); l != nil {
			t.Error("all", l)
		}
		if c := a.Copy(); c != nil {
			t.Error("copy", c)
		}
	}
}

// P2.2
func TestAt(t *testing.T) {
	a := table(t, 4, 9, "a", "b", "c")
	drop(t, a, ref(0, 9))
	drop(t, a, ref(1, 9))
	put(t, a, "d")
	for i, want := range map[int]api.Ref{0: {}, 1: ref(1, 10), 2: ref(2, 9), 3: {}, -1: {}, 4: {}, math.MinInt: {}, math.MaxInt: {}} {
		if r, is := a.At(i); r != want || is != (want.Gen != 0) {
			t.Errorf("at(%d): %v, %v", i, r, is)
		}
	}
}

// P2.2
func TestCounts(t *testing.T) {
	a := table(t, 3, top-1)
	counts(t, a, 0, 3, 3, 0)
	put(t, a, "a")
	put(t, a, "b")
	counts(t, a, 2, 3, 1, 0)
	drop(t, a, ref(0, top-1))
	counts(t, a, 1, 3, 1, 1)
	if e := a.Set(ref(1, top-1), "c"); e != api.OK {
		t.Error(e)
	}
	counts(t, a, 1, 3, 1, 1)
}

// P2.2: rising by places, in whichever order things came.
func TestAll(t *testing.T) {
	a := table(t, 5, 1, "a", "b", "c", "d")
	drop(t, a, ref(2, 1))
	drop(t, a, ref(0, 1))
	put(t, a, "e")
	want := []pair[string]{{ref(0, 2), "e"}, {ref(1, 1), "b"}, {ref(3, 1), "d"}}
	seq := a.All()
	for range 2 {
		var l []pair[string]
		for r, x := range seq {
			l = append(l, pair[string]{r, x})
		}
		if !slices.Equal(l, want) {
			t.Error(l)
		}
	}
	if l := all(table(t, 5, 1)); l != nil {
		t.Error("of an empty one", l)
	}
}

// P2.2: who leaves behind so many has just these, and is not called any more; then all are there anew.
func TestAllIsLeft(t *testing.T) {
	a := table(t, 4, 1, "a", "b", "c", "d")
	seq := a.All()
	for leave := 1; leave <= 4; leave++ {
		var l []int
		seq(func(r api.Ref, x string) bool {
			l = append(l, r.Index)
			return len(l) < leave
		})
		if !slices.Equal(l, []int{0, 1, 2, 3}[:leave]) {
			t.Errorf("left behind %d: %v", leave, l)
		}
	}
}

// P2.2: as it is when All is called, whatever is done between that and the going through, or within it.
func TestAllIsAsItWas(t *testing.T) {
	a := table(t, 4, 1, "a", "b", "c")
	want := all(a)
	seq := a.All()
	drop(t, a, ref(0, 1))
	put(t, a, "d")
	if e := a.Set(ref(1, 1), "B"); e != api.OK {
		t.Error(e)
	}
	var l []pair[string]
	for r, x := range seq {
		l = append(l, pair[string]{r, x})
		if now, is := a.At(2); is {
			drop(t, a, now)
			put(t, a, "e")
			put(t, a, "f")
		}
		drop(t, a, ref(3, uint64(len(l))))
	}
	if !slices.Equal(l, want) {
		t.Error(l)
	}
}

// P2.2: an empty one stays empty for who asked when it was.
func TestAllOfWhatWasEmpty(t *testing.T) {
	a := table(t, 2, 1)
	seq := a.All()
	put(t, a, "a")
	for r, x := range seq {
		t.Error(r, x)
	}
}

// P2.2: one going through goes on, whatever another one does within it.
func TestAllWithin(t *testing.T) {
	seq := table(t, 3, 1, "a", "b", "c").All()
	var l []string
	for _, x := range seq {
		for _, y := range seq {
			if y > x {
				break
			}
			l = append(l, x+y)
		}
	}
	if !slices.Equal(l, []string{"aa", "ba", "bb", "ca", "cb", "cc"}) {
		t.Error(l)
	}
}

// refs are those under which the next things come, till there is no room.
func refs(a *Table[string]) []api.Ref {
	var l []api.Ref
	for r, e := a.Put("n"); e == api.OK; r, e = a.Put("n") {
		l = append(l, r)
	}
	return l
}

// P2.3: the same things under the same refs, and the same places in the same order.
func TestCopy(t *testing.T) {
	a := table(t, 7, top-2, "a", "b", "c", "d", "e")
	for _, i := range []int{3, 1, 4} {
		drop(t, a, ref(i, top-2))
	}
	put(t, a, "f")
	drop(t, a, ref(4, top-1))
	c := a.Copy()
	if !reflect.DeepEqual(all(c), all(a)) {
		t.Error(all(c), all(a))
	}
	counts(t, c, 2, 7, 4, 1)
	want := []api.Ref{ref(1, top-1), ref(3, top-1), ref(5, top-2), ref(6, top-2)}
	if l := refs(c); !slices.Equal(l, want) {
		t.Error("of the copy", l)
	}
	counts(t, a, 2, 7, 4, 1)
	if l := refs(a); !slices.Equal(l, want) {
		t.Error("of the first one", l)
	}
}

// P2.3: what is done to the one is not seen of the other one, neither way; also where both free other places.
func TestCopyGoesOnApart(t *testing.T) {
	for _, swap := range []bool{false, true} {
		a := table(t, 5, 1, "a", "b", "c", "d")
		drop(t, a, ref(3, 1))
		b := a.Copy()
		if swap {
			a, b = b, a
		}
		if e := a.Set(ref(0, 1), "A"); e != api.OK {
			t.Error(e)
		}
		drop(t, a, ref(1, 1))
		drop(t, b, ref(2, 1))
		has(t, a, ref(0, 1), "A")
		has(t, b, ref(0, 1), "a")
		stale(t, a, ref(1, 1), "x")
		has(t, b, ref(1, 1), "b")
		has(t, a, ref(2, 1), "c")
		stale(t, b, ref(2, 1), "x")
		if l := refs(a); !slices.Equal(l, []api.Ref{ref(1, 2), ref(3, 2), ref(4, 1)}) {
			t.Error(l)
		}
		if l := refs(b); !slices.Equal(l, []api.Ref{ref(2, 2), ref(3, 2), ref(4, 1)}) {
			t.Error(l)
		}
	}
}

// P2.3: a thing is copied as a value: what an array has goes apart, what a pointer points at is the same.
func TestThingsAreValues(t *testing.T) {
	type thing struct {
		own    [2]int
		shared *int
	}
	a, _ := New[thing](1, 1)
	r := put(t, a, thing{[2]int{1, 2}, new(int)})
	c := a.Copy()
	x, _ := c.Get(r)
	x.own[0] = 9
	*x.shared = 7
	if y, e := a.Get(r); e != api.OK || y.own != [2]int{1, 2} || y.shared != x.shared || *y.shared != 7 {
		t.Error(y, e)
	}
	if y, e := c.Get(r); e != api.OK || y.own != [2]int{1, 2} {
		t.Error(y, e)
	}
}

// P2.4, P0.3: whatever stands at its place now, what a stale ref named is gone, and the newcomer is let be.
func TestStaleForEver(t *testing.T) {
	a := table(t, 1, 1)
	var gone []api.Ref
	for i := range 50 {
		r := put(t, a, "x")
		if r != ref(0, uint64(i+1)) {
			t.Errorf("the %dth one: %v", i, r)
		}
		for _, g := range gone {
			stale(t, a, g, "y")
		}
		has(t, a, r, "x")
		drop(t, a, r)
		gone = append(gone, r)
	}
}
