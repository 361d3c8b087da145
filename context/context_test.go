package context

import (
	"math"
	"reflect"
	"slices"
	"testing"

	"helmsman/api"
)

const top = math.MaxUint64

func ref(i int, gen uint64) api.Ref { return api.Ref{Index: i, Gen: gen} }

// list is of refills, each told by its Amount and its At.
func list(l ...[2]uint64) []api.Refill {
	var r []api.Refill
	for _, x := range l {
		r = append(r, api.Refill{Amount: x[0], At: x[1]})
	}
	return r
}

// contexts are new ones, of which none is there.
func contexts(t *testing.T, size, most int) *Contexts {
	t.Helper()
	c, e := New(size, most)
	if e != api.OK {
		t.Fatalf("new(%d, %d): %v", size, most, e)
	}
	return c
}

func made(t *testing.T, c *Contexts, budget, period, now uint64) api.Ref {
	t.Helper()
	r, e := c.Make(budget, period, now)
	if e != api.OK {
		t.Fatalf("make(%d, %d, %d): %v", budget, period, now, e)
	}
	return r
}

func ok(t *testing.T, what string, e api.Errno) {
	t.Helper()
	if e != api.OK {
		t.Fatalf("%s: %v", what, e)
	}
}

// charged has one be charged so many times at a time.
func charged(t *testing.T, c *Contexts, r api.Ref, now uint64, many int) {
	t.Helper()
	for range many {
		if !c.Charge(r, now) {
			t.Fatalf("charge(%v, %d): no", r, now)
		}
	}
}

// is asks what a ref names.
func is(t *testing.T, c *Contexts, r api.Ref, budget, period uint64, bound int, refills ...[2]uint64) {
	t.Helper()
	want := api.Context{Budget: budget, Period: period, Refills: list(refills...), Bound: bound}
	if x, e := c.Get(r); e != api.OK || !reflect.DeepEqual(x, want) {
		t.Errorf("get(%v): %v, %v; want %v", r, x, e, want)
	}
}

// kept asks that something changes nothing.
func kept(t *testing.T, what string, c *Contexts, do func()) {
	t.Helper()
	was := c.Copy()
	do()
	if !reflect.DeepEqual(c, was) {
		t.Errorf("%s changed something", what)
	}
}

// named is a context, and what names it.
type named struct {
	ref     api.Ref
	context api.Context
}

func all(c *Contexts) []named {
	var l []named
	for r, x := range c.All() {
		l = append(l, named{r, x})
	}
	return l
}

// P8.1, P8.3: the chapter's own example.
func TestExample(t *testing.T) {
	c := contexts(t, 2, 4)
	r := made(t, c, 5, 10, 0)
	s, e := c.Split(r, 2, 1)
	if e != api.OK || r != ref(0, 1) || s != ref(1, 1) {
		t.Error(r, s, e)
	}
	is(t, c, r, 3, 10, 0, [2]uint64{3, 0})
	is(t, c, s, 2, 10, 0, [2]uint64{2, 1})
}

// P8.1
func TestNew(t *testing.T) {
	for _, x := range []struct {
		size, most int
		want       api.Errno
	}{
		{1, 2, api.OK}, {32, 2, api.OK}, {1, 16, api.OK}, {32, 16, api.OK}, {7, 5, api.OK},
		{0, 2, api.ErrArg}, {33, 2, api.ErrArg}, {-1, 2, api.ErrArg}, {4096, 2, api.ErrArg}, {math.MinInt, 2, api.ErrArg}, {math.MaxInt, 2, api.ErrArg},
		{1, 1, api.ErrArg}, {1, 0, api.ErrArg}, {1, -1, api.ErrArg}, {1, 17, api.ErrArg}, {1, math.MinInt, api.ErrArg}, {1, math.MaxInt, api.ErrArg},
		{0, 0, api.ErrArg}, {33, 17, api.ErrArg},
	} {
		c, e := New(x.size, x.most)
		if e != x.want || (c != nil) != (e == api.OK) {
			t.Errorf("new(%d, %d): %v, %v", x.size, x.most, c, e)
		}
		if l := all(c); c.Len() != 0 || l != nil {
			t.Errorf("new(%d, %d): %v", x.size, x.most, l)
		}
	}
}

// P8.1: there are as many places as was said, and they are taken as layer 2 takes them.
func TestMake(t *testing.T) {
	c := contexts(t, 32, 2)
	for i := range 32 {
		n := uint64(i)
		if r := made(t, c, 1+n, 2+n, n); r != ref(i, 1) {
			t.Errorf("the %dth: %v", i, r)
		}
		is(t, c, ref(i, 1), 1+n, 2+n, 0, [2]uint64{1 + n, n})
	}
	kept(t, "make", c, func() {
		if r, e := c.Make(1, 1, 0); e != api.ErrFull || r != (api.Ref{}) {
			t.Error("of full ones", r, e)
		}
	})
	ok(t, "drop", c.Drop(ref(4, 1)))
	ok(t, "drop", c.Drop(ref(2, 1)))
	if r := made(t, c, 7, 7, 7); r != ref(2, 2) {
		t.Error(r)
	}
	if r := made(t, c, 7, 7, 7); r != ref(4, 2) {
		t.Error(r)
	}
	is(t, c, ref(2, 2), 7, 7, 0, [2]uint64{7, 7})
}

// P8.1: the edges that may be, and those that may not, which are told also where there is no place.
func TestMakeEdges(t *testing.T) {
	for _, x := range []struct {
		budget, period, now uint64
		want                api.Errno
	}{
		{1, 1, 0, api.OK}, {1 << 32, 1, 0, api.OK}, {1, 1 << 32, 0, api.OK}, {1, 1, 1 << 60, api.OK}, {1 << 32, 1 << 32, 1 << 60, api.OK},
		{0, 1, 0, api.ErrArg}, {1<<32 + 1, 1, 0, api.ErrArg}, {top, 1, 0, api.ErrArg},
		{1, 0, 0, api.ErrArg}, {1, 1<<32 + 1, 0, api.ErrArg}, {1, top, 0, api.ErrArg},
		{1, 1, 1<<60 + 1, api.ErrArg}, {1, 1, top, api.ErrArg}, {0, 0, top, api.ErrArg},
	} {
		c := contexts(t, 1, 2)
		r, e := c.Make(x.budget, x.period, x.now)
		if e != x.want || (r == ref(0, 1)) != (e == api.OK) {
			t.Errorf("make(%d, %d, %d): %v, %v; want %v", x.budget, x.period, x.now, r, e, x.want)
		}
		if e == api.OK {
			is(t, c, r, x.budget, x.period, 0, [2]uint64{x.budget, x.now})
			x.want = api.ErrFull
		} else if c.Len() != 0 || r != (api.Ref{}) {
			t.Errorf("make(%d, %d, %d) left %v, %v", x.budget, x.period, x.now, r, all(c))
		} else {
			made(t, c, 1, 1, 0)
		}
		kept(t, "make", c, func() {
			if r, e = c.Make(x.budget, x.period, x.now); e != x.want || r != (api.Ref{}) {
				t.Errorf("make(%d, %d, %d) of full ones: %v, %v; want %v", x.budget, x.period, x.now, r, e, x.want)
			}
		})
	}
}

// P8.1 to P8.3: what a call that takes a ref answers of one that names nothing.
func asksStale(t *testing.T, c *Contexts, r, there api.Ref, want api.Errno) {
	t.Helper()
	if x, e := c.Get(r); e != want || !reflect.DeepEqual(x, api.Context{}) {
		t.Errorf("get(%v): %v, %v", r, x, e)
	}
	if c.Can(r, top) || c.Charge(r, 5) || c.Charge(r, top) {
		t.Errorf("%v: something is there", r)
	}
	if at, is := c.Next(r, 0); at != 0 || is {
		t.Errorf("next(%v): %d, %v", r, at, is)
	}
	l := []api.Errno{c.Bind(r), c.Unbind(r), c.Drop(r)}
	for _, amount := range []uint64{0, 1, 2, top} {
		for _, now := range []uint64{0, 5, 1<<60 + 1, top} {
			s, e := c.Split(r, amount, now)
			if s != (api.Ref{}) {
				t.Errorf("split(%v, %d, %d): %v", r, amount, now, s)
			}
			l = append(l, e, c.Donate(r, there, amount, now), c.Donate(there, r, amount, now), c.Donate(r, r, amount, now))
		}
	}
	for i, e := range l {
		if e != want {
			t.Errorf("%v, %dth call: %v; want %v", r, i, e, want)
		}
	}
}

// P8.1 to P8.3: stale comes ahead of whatever else is wrong, and changes nothing, also of what stands at that place now.
func TestStale(t *testing.T) {
	c := contexts(t, 4, 2)
	gone, there := made(t, c, 9, 9, 0), made(t, c, 9, 9, 0)
	ok(t, "drop", c.Drop(gone))
	empty := made(t, c, 9, 9, 0)
	ok(t, "bind", c.Bind(empty))
	last := made(t, c, 9, 9, 0)
	ok(t, "drop", c.Drop(last))
	made(t, c, 9, 9, 0)
	for _, r := range []api.Ref{gone, last, {}, ref(0, 0), ref(0, 3), ref(1, 2), ref(1, top), ref(2, 3), ref(3, 1), ref(4, 1), ref(32, 1), ref(-1, 1), ref(math.MinInt, 1), ref(math.MaxInt, 1)} {
		kept(t, "a stale ref", c, func() { asksStale(t, c, r, there, api.ErrStale) })
	}
	for _, r := range []api.Ref{gone, last} {
		kept(t, "a stale ref", c, func() { asksStale(t, c, r, last, api.ErrStale) })
	}
}

// P8.1 to P8.4: nil, and zero ones, are none; that is told ahead of whatever else is wrong.
func TestOfNone(t *testing.T) {
	for _, c := range []*Contexts{nil, {}} {
		for _, r := range []api.Ref{{}, ref(0, 1), ref(-1, 1)} {
			asksStale(t, c, r, ref(1, 1), api.ErrNil)
		}
		for _, n := range []uint64{0, 1, top} {
			if r, e := c.Make(n, n, n); e != api.ErrNil || r != (api.Ref{}) {
				t.Error("make", r, e)
			}
		}
		if n := c.Len(); n != 0 {
			t.Error("len", n)
		}
		if l := all(c); l != nil {
			t.Error("all", l)
		}
		if o := c.Copy(); o != nil {
			t.Error("copy", o)
		}
		for _, o := range []*Contexts{nil, {}} {
			if !c.Same(o) || !o.Same(c) {
				t.Error("not the same", c, o)
			}
		}
		if o := contexts(t, 1, 2); c.Same(o) || o.Same(c) {
			t.Error("the same as new ones")
		}
	}
}

// P8.1: what is answered shares nothing with what stays, nor with what is answered later.
func TestGetIsApart(t *testing.T) {
	c := contexts(t, 2, 4)
	r := made(t, c, 9, 10, 0)
	charged(t, c, r, 3, 2)
	charged(t, c, r, 4, 1)
	x, _ := c.Get(r)
	o := c.Copy()
	x.Budget, x.Period, x.Bound = 1, 1, 1
	for _, l := range [][]api.Refill{x.Refills, x.Refills[:cap(x.Refills)]} {
		for i := range l {
			l[i] = api.Refill{Amount: 77, At: 77}
		}
	}
	for _, c := range []*Contexts{c, o} {
		is(t, c, r, 9, 10, 0, [2]uint64{6, 0}, [2]uint64{2, 13}, [2]uint64{1, 14})
		charged(t, c, r, 5, 1)
		is(t, c, r, 9, 10, 0, [2]uint64{5, 0}, [2]uint64{2, 13}, [2]uint64{1, 14}, [2]uint64{1, 15})
	}
}

// P8.1
func TestDrop(t *testing.T) {
	c := contexts(t, 3, 2)
	a, b := made(t, c, 5, 5, 0), made(t, c, 6, 6, 0)
	ok(t, "bind", c.Bind(a))
	ok(t, "bind", c.Bind(a))
	for range 2 {
		kept(t, "drop", c, func() {
			if e := c.Drop(a); e != api.ErrBusy {
				t.Error("of one that is bound", e)
			}
		})
		ok(t, "unbind", c.Unbind(a))
	}
	ok(t, "drop", c.Drop(a))
	if e := c.Drop(a); e != api.ErrStale || c.Len() != 1 {
		t.Error("once more", e, c.Len())
	}
	is(t, c, b, 6, 6, 0, [2]uint64{6, 0})
	if r := made(t, c, 7, 7, 7); r != ref(0, 2) {
		t.Error(r)
	}
	is(t, c, ref(0, 2), 7, 7, 0, [2]uint64{7, 7})
}

// P8.2
func TestBind(t *testing.T) {
	c := contexts(t, 2, 2)
	a, b := made(t, c, 5, 5, 0), made(t, c, 6, 6, 0)
	for n := 1; n <= 70; n++ {
		ok(t, "bind", c.Bind(a))
		is(t, c, a, 5, 5, n, [2]uint64{5, 0})
	}
	is(t, c, b, 6, 6, 0, [2]uint64{6, 0})
	kept(t, "unbind", c, func() {
		if e := c.Unbind(b); e != api.ErrState {
			t.Error("where nothing is bound", e)
		}
	})
	for n := 69; n >= 0; n-- {
		ok(t, "unbind", c.Unbind(a))
		is(t, c, a, 5, 5, n, [2]uint64{5, 0})
	}
	if e := c.Unbind(a); e != api.ErrState {
		t.Error("where nothing is bound any more", e)
	}
}

// P8.2: what is used comes back a period later.
func TestCharge(t *testing.T) {
	c := contexts(t, 2, 3)
	r := made(t, c, 2, 10, 5)
	other := made(t, c, 2, 10, 5)
	looks := func(now uint64, can bool, next uint64) {
		t.Helper()
		kept(t, "can, next", c, func() {
			if c.Can(r, now) != can {
				t.Errorf("can at %d: not %v", now, can)
			}
			if at, is := c.Next(r, now); at != next || is != (next > 0) {
				t.Errorf("next at %d: %d, %v; want %d", now, at, is, next)
			}
		})
	}
	none := func(now uint64) {
		t.Helper()
		kept(t, "charge", c, func() {
			if c.Charge(r, now) {
				t.Errorf("charge at %d", now)
			}
		})
	}
	looks(4, false, 5)
	none(4)
	looks(5, true, 0)
	charged(t, c, r, 5, 1)
	is(t, c, r, 2, 10, 0, [2]uint64{1, 5}, [2]uint64{1, 15})
	looks(5, true, 15)
	charged(t, c, r, 8, 1)
	is(t, c, r, 2, 10, 0, [2]uint64{1, 15}, [2]uint64{1, 18})
	looks(8, false, 15)
	none(14)
	looks(14, false, 15)
	looks(15, true, 18)
	looks(18, true, 0)
	charged(t, c, r, 18, 1)
	is(t, c, r, 2, 10, 0, [2]uint64{1, 18}, [2]uint64{1, 28})
	is(t, c, other, 2, 10, 0, [2]uint64{2, 5})
}

// P8.2: where there is no room for one more refill, the last one waits.
func TestChargeOfFew(t *testing.T) {
	for _, x := range []struct {
		most int
		want [][2]uint64
	}{
		{2, [][2]uint64{{6, 0}, {4, 13}}},
		{3, [][2]uint64{{6, 0}, {1, 10}, {3, 13}}},
		{4, [][2]uint64{{6, 0}, {1, 10}, {1, 11}, {2, 13}}},
		{5, [][2]uint64{{6, 0}, {1, 10}, {1, 11}, {1, 12}, {1, 13}}},
		{16, [][2]uint64{{6, 0}, {1, 10}, {1, 11}, {1, 12}, {1, 13}}},
	} {
		c := contexts(t, 1, x.most)
		r := made(t, c, 10, 10, 0)
		for now := range uint64(4) {
			charged(t, c, r, now, 1)
		}
		is(t, c, r, 10, 10, 0, x.want...)
	}
}

// P8.2: at times above MaxTime nothing else is asked than what layer 7 asks.
func TestChargeLate(t *testing.T) {
	c := contexts(t, 1, 2)
	r := made(t, c, 3, 1<<32, 1<<60)
	charged(t, c, r, 1<<60, 1)
	charged(t, c, r, 1<<61, 1)
	is(t, c, r, 3, 1<<32, 0, [2]uint64{2, 1<<60 + 1<<32}, [2]uint64{1, 1<<61 + 1<<32})
	if !c.Can(r, top) || c.Charge(r, top) || c.Charge(r, top-1<<32+1) {
		t.Error("a time that does not fit")
	}
	if at, is := c.Next(r, 1<<61); at != 1<<61+1<<32 || !is {
		t.Error(at, is)
	}
	charged(t, c, r, top-1<<32, 1)
	is(t, c, r, 3, 1<<32, 0, [2]uint64{2, 1<<61 + 1<<32}, [2]uint64{1, top})
}

// used is a table of 3 with one of 10 in each 20, of which 3 are used at 4, and with one of 4 in each 5.
func used(t *testing.T) (*Contexts, api.Ref, api.Ref) {
	t.Helper()
	c := contexts(t, 3, 2)
	a, b := made(t, c, 10, 20, 0), made(t, c, 4, 5, 2)
	charged(t, c, a, 4, 3)
	ok(t, "bind", c.Bind(a))
	ok(t, "bind", c.Bind(b))
	return c, a, b
}

// P8.3
func TestSplit(t *testing.T) {
	for _, x := range []struct {
		amount, now uint64
		left        [][2]uint64
	}{
		{1, 4, [][2]uint64{{6, 0}, {3, 24}}}, {6, 5, [][2]uint64{{1, 0}, {3, 24}}}, {7, 5, [][2]uint64{{3, 24}}}, {7, 0, [][2]uint64{{3, 24}}}, {7, 23, [][2]uint64{{3, 24}}},
		{1, 24, [][2]uint64{{9, 24}}}, {8, 30, [][2]uint64{{2, 24}}}, {9, 30, [][2]uint64{{1, 24}}}, {9, 1 << 60, [][2]uint64{{1, 24}}},
	} {
		c, a, b := used(t)
		r, e := c.Split(a, x.amount, x.now)
		if e != api.OK || r != ref(2, 1) || c.Len() != 3 {
			t.Fatalf("split(%d, %d): %v, %v", x.amount, x.now, r, e)
		}
		is(t, c, a, 10-x.amount, 20, 1, x.left...)
		is(t, c, r, x.amount, 20, 0, [2]uint64{x.amount, x.now})
		is(t, c, b, 4, 5, 1, [2]uint64{4, 2})
	}
}

// P8.3: by which error, where several apply.
func TestSplitIsRefused(t *testing.T) {
	for _, full := range []bool{false, true} {
		for _, x := range []struct {
			amount, now uint64
			want        api.Errno
		}{
			{0, 5, api.ErrArg}, {1, 1<<60 + 1, api.ErrArg}, {1, top, api.ErrArg}, {0, top, api.ErrArg}, {8, 1<<60 + 1, api.ErrArg}, {10, top, api.ErrArg},
			{8, 5, api.ErrQuota}, {8, 23, api.ErrQuota}, {10, 5, api.ErrQuota}, {11, 5, api.ErrQuota}, {top, 5, api.ErrQuota},
			{10, 24, api.ErrQuota}, {11, 24, api.ErrQuota}, {10, 1 << 60, api.ErrQuota}, {top, 1 << 60, api.ErrQuota},
			{1, 5, api.ErrFull}, {7, 5, api.ErrFull}, {9, 24, api.ErrFull},
		} {
			c, a, _ := used(t)
			if full {
				made(t, c, 1, 1, 0)
			} else if x.want == api.ErrFull {
				continue
			}
			kept(t, "split", c, func() {
				if r, e := c.Split(a, x.amount, x.now); e != x.want || r != (api.Ref{}) {
					t.Errorf("split(%d, %d), full: %v: %v, %v; want %v", x.amount, x.now, full, r, e, x.want)
				}
			})
		}
	}
}

// P8.3: one of 1 can't be split, as nothing would stay; of one where nothing is there yet, nothing is.
func TestSplitOfLittle(t *testing.T) {
	c := contexts(t, 4, 2)
	a, b := made(t, c, 1, 9, 0), made(t, c, 9, 9, 50)
	for _, r := range []api.Ref{a, b} {
		if s, e := c.Split(r, 1, 49); e != api.ErrQuota || s != (api.Ref{}) {
			t.Error(r, s, e)
		}
	}
	if s, e := c.Split(b, 8, 50); e != api.OK || s != ref(2, 1) {
		t.Error(s, e)
	}
	is(t, c, b, 1, 9, 0, [2]uint64{1, 50})
}

// P8.3: what is there of the other one is so much more; else a refill comes ahead.
func TestDonate(t *testing.T) {
	for _, x := range []struct {
		amount, now uint64
		left, more  [][2]uint64
	}{
		{1, 4, [][2]uint64{{6, 0}, {3, 24}}, [][2]uint64{{5, 2}}},
		{6, 5, [][2]uint64{{1, 0}, {3, 24}}, [][2]uint64{{10, 2}}},
		{7, 5, [][2]uint64{{3, 24}}, [][2]uint64{{11, 2}}},
		{7, 1, [][2]uint64{{3, 24}}, [][2]uint64{{7, 1}, {4, 2}}},
		{9, 24, [][2]uint64{{1, 24}}, [][2]uint64{{13, 2}}},
		{9, 1 << 60, [][2]uint64{{1, 24}}, [][2]uint64{{13, 2}}},
	} {
		c, a, b := used(t)
		if e := c.Donate(a, b, x.amount, x.now); e != api.OK || c.Len() != 2 {
			t.Fatalf("donate(%d, %d): %v", x.amount, x.now, e)
		}
		is(t, c, a, 10-x.amount, 20, 1, x.left...)
		is(t, c, b, 4+x.amount, 5, 1, x.more...)
	}
}

// P8.3: by which error; what is refused changes neither of both.
func TestDonateIsRefused(t *testing.T) {
	for _, x := range []struct {
		from, to    int
		amount, now uint64
		want        api.Errno
	}{
		{0, 1, 0, 5, api.ErrArg}, {0, 1, 1, 1<<60 + 1, api.ErrArg}, {0, 1, 1, top, api.ErrArg}, {0, 1, 0, top, api.ErrArg}, {0, 1, 11, 1<<60 + 1, api.ErrArg},
		{0, 0, 1, 5, api.ErrArg}, {1, 1, 1, 5, api.ErrArg}, {0, 0, 0, 5, api.ErrArg}, {0, 0, 10, 5, api.ErrArg}, {0, 0, top, top, api.ErrArg},
		{0, 1, 8, 5, api.ErrQuota}, {0, 1, 10, 5, api.ErrQuota}, {0, 1, top, 5, api.ErrQuota}, {0, 1, 10, 24, api.ErrQuota}, {0, 1, 11, 24, api.ErrQuota},
		{1, 0, 4, 5, api.ErrQuota}, {1, 0, 3, 1, api.ErrQuota}, {1, 0, 5, 5, api.ErrQuota},
	} {
		c, a, b := used(t)
		l := []api.Ref{a, b}
		kept(t, "donate", c, func() {
			if e := c.Donate(l[x.from], l[x.to], x.amount, x.now); e != x.want {
				t.Errorf("donate(%v): %v", x, e)
			}
		})
	}
}

// P8.3: no Budget above MaxBudget comes; that is told behind what is not there, and ahead of what has no room.
func TestDonateOver(t *testing.T) {
	c := contexts(t, 3, 2)
	a := made(t, c, 1<<32, 10, 0)
	b := made(t, c, 1<<32-3, 10, 0)
	d := made(t, c, 1<<32-3, 10, 0)
	charged(t, c, d, 1, 1)
	ok(t, "donate", c.Donate(d, b, 3, 1))
	is(t, c, b, 1<<32, 10, 0, [2]uint64{1 << 32, 0})
	is(t, c, d, 1<<32-6, 10, 0, [2]uint64{1<<32 - 7, 0}, [2]uint64{1, 11})
	for _, x := range []struct {
		from, to api.Ref
		amount   uint64
		want     api.Errno
	}{
		{a, b, 1, api.ErrOver}, {a, b, 1<<32 - 1, api.ErrOver}, {a, b, 1 << 32, api.ErrQuota}, {a, b, top, api.ErrQuota},
		{a, d, 7, api.ErrOver}, {b, a, 1, api.ErrOver}, {d, a, 1<<32 - 7, api.ErrOver}, {d, a, 1<<32 - 6, api.ErrQuota}, {d, a, top, api.ErrQuota},
		{a, d, 6, api.OK}, {a, d, 1, api.ErrOver},
	} {
		was := c.Copy()
		if e := c.Donate(x.from, x.to, x.amount, 1); e != x.want {
			t.Errorf("donate(%v): %v", x, e)
		}
		if x.want != api.OK && !c.Same(was) {
			t.Errorf("donate(%v) changed something", x)
		}
	}
	is(t, c, d, 1<<32, 10, 0, [2]uint64{1<<32 - 1, 0}, [2]uint64{1, 11})
}

// P8.3: where nothing is there, there has to be room for one more refill.
func TestDonateFull(t *testing.T) {
	for most := 2; most <= 16; most++ {
		c := contexts(t, 2, most)
		a, b := made(t, c, 40, 10, 0), made(t, c, uint64(most), 100, 0)
		last := uint64(most) - 1
		for now := range last {
			charged(t, c, b, now, 1)
		}
		ok(t, "donate, where one is there", c.Copy().Donate(a, b, 39, last))
		charged(t, c, b, last, 1)
		x, _ := c.Get(b)
		if len(x.Refills) != most || c.Can(b, 99) {
			t.Fatal(x)
		}
		kept(t, "donate", c, func() {
			for amount, want := range map[uint64]api.Errno{1: api.ErrFull, 39: api.ErrFull, 40: api.ErrQuota, 0: api.ErrArg} {
				if e := c.Donate(a, b, amount, 99); e != want {
					t.Errorf("most %d, donate %d: %v; want %v", most, amount, e, want)
				}
			}
		})
		ok(t, "donate", c.Donate(a, b, 39, 100))
		if x, _ := c.Get(b); x.Budget != uint64(most)+39 || x.Refills[0] != (api.Refill{Amount: 40, At: 100}) || len(x.Refills) != most {
			t.Error(x)
		}
	}
}

// P8.3: of one that would be above MaxBudget, and has no room, the first is told.
func TestDonateOverAheadOfFull(t *testing.T) {
	c := contexts(t, 3, 2)
	a, b := made(t, c, 1<<32-3, 10, 1), made(t, c, 9, 10, 0)
	charged(t, c, a, 1, 1)
	some := made(t, c, 2, 10, 0)
	charged(t, c, some, 0, 1)
	charged(t, c, some, 1, 1)
	kept(t, "donate", c, func() {
		if e := c.Donate(a, some, 1<<32-5, 1); e != api.ErrFull {
			t.Error(e)
		}
	})
	ok(t, "donate", c.Donate(a, b, 1<<32-9, 1))
	is(t, c, b, 1<<32, 10, 0, [2]uint64{1 << 32, 0})
	kept(t, "donate", c, func() {
		if e := c.Donate(b, some, 1<<32-2, 1); e != api.ErrFull {
			t.Error("just fits", e)
		}
		if e := c.Donate(b, some, 1<<32-1, 1); e != api.ErrOver {
			t.Error("does not fit", e)
		}
		if e := c.Donate(b, some, 1<<32, 1); e != api.ErrQuota {
			t.Error("nothing would stay", e)
		}
	})
}

// some is a table of 5 with contexts at the places 0, 1, 3, of which the first one came last.
func some(t *testing.T) *Contexts {
	t.Helper()
	c := contexts(t, 5, 3)
	for i := range uint64(4) {
		made(t, c, 5+i, 10+i, i)
	}
	ok(t, "drop", c.Drop(ref(2, 1)))
	ok(t, "drop", c.Drop(ref(0, 1)))
	made(t, c, 4, 4, 4)
	charged(t, c, ref(1, 1), 3, 2)
	ok(t, "bind", c.Bind(ref(3, 1)))
	return c
}

// wantSome are those of some.
func wantSome() []named {
	return []named{
		{ref(0, 2), api.Context{Budget: 4, Period: 4, Refills: list([2]uint64{4, 4})}},
		{ref(1, 1), api.Context{Budget: 6, Period: 11, Refills: list([2]uint64{4, 1}, [2]uint64{2, 14})}},
		{ref(3, 1), api.Context{Budget: 8, Period: 13, Refills: list([2]uint64{8, 3}), Bound: 1}},
	}
}

// P8.4: rising by places, as often as one likes; what was done to those that came is not seen later.
func TestAll(t *testing.T) {
	c := some(t)
	seq := c.All()
	for range 3 {
		var l []named
		for r, x := range seq {
			l = append(l, named{r, x})
		}
		if !reflect.DeepEqual(l, wantSome()) {
			t.Error(l)
		}
		for _, n := range l {
			for i := range n.context.Refills {
				n.context.Refills[i].Amount += 9
			}
		}
	}
	if l := all(c); !reflect.DeepEqual(l, wantSome()) || c.Len() != 3 {
		t.Error("later", l)
	}
}

// P8.4: who leaves behind so many has just these, and is not called any more; then all are there anew.
func TestAllIsLeft(t *testing.T) {
	seq := some(t).All()
	for leave := 1; leave <= 3; leave++ {
		var l []int
		seq(func(r api.Ref, x api.Context) bool {
			l = append(l, r.Index)
			return len(l) < leave
		})
		if !slices.Equal(l, []int{0, 1, 3}[:leave]) {
			t.Errorf("left behind %d: %v", leave, l)
		}
	}
}

// P8.4: as they are when All is called, whatever is done between that and the going over, or within it.
func TestAllIsAsItWas(t *testing.T) {
	c := some(t)
	seq := c.All()
	charged(t, c, ref(1, 1), 14, 3)
	ok(t, "bind", c.Bind(ref(0, 2)))
	ok(t, "donate", c.Donate(ref(3, 1), ref(0, 2), 2, 9))
	var l []named
	for r, x := range seq {
		l = append(l, named{r, x})
		charged(t, c, ref(3, 1), 9, 1)
		if len(l) == 1 {
			ok(t, "drop", c.Drop(ref(1, 1)))
		}
		made(t, c, 1, 1, 1)
	}
	if !reflect.DeepEqual(l, wantSome()) {
		t.Error(l)
	}
	none := contexts(t, 2, 2)
	seq = none.All()
	made(t, none, 1, 1, 1)
	for r, x := range seq {
		t.Error("none was there", r, x)
	}
}

// P8.4: one going over them goes on, whatever another one does within it.
func TestAllWithin(t *testing.T) {
	seq := some(t).All()
	var l []int
	for r := range seq {
		for s := range seq {
			if s.Index > r.Index {
				break
			}
			l = append(l, 10*r.Index+s.Index)
		}
	}
	if !slices.Equal(l, []int{0, 10, 11, 30, 31, 33}) {
		t.Error(l)
	}
}

// P8.4
func TestLen(t *testing.T) {
	c := contexts(t, 3, 2)
	a := made(t, c, 5, 5, 0)
	s, e := c.Split(a, 2, 0)
	ok(t, "split", e)
	if n := c.Len(); n != 2 {
		t.Error(n)
	}
	ok(t, "drop", c.Drop(a))
	if n := c.Len(); n != 1 {
		t.Error(n)
	}
	ok(t, "drop", c.Drop(s))
	if n := c.Len(); n != 0 {
		t.Error(n)
	}
}

// P8.4: the same contexts, free places, and room for refills; and they go on apart, neither way seen.
func TestCopy(t *testing.T) {
	for _, swap := range []bool{false, true} {
		a := some(t)
		b := a.Copy()
		if !a.Same(b) || !b.Same(a) {
			t.Error("not the same")
		}
		if swap {
			a, b = b, a
		}
		charged(t, a, ref(0, 2), 4, 1)
		charged(t, a, ref(1, 1), 4, 1)
		ok(t, "bind", a.Bind(ref(0, 2)))
		ok(t, "unbind", a.Unbind(ref(3, 1)))
		ok(t, "donate", a.Donate(ref(3, 1), ref(0, 2), 3, 4))
		if r, e := a.Split(ref(3, 1), 1, 5); e != api.OK || r != ref(2, 2) {
			t.Error(r, e)
		}
		ok(t, "drop", a.Drop(ref(1, 1)))
		if l := all(b); !reflect.DeepEqual(l, wantSome()) || b.Len() != 3 {
			t.Error(l)
		}
		is(t, a, ref(0, 2), 7, 4, 1, [2]uint64{6, 4}, [2]uint64{1, 8})
		is(t, a, ref(3, 1), 4, 13, 0, [2]uint64{4, 3})
		for _, want := range []api.Ref{ref(2, 2), ref(4, 1)} {
			if r := made(t, b, 1, 1, 1); r != want {
				t.Error(r)
			}
		}
		if _, e := b.Make(1, 1, 1); e != api.ErrFull {
			t.Error(e)
		}
		charged(t, b, ref(1, 1), 5, 1)
		charged(t, b, ref(1, 1), 6, 1)
		is(t, b, ref(1, 1), 6, 11, 0, [2]uint64{2, 1}, [2]uint64{2, 14}, [2]uint64{2, 17})
	}
}

// P8.4: each thing that may differ.
func TestSame(t *testing.T) {
	for i, change := range []func(c *Contexts){
		func(c *Contexts) { c.Charge(ref(1, 1), 3) },
		func(c *Contexts) { c.Bind(ref(1, 1)) },
		func(c *Contexts) { c.Unbind(ref(3, 1)) },
		func(c *Contexts) { c.Drop(ref(0, 2)) },
		func(c *Contexts) { c.Drop(ref(1, 1)) },
		func(c *Contexts) { c.Make(1, 1, 1) },
		func(c *Contexts) { c.Split(ref(1, 1), 1, 3) },
		func(c *Contexts) { c.Donate(ref(1, 1), ref(0, 2), 1, 4) },
		func(c *Contexts) { c.Drop(ref(0, 2)); c.Make(4, 4, 4) },
		func(c *Contexts) { c.Drop(ref(0, 2)); c.Make(1, 1, 1); c.Drop(ref(0, 3)); c.Make(4, 4, 4) },
	} {
		a, b := some(t), some(t)
		if !a.Same(b) || !a.Same(a) {
			t.Fatal("not the same")
		}
		change(b)
		if a.Same(b) || b.Same(a) {
			t.Errorf("the same behind change %d", i)
		}
	}
	for _, o := range [][4]uint64{{4, 2, 5, 10}, {3, 3, 5, 10}, {3, 2, 6, 10}, {3, 2, 5, 11}} {
		a, b := contexts(t, 3, 2), contexts(t, int(o[0]), int(o[1]))
		if a.Same(b) != (o[0] == 3 && o[1] == 2) || a.Same(b) != b.Same(a) {
			t.Error("without contexts", o)
		}
		made(t, a, 5, 10, 0)
		made(t, b, o[2], o[3], 0)
		if a.Same(b) || b.Same(a) {
			t.Error(o)
		}
	}
}

// P8.4: by which way they came to be as they are, and which places are free, is not asked.
func TestSameOfOtherWays(t *testing.T) {
	a, b := contexts(t, 4, 2), contexts(t, 4, 2)
	for _, i := range []int{0, 1, 2} {
		made(t, a, uint64(5+i), 5, 0)
		made(t, b, uint64(5+i), 5, 0)
	}
	for _, l := range [][]int{{0, 1}, {1, 0}} {
		ok(t, "drop", a.Drop(ref(l[0], 1)))
		ok(t, "drop", b.Drop(ref(l[1], 1)))
	}
	made(t, b, 1, 1, 1)
	if a.Same(b) || b.Same(a) {
		t.Error("one more is there")
	}
	ok(t, "drop", b.Drop(ref(0, 2)))
	if !a.Same(b) || !b.Same(a) {
		t.Error("not the same")
	}
	for _, x := range []struct {
		c    *Contexts
		want api.Ref
	}{{a, ref(1, 2)}, {b, ref(0, 3)}} {
		if r, e := x.c.Split(ref(2, 1), 3, 0); e != api.OK || r != x.want {
			t.Error(r, e)
		}
	}
	if a.Same(b) || b.Same(a) {
		t.Error("at other refs")
	}
}
