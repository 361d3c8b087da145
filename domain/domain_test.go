package domain

import (
	"math"
	"reflect"
	"slices"
	"testing"

	"helmsman/api"
)

const top = math.MaxUint64

func ref(i int, gen uint64) api.Ref { return api.Ref{Index: i, Gen: gen} }

// root is the root's ref.
var root = ref(0, 1)

// domains are new ones: the root alone.
func domains(t *testing.T, size, gs int, cpu, period uint64) *Domains {
	t.Helper()
	d, e := New(size, gs, cpu, period)
	if e != api.OK {
		t.Fatalf("new(%d, %d, %d, %d): %v", size, gs, cpu, period, e)
	}
	return d
}

func carved(t *testing.T, d *Domains, r api.Ref, gs int, cpu, period uint64) api.Ref {
	t.Helper()
	c, e := d.Carve(r, gs, cpu, period)
	if e != api.OK {
		t.Fatalf("carve(%v, %d, %d, %d): %v", r, gs, cpu, period, e)
	}
	return c
}

func ok(t *testing.T, what string, e api.Errno) {
	t.Helper()
	if e != api.OK {
		t.Fatalf("%s: %v", what, e)
	}
}

// joined has so many more be its own.
func joined(t *testing.T, d *Domains, r api.Ref, many int) {
	t.Helper()
	for range many {
		ok(t, "join", d.Join(r))
	}
}

// is asks what a ref names, and what is left of that.
func is(t *testing.T, d *Domains, r api.Ref, want api.Domain) {
	t.Helper()
	if x, e := d.Get(r); e != api.OK || x != want {
		t.Errorf("get(%v): %+v, %v; want %+v", r, x, e, want)
	}
	if gs, cpu, e := d.Share(r); e != api.OK || gs != want.Gs-want.CarvedGs || cpu != want.CPU-want.Carved {
		t.Errorf("share(%v): %d, %d, %v of %+v", r, gs, cpu, e, want)
	}
}

// kept asks that something changes nothing.
func kept(t *testing.T, what string, d *Domains, do func()) {
	t.Helper()
	was := d.Copy()
	do()
	if !reflect.DeepEqual(d, was) {
		t.Errorf("%s changed something", what)
	}
}

// P9.1 to P9.3: the chapter's own example.
func TestExample(t *testing.T) {
	d := domains(t, 2, 4, 10, 1)
	carved(t, d, d.Root(), 3, 6, 1)
	ok(t, "join", d.Join(d.Root()))
	kept(t, "join", d, func() {
		if e := d.Join(d.Root()); e != api.ErrQuota {
			t.Error("join once more", e)
		}
	})
	kept(t, "carve", d, func() {
		if r, e := d.Carve(d.Root(), 1, 5, 1); e != api.ErrQuota || r != (api.Ref{}) {
			t.Error("carve", r, e)
		}
	})
}

// P9.1: the edges that may be, and those that may not.
func TestNew(t *testing.T) {
	for _, x := range []struct {
		size, gs    int
		cpu, period uint64
		want        api.Errno
	}{
		{1, 0, 0, 1, api.OK}, {32, 64, 1 << 32, 1 << 32, api.OK}, {5, 8, 100, 10, api.OK}, {1, 64, 0, 1, api.OK}, {1, 0, 1 << 32, 1, api.OK}, {1, 0, 0, 1 << 32, api.OK},
		{0, 8, 100, 10, api.ErrArg}, {-1, 8, 100, 10, api.ErrArg}, {33, 8, 100, 10, api.ErrArg}, {4096, 8, 100, 10, api.ErrArg}, {math.MinInt, 8, 100, 10, api.ErrArg}, {math.MaxInt, 8, 100, 10, api.ErrArg},
		{5, -1, 100, 10, api.ErrArg}, {5, 65, 100, 10, api.ErrArg}, {5, math.MinInt, 100, 10, api.ErrArg}, {5, math.MaxInt, 100, 10, api.ErrArg},
		{5, 8, 1<<32 + 1, 10, api.ErrArg}, {5, 8, top, 10, api.ErrArg},
		{5, 8, 100, 0, api.ErrArg}, {5, 8, 100, 1<<32 + 1, api.ErrArg}, {5, 8, 100, top, api.ErrArg},
		{0, -1, top, 0, api.ErrArg},
	} {
		d, e := New(x.size, x.gs, x.cpu, x.period)
		if e != x.want || (d != nil) != (e == api.OK) {
			t.Errorf("new(%v): %v, %v", x, d, e)
		}
		if e == api.OK {
			is(t, d, root, api.Domain{Gs: x.gs, CPU: x.cpu, Period: x.period})
			if d.Root() != root || d.Len() != 1 {
				t.Errorf("new(%v): root %v of %d", x, d.Root(), d.Len())
			}
		}
	}
}

// P9.1: the root's ref stays, whatever comes and goes.
func TestRoot(t *testing.T) {
	d := domains(t, 3, 8, 100, 10)
	for range 3 {
		a := carved(t, d, root, 4, 50, 7)
		b := carved(t, d, a, 4, 50, 7)
		if d.Root() != root || d.Copy().Root() != root {
			t.Error(d.Root())
		}
		ok(t, "merge", d.Merge(b))
		ok(t, "merge", d.Merge(a))
	}
	if d.Root() != root {
		t.Error(d.Root())
	}
}

// P9.1
func TestChain(t *testing.T) {
	d := domains(t, 6, 8, 100, 10)
	a := carved(t, d, root, 6, 60, 5)
	b := carved(t, d, root, 2, 40, 5)
	c := carved(t, d, a, 5, 50, 20)
	e := carved(t, d, c, 4, 40, 3)
	for r, want := range map[api.Ref][]api.Ref{
		root: {root}, a: {a, root}, b: {b, root}, c: {c, a, root}, e: {e, c, a, root},
	} {
		kept(t, "chain", d, func() {
			l := d.Chain(r)
			if !slices.Equal(l, want) {
				t.Errorf("chain(%v): %v; want %v", r, l, want)
			}
			clear(l)
			if l = d.Chain(r); !slices.Equal(l, want) {
				t.Errorf("chain(%v) later: %v; want %v", r, l, want)
			}
		})
	}
}

// P9.1: a chain that is gone over may be left at any time, and gone over as often as one likes.
func TestChainIsLeft(t *testing.T) {
	d, a, b, _ := nested(t)
	seq, want := d.chain(b), []api.Ref{b, a, root}
	for leave := 1; leave <= 3; leave++ {
		var l []api.Ref
		seq(func(r api.Ref) bool {
			l = append(l, r)
			return len(l) < leave
		})
		if !slices.Equal(l, want[:leave]) {
			t.Errorf("left behind %d: %v", leave, l)
		}
	}
}

// P9.1: a chain is as long as there are places.
func TestChainOfAll(t *testing.T) {
	d := domains(t, 32, 64, 1<<32, 1)
	want := []api.Ref{root}
	for len(want) < 32 {
		want = slices.Insert(want, 0, carved(t, d, want[0], 64, 1<<32, 1))
	}
	if l := d.Chain(want[0]); !slices.Equal(l, want) {
		t.Error(l)
	}
	joined(t, d, want[0], 64)
	for _, r := range want {
		if x, e := d.Get(r); e != api.OK || x.Live != 64 || d.Merge(r) == api.OK {
			t.Error(r, x, e)
		}
	}
	for _, r := range want[1:] {
		if e := d.Join(r); e != api.ErrQuota {
			t.Error(r, e)
		}
	}
}

// P9.1 to P9.3: what calls that take a ref answer of one that names nothing.
func asksGone(t *testing.T, d *Domains, r api.Ref, want api.Errno) {
	t.Helper()
	if x, e := d.Get(r); e != want || x != (api.Domain{}) {
		t.Errorf("get(%v): %v, %v", r, x, e)
	}
	if gs, cpu, e := d.Share(r); e != want || gs != 0 || cpu != 0 {
		t.Errorf("share(%v): %d, %d, %v", r, gs, cpu, e)
	}
	if l := d.Chain(r); len(l) > 0 {
		t.Errorf("chain(%v): %v", r, l)
	}
	l := []api.Errno{d.Merge(r), d.Join(r), d.Leave(r), d.Use(r, 0), d.Use(r, 1), d.Use(r, top), d.Clear(r)}
	for _, gs := range []int{0, 1, 64} {
		c, e := d.Carve(r, gs, uint64(gs)<<26, 1<<32)
		if c != (api.Ref{}) {
			t.Errorf("carve(%v): %v", r, c)
		}
		l = append(l, e)
	}
	for i, e := range l {
		if e != want {
			t.Errorf("%v, %dth call: %v; want %v", r, i, e, want)
		}
	}
}

// P9.1 to P9.3, P9.5: what is gone is stale for good, and changes nothing, also of what stands at that place now.
func TestStale(t *testing.T) {
	d := domains(t, 4, 8, 100, 10)
	joined(t, d, root, 1)
	var gone []api.Ref
	for gen := range uint64(20) {
		a := carved(t, d, root, 4, 50, 7)
		b := carved(t, d, a, 3, 40, 7)
		if a.Gen != 1+gen || b.Gen != 1+gen || a.Index == b.Index {
			t.Fatal(a, b)
		}
		joined(t, d, b, 1)
		ok(t, "use", d.Use(b, 3))
		kept(t, "a stale ref", d, func() {
			for _, r := range gone {
				asksGone(t, d, r, api.ErrStale)
			}
		})
		ok(t, "leave", d.Leave(b))
		ok(t, "merge", d.Merge(b))
		ok(t, "merge", d.Merge(a))
		gone = append(gone, a, b)
	}
	gone = append(gone, api.Ref{}, ref(0, 0), ref(0, 2), ref(0, top), ref(1, 0), ref(1, 21), ref(3, 1), ref(4, 1), ref(32, 1), ref(-1, 1), ref(math.MinInt, 1), ref(math.MaxInt, 1))
	kept(t, "a stale ref", d, func() {
		for _, r := range gone {
			asksGone(t, d, r, api.ErrStale)
		}
	})
}

// P9.1 to P9.4: nil, and zero ones, are none; that is told ahead of whatever else is wrong.
func TestOfNone(t *testing.T) {
	for _, d := range []*Domains{nil, {}} {
		for _, r := range []api.Ref{{}, root, ref(-1, 1)} {
			asksGone(t, d, r, api.ErrNil)
			if c, e := d.Carve(r, -1, top, 0); e != api.ErrNil || c != (api.Ref{}) {
				t.Error("carve", c, e)
			}
		}
		if r := d.Root(); r != (api.Ref{}) {
			t.Error("root", r)
		}
		if n := d.Len(); n != 0 {
			t.Error("len", n)
		}
		if l := d.All(); len(l) > 0 {
			t.Error("all", l)
		}
		for _, o := range []*Domains{nil, {}, d.Copy()} {
			if !d.Same(o) || !o.Same(d) {
				t.Error("not the same", d, o)
			}
		}
		for size := 1; size <= 2; size++ {
			if o := domains(t, size, 0, 0, 1); d.Same(o) || o.Same(d) {
				t.Error("the same as new ones")
			}
		}
	}
	var none *Domains
	if o := none.Copy(); o != nil {
		t.Error("copy of nil", o)
	}
}

// P9.2: of whom a child is carved out, it is carved out of that one alone.
func TestCarve(t *testing.T) {
	d := domains(t, 4, 8, 100, 10)
	a := carved(t, d, root, 5, 60, 7)
	is(t, d, root, api.Domain{Gs: 8, CPU: 100, Period: 10, CarvedGs: 5, Carved: 60, Children: 1})
	is(t, d, a, api.Domain{Parent: root, Gs: 5, CPU: 60, Period: 7})
	b := carved(t, d, a, 2, 15, 1<<32)
	is(t, d, root, api.Domain{Gs: 8, CPU: 100, Period: 10, CarvedGs: 5, Carved: 60, Children: 1})
	is(t, d, a, api.Domain{Parent: root, Gs: 5, CPU: 60, Period: 7, CarvedGs: 2, Carved: 15, Children: 1})
	is(t, d, b, api.Domain{Parent: a, Gs: 2, CPU: 15, Period: 1 << 32})
	c := carved(t, d, root, 3, 40, 1)
	is(t, d, root, api.Domain{Gs: 8, CPU: 100, Period: 10, CarvedGs: 8, Carved: 100, Children: 2})
	is(t, d, c, api.Domain{Parent: root, Gs: 3, CPU: 40, Period: 1})
	if a != ref(1, 1) || b != ref(2, 1) || c != ref(3, 1) || d.Len() != 4 {
		t.Error(a, b, c, d.Len())
	}
}

// P9.2: what is used, and lives, in the one of which it is carved out stays there.
func TestCarveOfUsed(t *testing.T) {
	d := domains(t, 2, 8, 100, 10)
	joined(t, d, root, 3)
	ok(t, "use", d.Use(root, 99))
	a := carved(t, d, root, 5, 100, 7)
	is(t, d, root, api.Domain{Gs: 8, CPU: 100, Period: 10, CarvedGs: 5, Carved: 100, Children: 1, Own: 3, Live: 3, Used: 99})
	is(t, d, a, api.Domain{Parent: root, Gs: 5, CPU: 100, Period: 7})
}

// P9.2: by which error, where several apply, of one whose share is 5 goroutines and 40 ticks, of whom 2 are its own.
func TestCarveIsRefused(t *testing.T) {
	for _, x := range []struct {
		gs          int
		cpu, period uint64
		want        api.Errno
	}{
		{3, 40, 1, api.OK}, {0, 0, 1, api.OK}, {3, 0, 1 << 32, api.OK}, {0, 40, 1, api.OK},
		{-1, 0, 1, api.ErrArg}, {65, 0, 1, api.ErrArg}, {math.MinInt, 0, 1, api.ErrArg}, {math.MaxInt, 0, 1, api.ErrArg},
		{0, 1<<32 + 1, 1, api.ErrArg}, {0, top, 1, api.ErrArg}, {0, 0, 0, api.ErrArg}, {0, 0, 1<<32 + 1, api.ErrArg}, {0, 0, top, api.ErrArg},
		{65, 41, 1, api.ErrArg}, {4, 1<<32 + 1, 1, api.ErrArg}, {4, 41, 0, api.ErrArg},
		{4, 0, 1, api.ErrQuota}, {64, 0, 1, api.ErrQuota}, {0, 41, 1, api.ErrQuota}, {0, 1 << 32, 1, api.ErrQuota}, {64, 1 << 32, 1 << 32, api.ErrQuota}, {5, 40, 1, api.ErrQuota},
	} {
		for _, full := range []bool{false, true} {
			d := domains(t, 4, 8, 100, 10)
			carved(t, d, root, 3, 60, 1)
			joined(t, d, root, 2)
			if full {
				carved(t, d, ref(1, 1), 0, 0, 1)
				carved(t, d, ref(1, 1), 0, 0, 1)
			}
			was, want := d.Copy(), x.want
			if full && want == api.OK {
				want = api.ErrFull
			}
			r, e := d.Carve(root, x.gs, x.cpu, x.period)
			if e != want || (r == ref(2, 1)) != (e == api.OK) {
				t.Errorf("carve(%v), full: %v: %v, %v; want %v", x, full, r, e, want)
			}
			if e != api.OK && (r != api.Ref{} || !reflect.DeepEqual(d, was)) {
				t.Errorf("carve(%v), full: %v: %v, or changed something", x, full, r)
			}
			if want == api.OK {
				is(t, d, r, api.Domain{Parent: root, Gs: x.gs, CPU: x.cpu, Period: x.period})
			}
		}
	}
}

// P9.2: an argument that may not be is told ahead of a ref that is stale.
func TestCarveArgAheadOfStale(t *testing.T) {
	d := domains(t, 1, 8, 100, 10)
	for want, r := range map[api.Errno]api.Ref{api.ErrStale: ref(0, 2), api.ErrFull: root} {
		kept(t, "carve", d, func() {
			if c, e := d.Carve(r, 1, 1, 1); e != want || c != (api.Ref{}) {
				t.Error(c, e)
			}
			for _, x := range []struct {
				gs          int
				cpu, period uint64
			}{{-1, 1, 1}, {65, 1, 1}, {1, 1<<32 + 1, 1}, {1, 1, 0}, {1, 1, 1<<32 + 1}} {
				if c, e := d.Carve(r, x.gs, x.cpu, x.period); e != api.ErrArg || c != (api.Ref{}) {
					t.Error(x, c, e)
				}
			}
		})
	}
}

// P9.2: what was carved out is its parent's again, and nobody else's.
func TestMerge(t *testing.T) {
	d := domains(t, 5, 8, 100, 10)
	a := carved(t, d, root, 5, 60, 7)
	b := carved(t, d, root, 2, 30, 8)
	c := carved(t, d, a, 3, 45, 9)
	ok(t, "use", d.Use(c, 4))
	ok(t, "use", d.Use(a, 5))
	ok(t, "merge", d.Merge(c))
	is(t, d, a, api.Domain{Parent: root, Gs: 5, CPU: 60, Period: 7, Used: 5})
	is(t, d, root, api.Domain{Gs: 8, CPU: 100, Period: 10, CarvedGs: 7, Carved: 90, Children: 2})
	asksGone(t, d, c, api.ErrStale)
	ok(t, "merge", d.Merge(a))
	is(t, d, root, api.Domain{Gs: 8, CPU: 100, Period: 10, CarvedGs: 2, Carved: 30, Children: 1})
	is(t, d, b, api.Domain{Parent: root, Gs: 2, CPU: 30, Period: 8})
	ok(t, "merge", d.Merge(b))
	is(t, d, root, api.Domain{Gs: 8, CPU: 100, Period: 10})
	if d.Len() != 1 {
		t.Error(d.Len())
	}
	for _, want := range []api.Ref{ref(2, 2), ref(1, 2), ref(3, 2), ref(4, 1)} {
		if r := carved(t, d, root, 2, 25, 6); r != want {
			t.Error(r, want)
		} else {
			is(t, d, r, api.Domain{Parent: root, Gs: 2, CPU: 25, Period: 6})
		}
	}
}

// P9.2: by which error, where several apply.
func TestMergeIsRefused(t *testing.T) {
	d := domains(t, 4, 8, 100, 10)
	refused := func(what string, r api.Ref, want api.Errno) {
		t.Helper()
		kept(t, what, d, func() {
			if e := d.Merge(r); e != want {
				t.Errorf("%s: %v; want %v", what, e, want)
			}
		})
	}
	refused("the root alone", root, api.ErrArg)
	a := carved(t, d, root, 5, 60, 7)
	refused("a root with a child", root, api.ErrArg)
	b := carved(t, d, a, 0, 0, 7)
	refused("one with a child of nothing", a, api.ErrBusy)
	ok(t, "merge", d.Merge(b))
	joined(t, d, a, 2)
	refused("a root in which one lives", root, api.ErrArg)
	refused("one with its own", a, api.ErrBusy)
	ok(t, "leave", d.Leave(a))
	refused("one with one of its own", a, api.ErrBusy)
	c := carved(t, d, a, 1, 10, 7)
	ok(t, "leave", d.Leave(a))
	joined(t, d, c, 1)
	refused("one in whose child one lives", a, api.ErrBusy)
	refused("that child", c, api.ErrBusy)
	ok(t, "leave", d.Leave(c))
	refused("one with a child", a, api.ErrBusy)
	ok(t, "merge", d.Merge(c))
	ok(t, "use", d.Use(a, top))
	ok(t, "merge, of one that is used", d.Merge(a))
	is(t, d, root, api.Domain{Gs: 8, CPU: 100, Period: 10})
}

// nested are a root, a child, that one's child, and the root's other child.
func nested(t *testing.T) (d *Domains, a, b, c api.Ref) {
	t.Helper()
	d = domains(t, 6, 8, 100, 10)
	a = carved(t, d, root, 5, 60, 7)
	b = carved(t, d, a, 2, 20, 8)
	c = carved(t, d, root, 1, 5, 9)
	return d, a, b, c
}

// P9.3: its own are the domain's alone; who lives there lives in each one of its chain, and in no other one.
func TestJoin(t *testing.T) {
	d, a, b, c := nested(t)
	want := map[api.Ref]api.Domain{
		root: {Gs: 8, CPU: 100, Period: 10, CarvedGs: 6, Carved: 65, Children: 2},
		a:    {Parent: root, Gs: 5, CPU: 60, Period: 7, CarvedGs: 2, Carved: 20, Children: 1},
		b:    {Parent: a, Gs: 2, CPU: 20, Period: 8},
		c:    {Parent: root, Gs: 1, CPU: 5, Period: 9},
	}
	goes := func(r api.Ref, more int, e api.Errno, chain ...api.Ref) {
		t.Helper()
		ok(t, "join, leave", e)
		x := want[r]
		x.Own += more
		want[r] = x
		for _, at := range chain {
			x = want[at]
			x.Live += more
			want[at] = x
		}
		for r, x := range want {
			is(t, d, r, x)
		}
	}
	goes(b, 1, d.Join(b), b, a, root)
	goes(a, 1, d.Join(a), a, root)
	goes(root, 1, d.Join(root), root)
	goes(c, 1, d.Join(c), c, root)
	goes(b, 1, d.Join(b), b, a, root)
	goes(b, -1, d.Leave(b), b, a, root)
	goes(root, -1, d.Leave(root), root)
	goes(a, -1, d.Leave(a), a, root)
	goes(c, -1, d.Leave(c), c, root)
	goes(b, -1, d.Leave(b), b, a, root)
}

// P9.3: as many as the share join; each that leaves makes room for one.
func TestJoinIsRefused(t *testing.T) {
	d, a, b, c := nested(t)
	for r, room := range map[api.Ref]int{root: 2, a: 3, b: 2, c: 1} {
		for range 2 {
			joined(t, d, r, room)
			kept(t, "join", d, func() {
				if e := d.Join(r); e != api.ErrQuota {
					t.Error(r, e)
				}
				if _, e := d.Carve(r, 1, 0, 1); e != api.ErrQuota {
					t.Error("carve", r, e)
				}
			})
			for range room {
				ok(t, "leave", d.Leave(r))
			}
			kept(t, "leave", d, func() {
				if e := d.Leave(r); e != api.ErrState {
					t.Error(r, e)
				}
			})
		}
		joined(t, d, r, room)
	}
	if x, e := d.Get(root); e != api.OK || x.Live != 8 || x.Own != 2 {
		t.Error(x, e)
	}
	kept(t, "one that left, and joined anew,", d, func() {
		ok(t, "leave", d.Leave(c))
		ok(t, "join", d.Join(c))
	})
	none := domains(t, 1, 0, 0, 1)
	if e := none.Join(root); e != api.ErrQuota {
		t.Error("of no goroutines", e)
	}
}

// P9.3: who lives below is none of its own.
func TestLeaveOfOthers(t *testing.T) {
	d, a, b, _ := nested(t)
	joined(t, d, b, 2)
	for _, r := range []api.Ref{root, a} {
		kept(t, "leave", d, func() {
			if e := d.Leave(r); e != api.ErrState {
				t.Error(r, e)
			}
		})
	}
}

// P9.3: what is used is used of the one alone, also above its limit.
func TestUse(t *testing.T) {
	d, a, b, c := nested(t)
	used := func(want map[api.Ref]uint64) {
		t.Helper()
		for _, x := range d.All() {
			if x.Domain.Used != want[x.Ref] {
				t.Errorf("%v: %d; want %d", x.Ref, x.Domain.Used, want[x.Ref])
			}
		}
	}
	was := d.Copy()
	ok(t, "use", d.Use(b, 7))
	used(map[api.Ref]uint64{b: 7})
	ok(t, "use", d.Use(b, 20))
	ok(t, "use", d.Use(a, 1))
	ok(t, "use", d.Use(c, 0))
	used(map[api.Ref]uint64{a: 1, b: 27})
	ok(t, "use", d.Use(root, top-1))
	ok(t, "use", d.Use(root, 1))
	used(map[api.Ref]uint64{root: top, a: 1, b: 27})
	ok(t, "use", d.Use(root, 1))
	ok(t, "use", d.Use(a, top))
	used(map[api.Ref]uint64{root: top, a: top, b: 27})
	ok(t, "clear", d.Clear(root))
	used(map[api.Ref]uint64{a: top, b: 27})
	ok(t, "clear", d.Clear(c))
	ok(t, "clear", d.Clear(b))
	used(map[api.Ref]uint64{a: top})
	ok(t, "clear", d.Clear(a))
	if !d.Same(was) {
		t.Error("use, or clear, changed something else")
	}
}

// some are domains at the places 0, 1, 3 of 5, of which that at 1 came last.
func some(t *testing.T) *Domains {
	t.Helper()
	d := domains(t, 5, 20, 100, 10)
	for i := range uint64(3) {
		carved(t, d, root, 1+int(i), 10+i, 5+i)
	}
	ok(t, "merge", d.Merge(ref(2, 1)))
	ok(t, "merge", d.Merge(ref(1, 1)))
	carved(t, d, ref(3, 1), 1, 4, 8)
	joined(t, d, ref(1, 2), 1)
	ok(t, "use", d.Use(ref(3, 1), 6))
	return d
}

// wantSome are those of some.
func wantSome() []api.Placed {
	return []api.Placed{
		{Ref: root, Domain: api.Domain{Gs: 20, CPU: 100, Period: 10, CarvedGs: 3, Carved: 12, Live: 1, Children: 1}},
		{Ref: ref(1, 2), Domain: api.Domain{Parent: ref(3, 1), Gs: 1, CPU: 4, Period: 8, Own: 1, Live: 1}},
		{Ref: ref(3, 1), Domain: api.Domain{Gs: 3, CPU: 12, Period: 7, CarvedGs: 1, Carved: 4, Live: 1, Used: 6, Children: 1, Parent: root}},
	}
}

// P9.4: by places, in new memory.
func TestAll(t *testing.T) {
	d := some(t)
	for range 2 {
		l := d.All()
		if !slices.Equal(l, wantSome()) || d.Len() != 3 {
			t.Error(d.Len(), l)
		}
		clear(l)
	}
}

// P9.4: the same domains, and free places; and they go on apart, neither way seen.
func TestCopy(t *testing.T) {
	for _, swap := range []bool{false, true} {
		a := some(t)
		b := a.Copy()
		if !a.Same(b) || !b.Same(a) || !slices.Equal(b.All(), wantSome()) || b.Root() != root {
			t.Error("not the same")
		}
		if swap {
			a, b = b, a
		}
		joined(t, a, ref(3, 1), 1)
		ok(t, "leave", a.Leave(ref(1, 2)))
		ok(t, "use", a.Use(root, 7))
		ok(t, "clear", a.Clear(ref(3, 1)))
		ok(t, "merge", a.Merge(ref(1, 2)))
		carved(t, a, root, 1, 1, 1)
		carved(t, a, root, 1, 1, 1)
		if l := b.All(); !slices.Equal(l, wantSome()) || b.Len() != 3 || a.Len() != 4 {
			t.Error(l)
		}
		if l := b.Chain(ref(1, 2)); !slices.Equal(l, []api.Ref{ref(1, 2), ref(3, 1), root}) {
			t.Error(l)
		}
		for _, want := range []api.Ref{ref(2, 2), ref(4, 1)} {
			if r := carved(t, b, root, 1, 1, 1); r != want {
				t.Error(r)
			}
		}
		if _, e := b.Carve(root, 1, 1, 1); e != api.ErrFull {
			t.Error(e)
		}
	}
}

// P9.4: each thing that may differ.
func TestSame(t *testing.T) {
	for i, change := range []func(d *Domains){
		func(d *Domains) { d.Join(ref(3, 1)) },
		func(d *Domains) { d.Join(root) },
		func(d *Domains) { d.Leave(ref(1, 2)) },
		func(d *Domains) { d.Leave(ref(1, 2)); d.Join(ref(3, 1)) },
		func(d *Domains) { d.Use(ref(1, 2), 1) },
		func(d *Domains) { d.Clear(ref(3, 1)) },
		func(d *Domains) { d.Carve(root, 0, 0, 1) },
		func(d *Domains) { d.Leave(ref(1, 2)); d.Merge(ref(1, 2)) },
		func(d *Domains) {
			d.Leave(ref(1, 2))
			d.Merge(ref(1, 2))
			d.Carve(ref(3, 1), 1, 4, 8)
			d.Join(ref(1, 3))
		},
	} {
		a, b := some(t), some(t)
		if !a.Same(b) || !a.Same(a) {
			t.Fatal("not the same")
		}
		change(b)
		if a.Same(b) || b.Same(a) {
			t.Errorf("the same behind change %d", i)
		}
	}
	a := domains(t, 3, 8, 100, 10)
	for _, o := range []*Domains{domains(t, 2, 8, 100, 10), domains(t, 4, 8, 100, 10), domains(t, 3, 7, 100, 10), domains(t, 3, 8, 101, 10), domains(t, 3, 8, 100, 11)} {
		if a.Same(o) || o.Same(a) {
			t.Error("the same", o)
		}
	}
	if !a.Same(domains(t, 3, 8, 100, 10)) {
		t.Error("not the same")
	}
}

// P9.4: by which way they came to be as they are, and which places are free, is not asked.
func TestSameOfOtherWays(t *testing.T) {
	a, b := domains(t, 4, 8, 100, 10), domains(t, 4, 8, 100, 10)
	for _, d := range []*Domains{a, b} {
		for range 3 {
			carved(t, d, root, 2, 20, 5)
		}
	}
	for _, l := range [][]int{{1, 2}, {2, 1}} {
		ok(t, "merge", a.Merge(ref(l[0], 1)))
		ok(t, "merge", b.Merge(ref(l[1], 1)))
		if a.Same(b) != (a.Len() == 2) || a.Same(b) != b.Same(a) {
			t.Error(a.Same(b), l)
		}
	}
	if x, y := carved(t, a, root, 2, 20, 5), carved(t, b, root, 2, 20, 5); x != ref(2, 2) || y != ref(1, 2) || a.Same(b) {
		t.Error(x, y)
	}
}
