package gtable

import (
	"math"
	"reflect"
	"slices"
	"testing"

	"helmsman/api"
)

func ref(i int, gen uint64) api.Ref { return api.Ref{Index: i, Gen: gen} }

// table is a new one.
func table(t *testing.T, size int) *Table {
	t.Helper()
	x, e := New(size)
	if e != api.OK {
		t.Fatalf("new(%d): %v", size, e)
	}
	return x
}

// some is a goroutine that may be, of that state, and told by a number.
func some(s api.State, n int) api.G {
	g := whole(s, s == api.Suspended)
	g.PC, g.Affinity = n, uint8(n)
	return g
}

func made(t *testing.T, x *Table, g api.G) api.Ref {
	t.Helper()
	r, e := x.Make(g)
	if e != api.OK {
		t.Fatalf("make(%+v): %v", g, e)
	}
	return r
}

// asks asks for an error.
func asks(t *testing.T, what string, e, want api.Errno) {
	t.Helper()
	if e != want {
		t.Errorf("%s: %v; want %v", what, e, want)
	}
}

// is asks who is named by a ref.
func is(t *testing.T, x *Table, r api.Ref, want api.G) {
	t.Helper()
	if g, e := x.Get(r); g != want || e != api.OK {
		t.Errorf("get(%v): %+v, %v; want %+v", r, g, e, want)
	}
}

// kept asks that something changes nothing, also of which place comes next.
func kept(t *testing.T, what string, x *Table, do func()) {
	t.Helper()
	was := x.Copy()
	do()
	if !reflect.DeepEqual(x, was) {
		t.Errorf("%s changed something", what)
	}
}

// P16.1 to P16.3: the chapter's own example.
func TestExample(t *testing.T) {
	x := table(t, 1)
	r, e := x.Make(api.G{State: api.Runnable})
	asks(t, "make", e, api.OK)
	asks(t, "turn running", x.Turn(r, api.Running), api.OK)
	asks(t, "turn sleeping", x.Turn(r, api.Sleeping), api.OK)
	kept(t, "a turn that may not be", x, func() {
		asks(t, "turn running", x.Turn(r, api.Running), api.ErrState)
	})
}

// P16.1: the edges that may be, and those that may not; a new one is empty.
func TestNew(t *testing.T) {
	for size, want := range map[int]api.Errno{
		1: api.OK, 2: api.OK, 63: api.OK, 64: api.OK,
		0: api.ErrArg, -1: api.ErrArg, 65: api.ErrArg, 512: api.ErrArg, 4096: api.ErrArg, 4097: api.ErrArg, 1<<32 + 1: api.ErrArg, math.MinInt: api.ErrArg, math.MaxInt: api.ErrArg,
	} {
		x, e := New(size)
		if e != want || (x != nil) != (e == api.OK) {
			t.Errorf("new(%d): %v, %v", size, x, e)
		}
		if e != api.OK {
			continue
		}
		if x.Live() != 0 || len(x.All()) > 0 || !slices.Equal(x.Affinities(), make([]uint8, size)) {
			t.Errorf("new(%d): %d, %v, %v", size, x.Live(), x.All(), x.Affinities())
		}
		for i := range size {
			if r, is := x.At(i); r != (api.Ref{}) || is {
				t.Errorf("new(%d): at %d is %v", size, i, r)
			}
		}
	}
}

// P16.2: whoever may be comes to the first place at first, to the one that was freed last later; till there is no place.
func TestMake(t *testing.T) {
	x := table(t, 3)
	for i, s := range []api.State{api.Sleeping, api.Suspended, api.Running} {
		g := some(s, i+1)
		if r := made(t, x, g); r != ref(i, 1) {
			t.Error(r)
		}
		is(t, x, ref(i, 1), g)
		if x.Live() != i+1 {
			t.Error(x.Live())
		}
	}
	kept(t, "make", x, func() {
		if r, e := x.Make(some(api.Parked, 9)); r != (api.Ref{}) || e != api.ErrFull {
			t.Error(r, e)
		}
	})
	asks(t, "drop", x.Drop(ref(2, 1)), api.OK)
	asks(t, "drop", x.Drop(ref(0, 1)), api.OK)
	for _, want := range []api.Ref{ref(0, 2), ref(2, 2)} {
		if r := made(t, x, some(api.Throttled, 4)); r != want {
			t.Errorf("%v; want %v", r, want)
		}
	}
	is(t, x, ref(1, 1), some(api.Suspended, 2))
}

// P16.2: all that there is room for.
func TestMakeAll(t *testing.T) {
	x := table(t, api.MaxGs)
	for i := range api.MaxGs {
		if r := made(t, x, some(api.Runnable, i)); r != ref(i, 1) {
			t.Error(r)
		}
	}
	if r, e := x.Make(some(api.Runnable, 0)); r != (api.Ref{}) || e != api.ErrFull {
		t.Error(r, e)
	}
	for i := range api.MaxGs {
		is(t, x, ref(i, 1), some(api.Runnable, i))
	}
}

// bad are goroutines that may not be, each for another reason.
func bad() []api.G {
	l := []api.G{{}, {State: -1}, {State: 7}, whole(api.Idle, false), whole(7, false), whole(math.MinInt, true), whole(api.Suspended, false), whole(api.Runnable, true), whole(api.Running, true)}
	for range 4 {
		l = append(l, whole(api.Sleeping, false))
	}
	n := len(l)
	l[n-4].Until, l[n-3].Until, l[n-2].Program, l[n-1].PC = 1<<60+1, math.MaxUint64, -1, -1
	for _, s := range []api.State{api.Runnable, api.Running, api.Parked, api.Suspended, api.Throttled} {
		g := whole(s, s == api.Suspended)
		g.Until = 1
		l = append(l, g)
	}
	return l
}

// P16.2, P16.5: one that may not be does not come, also where there is no place: that is told first.
func TestMakeRefused(t *testing.T) {
	for _, full := range []bool{false, true} {
		x := table(t, 2)
		made(t, x, some(api.Runnable, 1))
		if full {
			made(t, x, some(api.Runnable, 2))
		}
		kept(t, "make", x, func() {
			for _, g := range bad() {
				if r, e := x.Make(g); r != (api.Ref{}) || e != api.ErrArg {
					t.Errorf("make(%+v): %v, %v", g, r, e)
				}
			}
		})
	}
}

// gone are refs of a table of 3 that name nobody, if at each place the second one is.
func gone() []api.Ref {
	return []api.Ref{
		{}, ref(0, 1), ref(1, 1), ref(2, 1), ref(0, 0), ref(0, 3), ref(2, 3), ref(1, math.MaxUint64), ref(3, 1), ref(3, 2), ref(-1, 1), ref(-1, 2),
		ref(64, 2), ref(1<<32, 2), ref(math.MinInt, 2), ref(math.MaxInt, 2),
	}
}

// second is a table of 3, at each place of which the second one is, Parked.
func second(t *testing.T) *Table {
	t.Helper()
	x := table(t, 3)
	for i := range 3 {
		made(t, x, some(api.Running, i))
	}
	for i := range 3 {
		asks(t, "drop", x.Drop(ref(2-i, 1)), api.OK)
	}
	for i := range 3 {
		if r := made(t, x, some(api.Parked, i)); r != ref(i, 2) {
			t.Fatal(r)
		}
	}
	return x
}

// P16.2, P16.3, P16.5: of who is gone, of who will come, and of no place.
func TestStale(t *testing.T) {
	x := second(t)
	kept(t, "a stale ref", x, func() {
		for _, r := range gone() {
			if g, e := x.Get(r); g != (api.G{}) || e != api.ErrStale {
				t.Errorf("get(%v): %+v, %v", r, g, e)
			}
			asks(t, "set", x.Set(r, some(api.Parked, 5)), api.ErrStale)
			asks(t, "set of another state", x.Set(r, some(api.Sleeping, 5)), api.ErrStale)
			asks(t, "set of one that may not be", x.Set(r, api.G{}), api.ErrArg)
			asks(t, "turn", x.Turn(r, api.Runnable), api.ErrStale)
			asks(t, "turn that may not be", x.Turn(r, api.Idle), api.ErrStale)
			asks(t, "drop", x.Drop(r), api.ErrStale)
		}
	})
}

// P16.5: what is gone is stale for good, however many come to its place.
func TestStaleForGood(t *testing.T) {
	x := table(t, 1)
	for gen := uint64(1); gen < 300; gen++ {
		r := made(t, x, some(api.Parked, 1))
		if r != ref(0, gen) {
			t.Fatal(r)
		}
		for old := range gen {
			if _, e := x.Get(ref(0, old)); e != api.ErrStale || x.Drop(ref(0, old)) != api.ErrStale {
				t.Fatal(old, gen, e)
			}
		}
		asks(t, "drop", x.Drop(r), api.OK)
	}
}

// P16.2: who is gone is gone; the others stay as they were.
func TestDrop(t *testing.T) {
	x := second(t)
	asks(t, "drop", x.Drop(ref(1, 2)), api.OK)
	if _, e := x.Get(ref(1, 2)); e != api.ErrStale || x.Live() != 2 {
		t.Error(e, x.Live())
	}
	asks(t, "drop twice", x.Drop(ref(1, 2)), api.ErrStale)
	is(t, x, ref(0, 2), some(api.Parked, 0))
	is(t, x, ref(2, 2), some(api.Parked, 2))
}

// P16.2: each state may be dropped.
func TestDropOfEachState(t *testing.T) {
	for s := api.Runnable; s <= api.Throttled; s++ {
		x := table(t, 1)
		asks(t, Name(s), x.Drop(made(t, x, some(s, 1))), api.OK)
		if x.Live() != 0 {
			t.Error(x.Live())
		}
	}
}

// P16.2: all but the state is set, and of nobody else.
func TestSet(t *testing.T) {
	for s := api.Runnable; s <= api.Throttled; s++ {
		x := table(t, 3)
		for i := range 3 {
			made(t, x, some(s, i))
		}
		for _, g := range []api.G{
			{State: s, Suspended: s == api.Suspended},
			{
				State: s, Suspended: s >= api.Parked, Domain: ref(-9, 0), Context: ref(99, math.MaxUint64), Affinity: 255, Program: math.MaxInt, PC: math.MaxInt,
				Regs: [api.Registers]uint64{math.MaxUint64, 0, 1, 2, 3, 4, 5, 6}, Code: -3,
			},
			{State: s, Suspended: s == api.Suspended, PC: 1},
		} {
			asks(t, "set", x.Set(ref(1, 1), g), api.OK)
			is(t, x, ref(1, 1), g)
			is(t, x, ref(0, 1), some(s, 0))
			is(t, x, ref(2, 1), some(s, 2))
		}
	}
}

// P16.2: a sleeper's time, up to the last one.
func TestSetUntil(t *testing.T) {
	x := table(t, 1)
	r := made(t, x, some(api.Sleeping, 1))
	for _, until := range []uint64{1, 7, 1<<60 - 1, 1 << 60, 0} {
		g := some(api.Sleeping, 1)
		g.Until = until
		asks(t, "set", x.Set(r, g), api.OK)
		is(t, x, r, g)
	}
}

// P16.2: of one that may not be, then of another state.
func TestSetRefused(t *testing.T) {
	for s := api.Runnable; s <= api.Throttled; s++ {
		x := table(t, 2)
		r := made(t, x, some(s, 1))
		kept(t, "set", x, func() {
			for _, g := range bad() {
				asks(t, "one that may not be", x.Set(r, g), api.ErrArg)
			}
			for o := api.Runnable; o <= api.Throttled; o++ {
				if o != s {
					asks(t, "another state", x.Set(r, some(o, 1)), api.ErrState)
				}
			}
		})
	}
}

// turned is who comes of a turn, in the chapter's words.
func turned(g api.G, to api.State) api.G {
	g.State = to
	switch to {
	case api.Suspended:
		g.Suspended = true
	case api.Runnable, api.Running:
		g.Suspended = false
	}
	g.Until = 0
	return g
}

// everybody is one of each state, with and without the flag, with and without a time, if it may be so.
func everybody() []api.G {
	var l []api.G
	for s := api.Runnable; s <= api.Throttled; s++ {
		for _, suspended := range []bool{false, true} {
			for _, until := range []uint64{0, 1, 1 << 60} {
				g := whole(s, suspended)
				g.Until = until
				if mayBe(g) {
					l = append(l, g)
				}
			}
		}
	}
	return l
}

// P16.3, P16.5: whoever turns, wherever to; nobody else does.
func TestTurn(t *testing.T) {
	may, went := mayTurn(t), 0
	for _, g := range everybody() {
		for _, to := range someStates() {
			x := table(t, 3)
			for range 3 {
				made(t, x, g)
			}
			want := api.ErrState
			if may[turn{g.State, to}] {
				want = api.OK
			}
			was := x.Copy()
			asks(t, Name(g.State)+" to "+Name(to), x.Turn(ref(1, 1), to), want)
			if want != api.OK {
				if !reflect.DeepEqual(x, was) {
					t.Errorf("from %+v to %d: it changed something", g, to)
				}
				continue
			}
			went++
			is(t, x, ref(1, 1), turned(g, to))
			is(t, x, ref(0, 1), g)
			is(t, x, ref(2, 1), g)
			if h, _ := x.Get(ref(1, 1)); !mayBe(h) {
				t.Errorf("%+v may not be", h)
			}
		}
	}
	// One who is Runnable, one who is Running, two who are Parked, six who are Sleeping, one who is Suspended, two who are Throttled.
	if want := 3 + 5 + 2*2 + 6*2 + 1 + 2*2; went != want {
		t.Errorf("%d turns; want %d", went, want)
	}
}

// P16.3: the flag, and the time, along a way through all states.
func TestTurnsInARow(t *testing.T) {
	x := table(t, 1)
	r := made(t, x, some(api.Runnable, 5))
	for _, w := range []struct {
		to   api.State
		flag bool
	}{
		{api.Running, false}, {api.Sleeping, false}, {api.Suspended, true}, {api.Runnable, false}, {api.Throttled, false}, {api.Runnable, false}, {api.Suspended, true},
		{api.Runnable, false}, {api.Running, false}, {api.Parked, false}, {api.Runnable, false}, {api.Running, false}, {api.Throttled, false}, {api.Suspended, true},
	} {
		asks(t, Name(w.to), x.Turn(r, w.to), api.OK)
		g := some(w.to, 5)
		g.Suspended = w.flag
		is(t, x, r, g)
		if w.to == api.Sleeping {
			g.Until, g.Suspended = 9, true
			asks(t, "set", x.Set(r, g), api.OK)
			is(t, x, r, g)
		}
	}
}

// mixed is a table of 6: Parked at 0 and 4, Running at 1, nobody any more at 2, Suspended at 3, nobody yet at 5.
func mixed(t *testing.T) *Table {
	t.Helper()
	x := table(t, 6)
	for i, s := range []api.State{api.Parked, api.Running, api.Runnable, api.Suspended, api.Parked} {
		made(t, x, some(s, i+1))
	}
	asks(t, "drop", x.Drop(ref(2, 1)), api.OK)
	return x
}

// P16.4: of each place, and of what is none.
func TestAt(t *testing.T) {
	x := mixed(t)
	for i, want := range map[int]api.Ref{
		0: ref(0, 1), 1: ref(1, 1), 3: ref(3, 1), 4: ref(4, 1),
		2: {}, 5: {}, 6: {}, 7: {}, 64: {}, -1: {}, -2: {}, 1 << 32: {}, math.MinInt: {}, math.MaxInt: {},
	} {
		if r, is := x.At(i); r != want || is != (want != api.Ref{}) {
			t.Errorf("at(%d): %v, %v; want %v", i, r, is, want)
		}
	}
	made(t, x, some(api.Parked, 1))
	if r, is := x.At(2); r != ref(2, 2) || !is {
		t.Error(r, is)
	}
}

// P16.4: by places, whoever came when.
func TestAll(t *testing.T) {
	x := mixed(t)
	want := []api.Task{{Ref: ref(0, 1), G: some(api.Parked, 1)}, {Ref: ref(1, 1), G: some(api.Running, 2)}, {Ref: ref(3, 1), G: some(api.Suspended, 4)}, {Ref: ref(4, 1), G: some(api.Parked, 5)}}
	if l := x.All(); !slices.Equal(l, want) || x.Live() != 4 {
		t.Errorf("%+v, %d; want %+v", l, x.Live(), want)
	}
	made(t, x, some(api.Throttled, 9))
	want = slices.Insert(want, 2, api.Task{Ref: ref(2, 2), G: some(api.Throttled, 9)})
	if l := x.All(); !slices.Equal(l, want) || x.Live() != 5 {
		t.Errorf("%+v, %d; want %+v", l, x.Live(), want)
	}
}

// P16.4: those of each state, and of what is none.
func TestOf(t *testing.T) {
	x := mixed(t)
	want := map[api.State][]api.Ref{api.Parked: {ref(0, 1), ref(4, 1)}, api.Running: {ref(1, 1)}, api.Suspended: {ref(3, 1)}}
	for _, s := range someStates() {
		if l := x.Of(s); !slices.Equal(l, want[s]) {
			t.Errorf("of %s: %v; want %v", Name(s), l, want[s])
		}
	}
	made(t, x, some(api.Parked, 1))
	asks(t, "turn", x.Turn(ref(0, 1), api.Runnable), api.OK)
	if l := x.Of(api.Parked); !slices.Equal(l, []api.Ref{ref(2, 2), ref(4, 1)}) {
		t.Error(l)
	}
	if l := x.Of(api.Runnable); !slices.Equal(l, []api.Ref{ref(0, 1)}) {
		t.Error(l)
	}
}

// P16.4: one who is suspended by the flag alone is of the state that it has.
func TestOfFlagged(t *testing.T) {
	x := table(t, 1)
	r := made(t, x, whole(api.Parked, true))
	if l := x.Of(api.Parked); !slices.Equal(l, []api.Ref{r}) || len(x.Of(api.Suspended)) > 0 {
		t.Error(l, x.Of(api.Suspended))
	}
}

// P16.4: of each place, 0 where nobody is, also where somebody was.
func TestAffinities(t *testing.T) {
	x := mixed(t)
	if l := x.Affinities(); !slices.Equal(l, []uint8{1, 2, 0, 4, 5, 0}) {
		t.Error(l)
	}
	g := some(api.Running, 1)
	g.Affinity = 255
	asks(t, "set", x.Set(ref(1, 1), g), api.OK)
	g.Affinity = 0
	made(t, x, g)
	asks(t, "drop", x.Drop(ref(0, 1)), api.OK)
	if l := x.Affinities(); !slices.Equal(l, []uint8{0, 255, 0, 4, 5, 0}) {
		t.Error(l)
	}
}

// P16.4: who writes to what was answered changes nothing.
func TestAnswersAreApart(t *testing.T) {
	x := mixed(t)
	kept(t, "an answer", x, func() {
		all, of, affinities := x.All(), x.Of(api.Parked), x.Affinities()
		clear(all)
		clear(of)
		clear(affinities)
		if len(x.All()) != 4 || x.All()[0].G != some(api.Parked, 1) || x.Of(api.Parked)[1] != ref(4, 1) || x.Affinities()[1] != 2 {
			t.Error(x.All(), x.Of(api.Parked), x.Affinities())
		}
	})
}

// P16.4: what is done to the one is not seen of the other; the places that are free come in the same order.
func TestCopy(t *testing.T) {
	x := mixed(t)
	asks(t, "drop", x.Drop(ref(0, 1)), api.OK)
	o := x.Copy()
	if !x.Same(o) || !o.Same(x) || !reflect.DeepEqual(x, o) {
		t.Error("not the same")
	}
	for _, want := range []api.Ref{ref(0, 2), ref(2, 2), ref(5, 1)} {
		a, b := made(t, x, some(api.Parked, 7)), made(t, o, some(api.Sleeping, 8))
		if a != want || b != want {
			t.Errorf("%v, %v; want %v", a, b, want)
		}
		is(t, x, want, some(api.Parked, 7))
		is(t, o, want, some(api.Sleeping, 8))
	}
	kept(t, "the other one", x, func() {
		asks(t, "turn", o.Turn(ref(1, 1), api.Parked), api.OK)
		asks(t, "set", o.Set(ref(3, 1), some(api.Suspended, 11)), api.OK)
		asks(t, "drop", o.Drop(ref(4, 1)), api.OK)
	})
	kept(t, "the one", o, func() {
		asks(t, "turn", x.Turn(ref(1, 1), api.Runnable), api.OK)
		asks(t, "set", x.Set(ref(3, 1), some(api.Suspended, 12)), api.OK)
		asks(t, "drop", x.Drop(ref(0, 2)), api.OK)
	})
	if x.Same(o) || o.Same(x) {
		t.Error("the same")
	}
}

// P16.4: each field of who is there, which one of those that were there it is, at which place, and of how many.
func TestSame(t *testing.T) {
	x := mixed(t)
	for n := range reflect.TypeFor[api.G]().NumField() {
		o := x.Copy()
		g, _ := o.Get(ref(0, 1))
		change(reflect.ValueOf(&g).Elem().Field(n))
		o.table.Set(ref(0, 1), g)
		if x.Same(o) || o.Same(x) || !o.Same(o.Copy()) {
			t.Errorf("the same, with another %s", reflect.TypeFor[api.G]().Field(n).Name)
		}
	}
	for what, do := range map[string]func(o *Table){
		"one more":         func(o *Table) { made(t, o, some(api.Parked, 1)) },
		"one fewer":        func(o *Table) { o.Drop(ref(4, 1)) },
		"one fewer, first": func(o *Table) { o.Drop(ref(0, 1)) },
		"a new one alike":  func(o *Table) { o.Drop(ref(4, 1)); made(t, o, some(api.Parked, 5)) },
		"at another place": func(o *Table) { o.Drop(ref(4, 1)); made(t, o, some(api.Parked, 1)); made(t, o, some(api.Parked, 5)) },
		"a turn":           func(o *Table) { o.Turn(ref(1, 1), api.Throttled) },
	} {
		o := x.Copy()
		do(o)
		if x.Same(o) || o.Same(x) || !o.Same(o.Copy()) {
			t.Errorf("the same, with %s", what)
		}
	}
	for size := 1; size <= 3; size++ {
		for other := 1; other <= 3; other++ {
			a, b := table(t, size), table(t, other)
			if a.Same(b) != (size == other) {
				t.Errorf("of %d and %d places: %v", size, other, a.Same(b))
			}
			made(t, a, some(api.Running, 1))
			made(t, b, some(api.Running, 1))
			if a.Same(b) != (size == other) {
				t.Errorf("of %d and %d places, with one: %v", size, other, a.Same(b))
			}
		}
	}
}

// change has a field be another one.
func change(f reflect.Value) {
	switch f.Kind() {
	case reflect.Bool:
		f.SetBool(!f.Bool())
	case reflect.Int:
		f.SetInt(f.Int() + 1)
	case reflect.Uint8, reflect.Uint64:
		f.SetUint(f.Uint() + 1)
	case reflect.Struct:
		f.Field(0).SetInt(f.Field(0).Int() + 1)
	case reflect.Array:
		f.Index(f.Len() - 1).SetUint(7)
	}
}

// P16.4: how it all came, and which place is free next, is not asked.
func TestSameHoweverItCame(t *testing.T) {
	a, b := table(t, 3), table(t, 3)
	made(t, a, some(api.Parked, 1))
	made(t, b, some(api.Runnable, 1))
	asks(t, "turn", b.Turn(ref(0, 1), api.Running), api.OK)
	asks(t, "turn", b.Turn(ref(0, 1), api.Parked), api.OK)
	for i, x := range []*Table{a, b} {
		made(t, x, some(api.Parked, 2))
		made(t, x, some(api.Parked, 3))
		asks(t, "drop", x.Drop(ref(1+i, 1)), api.OK)
		asks(t, "drop", x.Drop(ref(2-i, 1)), api.OK)
	}
	if !a.Same(b) || !b.Same(a) {
		t.Error("not the same", a.All(), b.All())
	}
}

// P16.1 to P16.4: of none, whatever else is wrong.
func TestOfNone(t *testing.T) {
	for _, x := range []*Table{nil, {}} {
		for _, r := range []api.Ref{{}, ref(0, 1), ref(-1, 1), ref(math.MaxInt, math.MaxUint64)} {
			if g, e := x.Get(r); g != (api.G{}) || e != api.ErrNil {
				t.Error(g, e)
			}
			asks(t, "drop", x.Drop(r), api.ErrNil)
			for _, s := range someStates() {
				asks(t, "set", x.Set(r, some(s, 1)), api.ErrNil)
				asks(t, "turn", x.Turn(r, s), api.ErrNil)
			}
		}
		for _, s := range someStates() {
			if r, e := x.Make(some(s, 1)); r != (api.Ref{}) || e != api.ErrNil {
				t.Error(r, e)
			}
			if l := x.Of(s); len(l) > 0 {
				t.Error(l)
			}
		}
		for i := range 3 {
			if r, is := x.At(i - 1); r != (api.Ref{}) || is {
				t.Error(r, is)
			}
		}
		if x.Live() != 0 || len(x.All()) > 0 || len(x.Affinities()) > 0 {
			t.Error(x.Live(), x.All(), x.Affinities())
		}
		for _, o := range []*Table{nil, {}, x.Copy()} {
			if !x.Same(o) || !o.Same(x) {
				t.Error("not the same", x, o)
			}
		}
		if o := table(t, 1); x.Same(o) || o.Same(x) {
			t.Error("the same as a new one")
		}
	}
	var none *Table
	if o := none.Copy(); o != nil {
		t.Error(o)
	}
}
