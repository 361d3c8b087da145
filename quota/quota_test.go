package quota

import (
	"math"
	"reflect"
	"slices"
	"testing"

	"helmsman/api"
	"helmsman/domain"
)

const top = math.MaxUint64

func ref(i int, gen uint64) api.Ref { return api.Ref{Index: i, Gen: gen} }

// root is the root's ref.
var root = ref(0, 1)

// domains are new ones: the root alone.
func domains(t *testing.T, size int, cpu, period uint64) *domain.Domains {
	t.Helper()
	d, e := domain.New(size, api.MaxGs, cpu, period)
	if e != api.OK {
		t.Fatalf("new(%d, %d, %d): %v", size, cpu, period, e)
	}
	return d
}

// carved is a new one, of half the goroutines that are left.
func carved(t *testing.T, d *domain.Domains, r api.Ref, cpu, period uint64) api.Ref {
	t.Helper()
	gs, _, _ := d.Share(r)
	c, e := d.Carve(r, gs/2, cpu, period)
	if e != api.OK {
		t.Fatalf("carve(%v, %d, %d): %v", r, cpu, period, e)
	}
	return c
}

func used(t *testing.T, d *domain.Domains, r api.Ref, n uint64) {
	t.Helper()
	if e := d.Use(r, n); e != api.OK {
		t.Fatalf("use(%v, %d): %v", r, n, e)
	}
}

// joined has one live in each of these: that has nothing to do with ticks.
func joined(t *testing.T, d *domain.Domains, each ...api.Ref) {
	t.Helper()
	for _, r := range each {
		if e := d.Join(r); e != api.OK {
			t.Fatalf("join(%v): %v", r, e)
		}
	}
}

func merged(t *testing.T, d *domain.Domains, r api.Ref) {
	t.Helper()
	if e := d.Merge(r); e != api.OK {
		t.Fatalf("merge(%v): %v", r, e)
	}
}

// kept asks that something changes nothing.
func kept(t *testing.T, what string, d *domain.Domains, do func()) {
	t.Helper()
	was := d.Copy()
	do()
	if !reflect.DeepEqual(d, was) {
		t.Errorf("%s changed something: %v; was %v", what, d.All(), was.All())
	}
}

// isLeft asks how often one can be charged, and which one is tight (Gen 0: none is).
func isLeft(t *testing.T, d *domain.Domains, r api.Ref, want uint64, tight api.Ref) {
	t.Helper()
	kept(t, "can, left, tight", d, func() {
		t.Helper()
		if is := Can(d, r); is != (want > 0) {
			t.Errorf("can(%v): %v, where %d are left", r, is, want)
		}
		if n := Left(d, r); n != want {
			t.Errorf("left(%v): %d; want %d", r, n, want)
		}
		if at, is := Tight(d, r); at != tight || is != (tight.Gen > 0) {
			t.Errorf("tight(%v): %v, %v; want %v", r, at, is, tight)
		}
	})
}

// charges has one be charged, and asks that one is used of each of these, and nothing else changed.
func charges(t *testing.T, d *domain.Domains, r api.Ref, each ...api.Ref) {
	t.Helper()
	want := d.All()
	for i, p := range want {
		if slices.Contains(each, p.Ref) {
			want[i].Domain.Used++
		}
	}
	if !Charge(d, r) {
		t.Errorf("charge(%v): no", r)
	}
	if l := d.All(); !slices.Equal(l, want) {
		t.Errorf("charge(%v): %v; want %v", r, l, want)
	}
}

// refused asks that one isn't charged.
func refused(t *testing.T, d *domain.Domains, r api.Ref) {
	t.Helper()
	kept(t, "a charge that is refused", d, func() {
		t.Helper()
		if Charge(d, r) {
			t.Errorf("charge(%v): yes", r)
		}
	})
}

// P10.1, P10.2: the chapter's own example.
func TestExample(t *testing.T) {
	d := domains(t, 2, 10, 1)
	child := carved(t, d, root, 4, 1)
	used(t, d, root, 7)
	used(t, d, child, 3)
	isLeft(t, d, child, 1, api.Ref{})
	charges(t, d, child, child, root)
	isLeft(t, d, child, 0, child)
	isLeft(t, d, root, 2, api.Ref{})
	refused(t, d, child)
}

// nested are a root, a child, that one's child, and the root's other child.
func nested(t *testing.T) (d *domain.Domains, a, b, c api.Ref) {
	t.Helper()
	d = domains(t, 6, 100, 10)
	a = carved(t, d, root, 60, 6)
	b = carved(t, d, a, 20, 4)
	c = carved(t, d, root, 30, 3)
	joined(t, d, root, a, b, b)
	return d, a, b, c
}

// P10.1: one is used of each in its chain, and of no other one.
func TestCharge(t *testing.T) {
	d, a, b, c := nested(t)
	charges(t, d, b, b, a, root)
	charges(t, d, b, b, a, root)
	charges(t, d, a, a, root)
	charges(t, d, c, c, root)
	charges(t, d, root, root)
	for r, want := range map[api.Ref]uint64{root: 5, a: 3, b: 2, c: 1} {
		if x, e := d.Get(r); e != api.OK || x.Used != want {
			t.Errorf("%v: %+v, %v; want %d", r, x, e, want)
		}
	}
}

// P10.1, P10.2: where nothing is left of one, nobody in whose chain that one is can be charged; all others can.
func TestChargeIsRefused(t *testing.T) {
	for _, over := range []uint64{0, 1, 1 << 32, 1 << 63, top} { // used above its limit, too (9)
		for i := range 4 {
			d, a, b, c := nested(t)
			all := []api.Ref{root, a, b, c}
			full := all[i]
			limits, _ := d.Get(full)
			used(t, d, full, limits.CPU-1)
			for _, r := range all {
				if !Can(d, r) {
					t.Errorf("one is left of %v: %v can't", full, r)
				}
			}
			used(t, d, full, 1)
			used(t, d, full, over)
			for _, r := range all {
				if chain := d.Chain(r); slices.Contains(chain, full) {
					isLeft(t, d, r, 0, full)
					refused(t, d, r)
				} else {
					charges(t, d, r, chain...)
				}
			}
		}
	}
}

// P10.1, P10.2: it can be charged just as often as is left.
func TestChargeTillTight(t *testing.T) {
	d := domains(t, 4, 9, 10)
	a := carved(t, d, root, 6, 10)
	b := carved(t, d, a, 4, 10)
	for i, x := range []struct {
		r     api.Ref
		many  uint64
		tight api.Ref
	}{{b, 4, b}, {a, 2, a}, {root, 3, root}} {
		for n := x.many; n > 0; n-- {
			isLeft(t, d, x.r, n, api.Ref{})
			charges(t, d, x.r, d.Chain(x.r)...)
		}
		isLeft(t, d, x.r, 0, x.tight)
		refused(t, d, x.r)
		isLeft(t, d, b, 0, b)
		if i > 0 {
			isLeft(t, d, a, 0, a)
		}
	}
}

// P10.1, P10.2: what was carved out of it may be used by itself, too: what is used is told of all its subtree.
func TestCarvedIsStillItsOwnToUse(t *testing.T) {
	d := domains(t, 3, 5, 10)
	a := carved(t, d, root, 5, 10)
	isLeft(t, d, root, 5, api.Ref{})
	for range 3 {
		charges(t, d, root, root)
	}
	isLeft(t, d, a, 2, api.Ref{})
	charges(t, d, a, a, root)
	charges(t, d, a, a, root)
	isLeft(t, d, a, 0, root)
	isLeft(t, d, root, 0, root)
	refused(t, d, a)
}

// P10.1, P10.2: one of no ticks, and those below it, can't be charged at all.
func TestOfNoTicks(t *testing.T) {
	d := domains(t, 4, 5, 1)
	a := carved(t, d, root, 0, 1)
	b := carved(t, d, a, 0, 1)
	isLeft(t, d, root, 5, api.Ref{})
	isLeft(t, d, a, 0, a)
	isLeft(t, d, b, 0, b)
	for _, r := range []api.Ref{a, b} {
		refused(t, d, r)
	}
	d = domains(t, 1, 0, 1)
	isLeft(t, d, root, 0, root)
	refused(t, d, root)
}

// P10.2: the least, wherever in the chain it is; Tight is the first one, where several are.
func TestLeastIsAnywhere(t *testing.T) {
	for _, x := range []struct {
		root, a, b uint64 // what is used of 100, 60, 20
		left       uint64
		tight      int // how far up
	}{
		{0, 0, 0, 20, -1}, {80, 40, 0, 20, -1}, {81, 40, 0, 19, -1}, {80, 41, 0, 19, -1}, {80, 40, 1, 19, -1}, {99, 0, 0, 1, -1}, {0, 59, 0, 1, -1}, {0, 0, 19, 1, -1},
		{90, 45, 3, 10, -1}, {85, 55, 3, 5, -1}, {85, 45, 17, 3, -1},
		{100, 0, 0, 0, 2}, {0, 60, 0, 0, 1}, {0, 0, 20, 0, 0}, {100, 60, 0, 0, 1}, {100, 0, 20, 0, 0}, {0, 60, 20, 0, 0}, {100, 60, 20, 0, 0},
		{101, 59, 19, 0, 2}, {99, 61, 19, 0, 1}, {99, 59, 21, 0, 0}, {top, top, 19, 0, 1}, {top, top, top, 0, 0}, {1 << 32, 0, 0, 0, 2}, {0, 1 << 63, 0, 0, 1}, {0, 0, 1 << 63, 0, 0},
	} {
		d, a, b, c := nested(t)
		used(t, d, root, x.root)
		used(t, d, a, x.a)
		used(t, d, b, x.b)
		used(t, d, c, 30)
		var tight api.Ref
		if x.tight >= 0 {
			tight = d.Chain(b)[x.tight]
		}
		isLeft(t, d, b, x.left, tight)
	}
}

// P10.1, P10.2: a chain as long as there are places, of as many ticks as may be.
func TestChainOfAll(t *testing.T) {
	const most = api.MaxBudget
	d := domains(t, api.MaxDomains, most, 1)
	chain := []api.Ref{root}
	for len(chain) < api.MaxDomains {
		chain = slices.Insert(chain, 0, carved(t, d, chain[0], most, api.MaxPeriod))
	}
	isLeft(t, d, chain[0], most, api.Ref{})
	charges(t, d, chain[0], chain...)
	isLeft(t, d, root, most-1, api.Ref{})
	for i, r := range slices.Backward(chain) {
		used(t, d, r, most-2)
		isLeft(t, d, chain[0], 1, api.Ref{})
		charges(t, d, r, chain[i:]...)
		isLeft(t, d, chain[0], 0, r)
		refused(t, d, chain[0])
		for _, up := range chain[i:] {
			d.Clear(up)
			used(t, d, up, 1)
		}
	}
}

// asksNothing asks of a ref that names nothing that it is left alone.
func asksNothing(t *testing.T, d *domain.Domains, r api.Ref) {
	t.Helper()
	if Can(d, r) || Charge(d, r) {
		t.Errorf("%v can be charged", r)
	}
	if n := Left(d, r); n != 0 {
		t.Errorf("left(%v): %d", r, n)
	}
	if at, is := Tight(d, r); is || at != (api.Ref{}) {
		t.Errorf("tight(%v): %v, %v", r, at, is)
	}
}

// P10.1, P10.2: a stale ref, also of a place at which another one stands now.
func TestStale(t *testing.T) {
	d := domains(t, 4, 100, 10)
	a := carved(t, d, root, 50, 10)
	b := carved(t, d, a, 20, 10)
	merged(t, d, b)
	merged(t, d, a)
	now := carved(t, d, root, 40, 10)
	if now != ref(a.Index, 2) {
		t.Fatal(now, a)
	}
	for _, full := range []bool{false, true} {
		if full {
			used(t, d, root, 100)
			used(t, d, now, 40)
		}
		kept(t, "a stale ref", d, func() {
			for _, r := range []api.Ref{{}, a, b, ref(0, 0), ref(0, 2), ref(0, top), ref(1, 0), ref(1, 3), ref(3, 1), ref(4, 1), ref(32, 1), ref(-1, 1), ref(math.MinInt, 1), ref(math.MaxInt, 1)} {
				asksNothing(t, d, r)
			}
		})
	}
}

// P10.1 to P10.3: nil, and zero ones, are no domains.
func TestOfNone(t *testing.T) {
	for _, d := range []*domain.Domains{nil, {}} {
		for _, r := range []api.Ref{{}, root, ref(-1, 1), ref(math.MaxInt, top)} {
			asksNothing(t, d, r)
		}
		for _, now := range []uint64{0, 1, 10, top} {
			if l := Reset(d, now); len(l) > 0 {
				t.Errorf("reset(%d): %v", now, l)
			}
			if at, is := Next(d, now); at != 0 || is {
				t.Errorf("next(%d): %d, %v", now, at, is)
			}
		}
	}
}

// apart are domains of the periods 10, 6, 4, 3 at the places 0, 3, 1, 2: of each something is used, of one more than may be, and of one nothing.
func apart(t *testing.T) *domain.Domains {
	t.Helper()
	d := domains(t, 6, 100, 10)
	a := carved(t, d, root, 10, 1)
	b := carved(t, d, root, 10, 1)
	carved(t, d, root, 60, 6)
	merged(t, d, b)
	merged(t, d, a)
	carved(t, d, ref(3, 1), 20, 4)
	carved(t, d, root, 30, 3)
	joined(t, d, root, ref(1, 2), ref(2, 2))
	used(t, d, root, 7)
	used(t, d, ref(3, 1), 5)
	used(t, d, ref(1, 2), 21)
	return d
}

// P10.3: of those whose period begins nothing is used, whatever was, and nothing else changes; these are told by places.
func TestReset(t *testing.T) {
	a, b, c := ref(3, 1), ref(1, 2), ref(2, 2)
	for now, want := range map[uint64][]api.Ref{
		0: {root, b, c, a}, 1: nil, 2: nil, 3: {c}, 4: {b}, 5: nil, 6: {c, a}, 7: nil, 8: {b}, 9: {c}, 10: {root}, 11: nil, 12: {b, c, a},
		18: {c, a}, 20: {root, b}, 30: {root, c, a}, 59: nil, 60: {root, b, c, a}, 61: nil, 120: {root, b, c, a},
		1 << 60: {b}, 1 << 63: {b}, top: {c}, top - 1: nil, top - 3: {b, c, a}, top - 5: {root}, // 2^64 - 1 is a multiple of 3; 2^64 - 4 of 12; 2^64 - 6 of 10
	} {
		d := apart(t)
		all := d.All()
		for i, p := range all {
			if slices.Contains(want, p.Ref) {
				all[i].Domain.Used = 0
			}
		}
		l := Reset(d, now)
		if !slices.Equal(l, want) {
			t.Errorf("reset(%d): %v; want %v", now, l, want)
		}
		clear(l)
		if got := d.All(); !slices.Equal(got, all) {
			t.Errorf("behind reset(%d): %v; want %v", now, got, all)
		}
		kept(t, "reset, once more,", d, func() {
			if l := Reset(d, now); !slices.Equal(l, want) {
				t.Errorf("reset(%d) once more: %v; want %v", now, l, want)
			}
		})
	}
}

// P10.3: a domain that is gone has no period any more; one that came begins with the multiples of its own.
func TestPeriodsOfWhoIsThere(t *testing.T) {
	d := domains(t, 2, 100, 1000)
	a := carved(t, d, root, 10, 7)
	begins := func(now, next uint64, want ...api.Ref) {
		t.Helper()
		if l := Reset(d, now); !slices.Equal(l, want) {
			t.Errorf("reset(%d): %v; want %v", now, l, want)
		}
		if at, is := Next(d, now); at != next || !is {
			t.Errorf("next(%d): %d, %v; want %d", now, at, is, next)
		}
	}
	begins(14, 21, a)
	merged(t, d, a)
	begins(21, 1000)
	b := carved(t, d, root, 10, 5)
	begins(21, 25)
	begins(25, 30, b)
	begins(1000, 1005, root, b)
}

// P10.3: of the greatest periods, and times.
func TestResetOfGreat(t *testing.T) {
	d := domains(t, 4, 100, 1<<32)
	a := carved(t, d, root, 10, 1<<32-1)
	b := carved(t, d, root, 10, 1)
	for now, want := range map[uint64][]api.Ref{
		0: {root, a, b}, 1: {b}, 1<<32 - 1: {a, b}, 1 << 32: {root, b}, 1<<32 + 1: {b}, 1<<33 - 2: {a, b}, 1 << 60: {root, b},
		(1<<32 - 1) << 32: {root, a, b}, top: {a, b}, top - 1: {b}, // 2^64 - 1 is 2^32 - 1 times 2^32 + 1
	} {
		if l := Reset(d, now); !slices.Equal(l, want) {
			t.Errorf("reset(%d): %v; want %v", now, l, want)
		}
	}
}

// nextIs asks when the first period begins (0: never more).
func nextIs(t *testing.T, d *domain.Domains, now, want uint64) {
	t.Helper()
	kept(t, "next", d, func() {
		t.Helper()
		if at, is := Next(d, now); at != want || is != (want > 0) {
			t.Errorf("next(%d): %d, %v; want %d", now, at, is, want)
		}
	})
}

// P10.3: behind now, not at it.
func TestNext(t *testing.T) {
	d := apart(t)
	for now, want := range []uint64{3, 3, 3, 4, 6, 6, 8, 8, 9, 10, 12, 12, 15, 15, 15, 16} {
		nextIs(t, d, uint64(now), want)
	}
	nextIs(t, d, 59, 60)
	nextIs(t, d, 60, 63)
	for _, period := range []uint64{1, 2, 10, 1 << 32} {
		d := domains(t, 1, 5, period)
		nextIs(t, d, 0, period)
		nextIs(t, d, period-1, period)
		nextIs(t, d, period, 2*period)
		nextIs(t, d, 7*period+period/2, 8*period)
		nextIs(t, d, 1<<60, (1<<60/period+1)*period)
	}
}

// P10.3: the last time is 2^64 - 1: what would begin behind it doesn't.
func TestNextOfLast(t *testing.T) {
	for _, x := range []struct {
		periods []uint64
		now     uint64
		want    uint64 // 0: none
	}{
		{[]uint64{1}, top - 1, top}, {[]uint64{1}, top, 0}, {[]uint64{1}, top - 2, top - 1},
		{[]uint64{2}, top, 0}, {[]uint64{2}, top - 1, 0}, {[]uint64{2}, top - 2, top - 1},
		{[]uint64{3}, top, 0}, {[]uint64{3}, top - 1, top}, {[]uint64{3}, top - 3, top}, {[]uint64{3}, top - 4, top - 3},
		{[]uint64{1 << 32}, top, 0}, {[]uint64{1 << 32}, top - 1<<32 + 1, 0}, {[]uint64{1 << 32}, top - 1<<32, top - 1<<32 + 1},
		{[]uint64{1<<32 - 1}, top, 0}, {[]uint64{1<<32 - 1}, top - 1, top},
		{[]uint64{2, 3}, top - 1, top}, {[]uint64{3, 2}, top - 1, top}, {[]uint64{2, 3}, top, 0}, {[]uint64{1 << 32, 10, 5}, top - 1, top}, {[]uint64{5, 10, 1 << 32}, top - 5, top}, {[]uint64{1 << 32, 10, 7}, top - 5, top - 1}, {[]uint64{1 << 32, 10}, top - 5, 0},
	} {
		d := domains(t, 4, 5, x.periods[0])
		for _, period := range x.periods[1:] {
			carved(t, d, root, 1, period)
		}
		nextIs(t, d, x.now, x.want)
	}
}

// P10.3: the least of all, wherever it stands.
func TestNextIsAnywhere(t *testing.T) {
	periods := []uint64{50, 40, 30, 20}
	for turn := range periods {
		l := slices.Concat(periods[turn:], periods[:turn])
		d := domains(t, 4, 5, l[0])
		at := root
		for _, period := range l[1:] {
			at = carved(t, d, at, 5, period)
		}
		for now, want := range map[uint64]uint64{0: 20, 20: 30, 30: 40, 40: 50, 50: 60, 90: 100, 99: 100, 100: 120, 149: 150} {
			nextIs(t, d, now, want)
		}
	}
}

// P10.1, P10.4: charging one leaves less, or as much, for each other one.
func TestChargeLeavesLess(t *testing.T) {
	d, a, b, c := nested(t)
	all := []api.Ref{root, a, b, c}
	for i := range 120 {
		r := all[i%len(all)]
		var was []uint64
		for _, o := range all {
			was = append(was, Left(d, o))
		}
		done := Charge(d, r)
		if done != (was[i%len(all)] > 0) {
			t.Errorf("charge(%v): %v, where %d were left", r, done, was[i%len(all)])
		}
		for j, o := range all {
			n := Left(d, o)
			if n > was[j] || !done && n != was[j] || done && o == r && n != was[j]-1 {
				t.Errorf("charge(%v): %v; left(%v): %d; was %d", r, done, o, n, was[j])
			}
		}
	}
	isLeft(t, d, root, 0, root)
}
