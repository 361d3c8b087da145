package context

import (
	"math/rand/v2"
	"reflect"
	"slices"
	"testing"

	"helmsman/api"
)

// one is a context as the chapter's words tell it: of each unit of its budget the time from which on it may be used, rising. Those of one time are a refill.
type one struct {
	ref    api.Ref
	there  bool
	units  []uint64
	period uint64
	bound  int
}

// plainly are contexts as the chapter's words tell them: all that ever came, one behind the other.
type plainly struct {
	size, most int
	came       []one
	gone       []int // places, as they were freed
}

// ready is how many units of one are there.
func (x *one) ready(now uint64) int {
	n := 0
	for _, at := range x.units {
		if at <= now {
			n++
		}
	}
	return n
}

// due are its units, of which those that are there have one time.
func (x *one) due(now uint64) []uint64 {
	l, n := slices.Clone(x.units), x.ready(now)
	for i := range n {
		l[i] = x.units[n-1]
	}
	return l
}

// context is one as it is told.
func (x *one) context() api.Context {
	c := api.Context{Budget: uint64(len(x.units)), Period: x.period, Bound: x.bound}
	for i, at := range x.units {
		if i == 0 || at != x.units[i-1] {
			c.Refills = append(c.Refills, api.Refill{At: at})
		}
		c.Refills[len(c.Refills)-1].Amount++
	}
	return c
}

func refills(units []uint64) int { return len(slices.Compact(slices.Clone(units))) }

// of is what a ref names, or nil.
func (p *plainly) of(r api.Ref) *one {
	for i := range p.came {
		if p.came[i].there && p.came[i].ref == r {
			return &p.came[i]
		}
	}
	return nil
}

// place is the one that is taken next, and is there one?
func (p *plainly) place() (int, bool) {
	taken := func(i int) bool {
		return slices.ContainsFunc(p.came, func(x one) bool { return x.there && x.ref.Index == i })
	}
	for _, i := range slices.Backward(p.gone) {
		if !taken(i) {
			return i, true
		}
	}
	for i := range p.size {
		if !slices.Contains(p.gone, i) && !taken(i) {
			return i, true
		}
	}
	return 0, false
}

// put has a new one come.
func (p *plainly) put(budget, period, now uint64) (api.Ref, api.Errno) {
	i, is := p.place()
	if !is {
		return api.Ref{}, api.ErrFull
	}
	gen := uint64(1)
	for _, x := range p.came {
		if x.ref.Index == i {
			gen++
		}
	}
	p.came = append(p.came, one{ref: ref(i, gen), there: true, units: slices.Repeat([]uint64{now}, int(budget)), period: period})
	return ref(i, gen), api.OK
}

func (p *plainly) make(budget, period, now uint64) (api.Ref, api.Errno) {
	if budget == 0 || period == 0 {
		return api.Ref{}, api.ErrArg
	}
	return p.put(budget, period, now)
}

func (p *plainly) bind(r api.Ref, more int) api.Errno {
	x := p.of(r)
	switch {
	case x == nil:
		return api.ErrStale
	case x.bound+more < 0:
		return api.ErrState
	}
	x.bound += more
	return api.OK
}

func (p *plainly) drop(r api.Ref) api.Errno {
	x := p.of(r)
	switch {
	case x == nil:
		return api.ErrStale
	case x.bound > 0:
		return api.ErrBusy
	}
	x.there = false
	p.gone = append(p.gone, r.Index)
	return api.OK
}

func (p *plainly) charge(r api.Ref, now uint64) bool {
	x := p.of(r)
	if x == nil || x.ready(now) == 0 {
		return false
	}
	rest := x.due(now)[1:]
	back := now + x.period
	for _, at := range rest {
		back = max(back, at)
	}
	more := append(slices.Clone(rest), back)
	if refills(more) > p.most {
		for i, at := range more {
			if at == rest[len(rest)-1] {
				more[i] = back
			}
		}
	}
	x.units = more
	return true
}

// lacks: can so much not be taken from one?
func (x *one) lacks(amount, now uint64) bool {
	return uint64(x.ready(now)) < amount || uint64(len(x.units)) == amount
}

func (p *plainly) split(r api.Ref, amount, now uint64) (api.Ref, api.Errno) {
	x := p.of(r)
	_, is := p.place()
	switch {
	case x == nil:
		return api.Ref{}, api.ErrStale
	case amount == 0:
		return api.Ref{}, api.ErrArg
	case x.lacks(amount, now):
		return api.Ref{}, api.ErrQuota
	case !is:
		return api.Ref{}, api.ErrFull
	}
	x.units = x.due(now)[amount:]
	return p.put(amount, x.period, now)
}

func (p *plainly) donate(from, to api.Ref, amount, now uint64) api.Errno {
	x, y := p.of(from), p.of(to)
	switch {
	case x == nil || y == nil:
		return api.ErrStale
	case amount == 0 || x == y:
		return api.ErrArg
	case x.lacks(amount, now):
		return api.ErrQuota
	}
	at, l := now, y.due(now)
	if y.ready(now) > 0 {
		at = l[0]
	}
	l = append(slices.Repeat([]uint64{at}, int(amount)), l...)
	if refills(l) > p.most {
		return api.ErrFull
	}
	x.units, y.units = x.due(now)[amount:], l
	return api.OK
}

// next is the first time behind now at which more is there, and is there one?
func (x *one) next(now uint64) (uint64, bool) {
	if n := x.ready(now); n < len(x.units) {
		return x.units[n], true
	}
	return 0, false
}

func (p *plainly) all() []named {
	var l []named
	for i := range p.size {
		for _, x := range p.came {
			if x.there && x.ref.Index == i {
				l = append(l, named{x.ref, x.context()})
			}
		}
	}
	return l
}

func (p *plainly) copy() *plainly {
	o := &plainly{p.size, p.most, slices.Clone(p.came), slices.Clone(p.gone)}
	for i, x := range o.came {
		o.came[i].units = slices.Clone(x.units)
	}
	return o
}

// asked are the refs that are asked for: all that were given, those beside them, and some of no place.
func (p *plainly) asked() []api.Ref {
	l := []api.Ref{{}, ref(-1, 1), ref(p.size, 1)}
	for _, x := range p.came {
		l = append(l, x.ref, ref(x.ref.Index, x.ref.Gen+1))
	}
	return l
}

// both are contexts, and the same plainly.
type both struct {
	c *Contexts
	p *plainly
}

// same: do both tell the same at a time?
func (b both) same(t *testing.T, now uint64) {
	t.Helper()
	for _, r := range b.p.asked() {
		var want api.Context
		wanted, can, next, later := api.ErrStale, false, uint64(0), false
		if x := b.p.of(r); x != nil {
			want, wanted, can = x.context(), api.OK, x.ready(now) > 0
			next, later = x.next(now)
		}
		if x, e := b.c.Get(r); e != wanted || !reflect.DeepEqual(x, want) {
			t.Fatalf("get(%v): %v, %v; want %v, %v", r, x, e, want, wanted)
		}
		if b.c.Can(r, now) != can {
			t.Fatalf("can(%v, %d) of %v: not %v", r, now, want, can)
		}
		if at, is := b.c.Next(r, now); at != next || is != later {
			t.Fatalf("next(%v, %d) of %v: %d, %v", r, now, want, at, is)
		}
		if len(want.Refills) > b.p.most {
			t.Fatalf("%v has more refills than %d", want, b.p.most)
		}
	}
	if l, want := all(b.c), b.p.all(); !reflect.DeepEqual(l, want) || b.c.Len() != len(want) {
		t.Fatalf("all: %v; want %v", l, want)
	}
}

// pick is a ref: mostly one that is there, sometimes any.
func (b both) pick(rnd *rand.Rand) api.Ref {
	if l := b.p.all(); len(l) > 0 && rnd.IntN(12) > 0 {
		return l[rnd.IntN(len(l))].ref
	}
	l := b.p.asked()
	return l[rnd.IntN(len(l))]
}

// step does something to both at a time.
func (b both) step(t *testing.T, rnd *rand.Rand, now uint64) {
	t.Helper()
	r, s, n, period := b.pick(rnd), b.pick(rnd), uint64(rnd.IntN(5)), uint64(rnd.IntN(12))
	var got, want [3]any // a ref, an error, was it so?
	switch what := rnd.IntN(14); what {
	case 0:
		got[0], got[1] = b.c.Make(2*n, period, now)
		want[0], want[1] = b.p.make(2*n, period, now)
	case 1:
		got[1], want[1] = b.c.Bind(r), b.p.bind(r, 1)
	case 2, 3:
		got[1], want[1] = b.c.Unbind(r), b.p.bind(r, -1)
	case 4:
		got[1], want[1] = b.c.Drop(r), b.p.drop(r)
	case 5, 6:
		got[0], got[1] = b.c.Split(r, n, now)
		want[0], want[1] = b.p.split(r, n, now)
	case 7, 8, 9:
		got[1], want[1] = b.c.Donate(r, s, n, now), b.p.donate(r, s, n, now)
	default:
		got[2], want[2] = b.c.Charge(r, now), b.p.charge(r, now)
	}
	if got != want {
		t.Fatalf("of %v, %v, %d, period %d, at %d: %v; want %v", r, s, n, period, now, got, want)
	}
}

// P8.1 to P8.4: whatever is done, both go on alike, also where the time goes back; so do copies of both, apart.
func TestAsToldPlainly(t *testing.T) {
	rnd := rand.New(rand.NewPCG(27, 28))
	for range 400 {
		size, most, now := 1+rnd.IntN(5), 2+rnd.IntN(4), uint64(rnd.IntN(5))
		l := []both{{contexts(t, size, most), &plainly{size: size, most: most}}}
		for range 120 {
			b := l[rnd.IntN(len(l))]
			if len(l) < 3 && rnd.IntN(20) == 0 {
				l = append(l, both{b.c.Copy(), b.p.copy()})
			}
			b.step(t, rnd, now)
			for _, o := range l {
				o.same(t, now)
				if b.c.Same(o.c) != reflect.DeepEqual(b.p.all(), o.p.all()) {
					t.Fatalf("same of %v, %v", b.p.all(), o.p.all())
				}
			}
			if rnd.IntN(12) == 0 {
				now -= min(now, 8)
			}
			now += uint64(rnd.IntN(4))
		}
	}
}

// budgets are all Budgets together.
func budgets(c *Contexts) uint64 {
	var n uint64
	for _, x := range c.All() {
		n += x.Budget
	}
	return n
}

// P8.5: but for Make and Drop, all Budgets together stay, how great they may be; and each is what its refills are together.
func TestNoBudgetFromNothing(t *testing.T) {
	rnd := rand.New(rand.NewPCG(29, 30))
	for range 300 {
		c := contexts(t, 1+rnd.IntN(8), 2+rnd.IntN(15))
		var l []api.Ref
		var now, want uint64
		for range 150 {
			budget := 1 + rnd.Uint64N(1<<32)>>rnd.IntN(33)
			if r, e := c.Make(min(budget, 1<<32), 1+rnd.Uint64N(50), now); e == api.OK {
				l, want = append(l, r), want+min(budget, 1<<32)
			}
			r, s, amount := l[rnd.IntN(len(l))], l[rnd.IntN(len(l))], rnd.Uint64N(1<<33)>>rnd.IntN(34)
			x, _ := c.Get(r)
			switch rnd.IntN(8) {
			case 0:
				if c.Drop(r) == api.OK {
					want -= x.Budget
				}
			case 1, 2:
				if s, e := c.Split(r, amount, now); e == api.OK {
					l = append(l, s)
				}
			case 3, 4:
				c.Donate(r, s, amount, now)
			default:
				c.Charge(r, now)
			}
			now += rnd.Uint64N(20)
			if n := budgets(c); n != want {
				t.Fatalf("%d together; want %d", n, want)
			}
			adds(t, c)
		}
	}
}

// adds asks of each context whether its refills are its Budget together, and rise.
func adds(t *testing.T, c *Contexts) {
	t.Helper()
	for r, x := range c.All() {
		var n uint64
		for i, f := range x.Refills {
			n += f.Amount
			if f.Amount == 0 || i > 0 && f.At <= x.Refills[i-1].At {
				t.Fatalf("%v: %v", r, x)
			}
		}
		if n != x.Budget || n < 1 || n > 1<<32 || len(x.Refills) > c.most {
			t.Fatalf("%v: %v", r, x)
		}
	}
}

// use is when one was charged, and its Budget ahead of that.
type use struct{ at, budget uint64 }

// windowed asks whether in each window of a period one was charged at most its Budget at the window's beginning.
func windowed(t *testing.T, l []use, period uint64) {
	t.Helper()
	for i, from := range l {
		n := uint64(0)
		for _, u := range l[i:] {
			if u.at-from.at < period {
				n++
			}
		}
		if n > from.budget {
			t.Fatalf("%d within %d from %v on: %v", n, period, from, l)
		}
	}
}

// P8.5: also where it gives to others, which get what they are given from whoever gives it.
func TestNoMoreThanBudget(t *testing.T) {
	rnd := rand.New(rand.NewPCG(31, 32))
	for range 1500 {
		c := contexts(t, 4, 2+rnd.IntN(4))
		period, now, uses, most := 1+rnd.Uint64N(15), uint64(0), map[api.Ref][]use{}, 0
		for range 4 {
			made(t, c, 1+rnd.Uint64N(9), period, now)
		}
		for range 200 {
			l := all(c)
			x, y := l[rnd.IntN(len(l))], l[rnd.IntN(len(l))]
			switch {
			case rnd.IntN(10) == 0:
				if c.Donate(x.ref, y.ref, 1+rnd.Uint64N(3), now) == api.OK {
					windowed(t, uses[y.ref], period)
					delete(uses, y.ref)
				}
			case c.Charge(x.ref, now):
				uses[x.ref] = append(uses[x.ref], use{now, x.context.Budget})
				most = max(most, len(uses[x.ref]))
			}
			if rnd.IntN(3) == 0 {
				now += rnd.Uint64N(6)
			}
		}
		for _, l := range uses {
			windowed(t, l, period)
		}
		if most < 3 {
			t.Fatal("hardly anybody was charged")
		}
	}
}
