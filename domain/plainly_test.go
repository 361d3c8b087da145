package domain

import (
	"math"
	"math/rand/v2"
	"slices"
	"testing"

	"helmsman/api"
)

// one is a domain as the chapter's words tell it: what was carved out of it, and who lives in it, is told by those below.
type one struct {
	ref    api.Ref
	parent *one // nil of the root
	gs     int
	cpu    uint64
	period uint64
	own    int
	used   uint64
}

// plainly are domains as the chapter's words tell them.
type plainly struct {
	size  int
	there []*one
	given []api.Ref // all refs that ever were
	gone  []int     // places that are free, as they were freed
}

func newPlainly(size, gs int, cpu, period uint64) *plainly {
	p := &plainly{size: size}
	p.put(&one{gs: gs, cpu: cpu, period: period})
	return p
}

// put has one come, at the place that was freed last, or at the least that never was taken.
func (p *plainly) put(x *one) api.Ref {
	var places []int
	for _, r := range p.given {
		places = append(places, r.Index)
	}
	slices.Sort(places)
	i := len(slices.Compact(slices.Clone(places)))
	if n := len(p.gone); n > 0 {
		i, p.gone = p.gone[n-1], p.gone[:n-1]
	}
	x.ref = ref(i, 1)
	for _, at := range places {
		if at == i {
			x.ref.Gen++
		}
	}
	p.there, p.given = append(p.there, x), append(p.given, x.ref)
	return x.ref
}

// of is what a ref names, or nil.
func (p *plainly) of(r api.Ref) *one {
	for _, x := range p.there {
		if x.ref == r {
			return x
		}
	}
	return nil
}

// children are those of one.
func (p *plainly) children(x *one) []*one {
	var l []*one
	for _, c := range p.there {
		if c.parent == x {
			l = append(l, c)
		}
	}
	return l
}

// domain is one as it is told.
func (p *plainly) domain(x *one) api.Domain {
	d := api.Domain{Gs: x.gs, CPU: x.cpu, Period: x.period, Own: x.own, Live: x.own, Used: x.used}
	if x.parent != nil {
		d.Parent = x.parent.ref
	}
	for _, c := range p.children(x) {
		d.CarvedGs += c.gs
		d.Carved += c.cpu
		d.Live += p.domain(c).Live
		d.Children++
	}
	return d
}

func (p *plainly) carve(r api.Ref, gs int, cpu, period uint64) (api.Ref, api.Errno) {
	x := p.of(r)
	if gs < 0 || gs > 64 || cpu > 1<<32 || period == 0 || period > 1<<32 {
		return api.Ref{}, api.ErrArg
	}
	if x == nil {
		return api.Ref{}, api.ErrStale
	}
	d := p.domain(x)
	if d.CarvedGs+d.Own+gs > d.Gs || d.Carved+cpu > d.CPU {
		return api.Ref{}, api.ErrQuota
	}
	if len(p.there) == p.size {
		return api.Ref{}, api.ErrFull
	}
	return p.put(&one{parent: x, gs: gs, cpu: cpu, period: period}), api.OK
}

func (p *plainly) merge(r api.Ref) api.Errno {
	x := p.of(r)
	switch {
	case x == nil:
		return api.ErrStale
	case x.parent == nil:
		return api.ErrArg
	case x.own > 0 || len(p.children(x)) > 0:
		return api.ErrBusy
	}
	p.there = slices.DeleteFunc(p.there, func(o *one) bool { return o == x })
	p.gone = append(p.gone, r.Index)
	return api.OK
}

func (p *plainly) join(r api.Ref) api.Errno {
	x := p.of(r)
	if x == nil {
		return api.ErrStale
	}
	if d := p.domain(x); d.Own+d.CarvedGs == d.Gs {
		return api.ErrQuota
	}
	x.own++
	return api.OK
}

func (p *plainly) leave(r api.Ref) api.Errno {
	x := p.of(r)
	switch {
	case x == nil:
		return api.ErrStale
	case x.own == 0:
		return api.ErrState
	}
	x.own--
	return api.OK
}

func (p *plainly) use(r api.Ref, n uint64) api.Errno {
	x := p.of(r)
	switch {
	case x == nil:
		return api.ErrStale
	case x.used > math.MaxUint64-n:
		n = math.MaxUint64 - x.used
	}
	x.used += n
	return api.OK
}

func (p *plainly) clear(r api.Ref) api.Errno {
	x := p.of(r)
	if x == nil {
		return api.ErrStale
	}
	x.used = 0
	return api.OK
}

func (p *plainly) all() []api.Placed {
	var l []api.Placed
	for i := range p.size {
		for _, x := range p.there {
			if x.ref.Index == i {
				l = append(l, api.Placed{Ref: x.ref, Domain: p.domain(x)})
			}
		}
	}
	return l
}

func (p *plainly) copy() *plainly {
	o := &plainly{p.size, nil, slices.Clone(p.given), slices.Clone(p.gone)}
	for _, x := range p.there {
		y := *x
		o.there = append(o.there, &y)
	}
	for _, x := range o.there {
		if x.parent != nil {
			x.parent = o.of(x.parent.ref)
		}
	}
	return o
}

// asked are the refs that are asked for: all that were given, those beside them, and some of no place.
func (p *plainly) asked() []api.Ref {
	l := []api.Ref{{}, ref(-1, 1), ref(p.size, 1)}
	for _, r := range p.given {
		l = append(l, r, ref(r.Index, r.Gen+1))
	}
	return l
}

// both are domains, and the same plainly.
type both struct {
	d *Domains
	p *plainly
}

// same: do both tell the same?
func (b both) same(t *testing.T) {
	t.Helper()
	for _, r := range b.p.asked() {
		var want api.Domain
		var chain []api.Ref
		wanted, x := api.ErrStale, b.p.of(r)
		if x != nil {
			want, wanted = b.p.domain(x), api.OK
		}
		for ; x != nil; x = x.parent {
			chain = append(chain, x.ref)
		}
		if y, e := b.d.Get(r); e != wanted || y != want {
			t.Fatalf("get(%v): %+v, %v; want %+v, %v", r, y, e, want, wanted)
		}
		if gs, cpu, e := b.d.Share(r); e != wanted || gs+want.CarvedGs != want.Gs || cpu+want.Carved != want.CPU {
			t.Fatalf("share(%v): %d, %d, %v of %+v", r, gs, cpu, e, want)
		}
		if l := b.d.Chain(r); !slices.Equal(l, chain) {
			t.Fatalf("chain(%v): %v; want %v", r, l, chain)
		}
	}
	if l, want := b.d.All(), b.p.all(); !slices.Equal(l, want) || b.d.Len() != len(want) || b.d.Root() != want[0].Ref {
		t.Fatalf("all: %v; want %v", l, want)
	}
}

// pick is a ref: mostly one that is there, sometimes any.
func (b both) pick(rnd *rand.Rand) api.Ref {
	if rnd.IntN(12) > 0 {
		return b.p.there[rnd.IntN(len(b.p.there))].ref
	}
	l := b.p.asked()
	return l[rnd.IntN(len(l))]
}

// odd is a number for a limit: mostly one of few, sometimes one that may not be.
func odd(rnd *rand.Rand, few int, most uint64) uint64 {
	if rnd.IntN(20) == 0 {
		return most + 1
	}
	return uint64(rnd.IntN(few))
}

// step does something to both.
func (b both) step(t *testing.T, rnd *rand.Rand) {
	t.Helper()
	r := b.pick(rnd)
	gs, cpu, period := int(odd(rnd, 6, api.MaxGs)), odd(rnd, 30, api.MaxBudget), odd(rnd, 9, api.MaxPeriod)
	var got, want [2]any // a ref, an error
	switch what := rnd.IntN(12); what {
	case 0, 1, 2:
		got[0], got[1] = b.d.Carve(r, gs, cpu, period)
		want[0], want[1] = b.p.carve(r, gs, cpu, period)
	case 3, 4:
		got[1], want[1] = b.d.Merge(r), b.p.merge(r)
	case 5, 6, 7:
		got[1], want[1] = b.d.Join(r), b.p.join(r)
	case 8, 9:
		got[1], want[1] = b.d.Leave(r), b.p.leave(r)
	case 10:
		n := uint64(rnd.IntN(7)) << (rnd.IntN(2) * 62)
		got[1], want[1] = b.d.Use(r, n), b.p.use(r, n)
	default:
		got[1], want[1] = b.d.Clear(r), b.p.clear(r)
	}
	if got != want {
		t.Fatalf("of %v, %d, %d, %d: %v; want %v", r, gs, cpu, period, got, want)
	}
}

// P9.1 to P9.4: whatever is done, both go on alike; so do copies of both, apart.
func TestAsToldPlainly(t *testing.T) {
	rnd := rand.New(rand.NewPCG(37, 38))
	for range 400 {
		size, gs, cpu, period := 1+rnd.IntN(7), rnd.IntN(20), uint64(rnd.IntN(80)), 1+uint64(rnd.IntN(9))
		l := []both{{domains(t, size, gs, cpu, period), newPlainly(size, gs, cpu, period)}}
		for range 150 {
			b := l[rnd.IntN(len(l))]
			if len(l) < 3 && rnd.IntN(20) == 0 {
				l = append(l, both{b.d.Copy(), b.p.copy()})
			}
			b.step(t, rnd)
			for _, o := range l {
				o.same(t)
				if b.d.Same(o.d) != slices.Equal(b.p.all(), o.p.all()) {
					t.Fatalf("same of %v, %v", b.p.all(), o.p.all())
				}
			}
		}
	}
}

// holds asks of all domains what follows of whatever was done: what is below is told by the parents that are named alone.
func holds(t *testing.T, l []api.Placed) {
	t.Helper()
	for _, p := range l {
		x, below := p.Domain, api.Domain{}
		for _, c := range l {
			if c.Domain.Parent == p.Ref {
				below.CarvedGs += c.Domain.Gs
				below.Carved += c.Domain.CPU
				below.Live += c.Domain.Live
				below.Children++
			}
		}
		switch {
		case x.Live > x.Gs || x.Own > x.Gs-x.CarvedGs || x.Carved > x.CPU || x.Own < 0:
			t.Fatalf("%v has more than its share: %+v", p.Ref, x)
		case x.CarvedGs != below.CarvedGs || x.Carved != below.Carved || x.Children != below.Children:
			t.Fatalf("%v: %+v, of whose children %+v is", p.Ref, x, below)
		case x.Live != x.Own+below.Live:
			t.Fatalf("%v: %+v, in whose children %d live", p.Ref, x, below.Live)
		}
	}
}

// P9.5: of limits of all sizes.
func TestHolds(t *testing.T) {
	rnd := rand.New(rand.NewPCG(39, 40))
	deepest, most := 0, 0
	for range 60 {
		size := 1 + rnd.IntN(32)
		d := domains(t, size, rnd.IntN(65), rnd.Uint64N(1<<32+1), 1+rnd.Uint64N(1<<32))
		given := map[api.Ref]bool{root: true}
		for range 400 {
			l := d.All()
			r := l[rnd.IntN(len(l))].Ref
			switch rnd.IntN(9) {
			case 0, 1, 2, 3:
				c, e := d.Carve(r, rnd.IntN(65)>>rnd.IntN(8), rnd.Uint64N(1<<32+1)>>rnd.IntN(16), 1+rnd.Uint64N(1<<32))
				if e == api.OK && given[c] {
					t.Fatal("given once more", c)
				}
				if e == api.OK {
					given[c] = true
				}
			case 4:
				if d.Merge(r) == api.OK {
					asksGone(t, d, r, api.ErrStale)
				}
			case 5, 6:
				d.Join(r)
			default:
				d.Leave(r)
			}
			holds(t, d.All())
			deepest, most = max(deepest, len(d.Chain(r))), max(most, d.Len())
			if d.Len() > size {
				t.Fatalf("%d at %d places", d.Len(), size)
			}
		}
	}
	if deepest < 4 || most < 20 {
		t.Errorf("hardly anything was carved out: %d deep, %d at most", deepest, most)
	}
}
