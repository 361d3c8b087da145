package quota

import (
	"math/big"
	"math/rand/v2"
	"slices"
	"testing"

	"helmsman/api"
	"helmsman/domain"
)

// one is a domain as the chapter's words tell it: at which times it was charged, or one below it, is kept whole, and what is used is counted from that.
type one struct {
	parent *one // nil of the root
	cpu    uint64
	period uint64
	ticks  []uint64
}

// used is how many ticks were used since the last multiple of its period.
func (x *one) used(now uint64) uint64 {
	n := uint64(0)
	for _, at := range x.ticks {
		if at >= now/x.period*x.period {
			n++
		}
	}
	return n
}

// plainly are domains as the chapter's words tell them, at a time.
type plainly struct {
	now   uint64
	there map[api.Ref]*one
	gone  []*one
}

// can: is it there, and is something left in each one of its chain?
func (p *plainly) can(r api.Ref) bool {
	x := p.there[r]
	for up := x; up != nil; up = up.parent {
		if up.used(p.now) >= up.cpu {
			return false
		}
	}
	return x != nil
}

func (p *plainly) charge(r api.Ref) bool {
	if !p.can(r) {
		return false
	}
	for x := p.there[r]; x != nil; x = x.parent {
		x.ticks = append(x.ticks, p.now)
	}
	return true
}

// left is how often it is charged, if it is till it can't be; all is as it was then.
func (p *plainly) left(r api.Ref) uint64 {
	n := uint64(0)
	for p.charge(r) {
		n++
	}
	for x := p.there[r]; x != nil; x = x.parent {
		x.ticks = x.ticks[:len(x.ticks)-int(n)]
	}
	return n
}

// tight is the first one of its chain of which nothing is left, or nil.
func (p *plainly) tight(r api.Ref) *one {
	for x := p.there[r]; x != nil; x = x.parent {
		if x.used(p.now) == x.cpu {
			return x
		}
	}
	return nil
}

// begins: does a period of one begin then?
func (x *one) begins(at uint64) bool { return at/x.period*x.period == at }

// next is the first time behind now at which the period of one begins.
func (p *plainly) next() uint64 {
	for at := p.now + 1; ; at++ {
		for _, x := range p.there {
			if x.begins(at) {
				return at
			}
		}
	}
}

// asked are the refs that are asked for: those that are there, those beside them, and that of nothing.
func asked(d *domain.Domains) []api.Ref {
	l := []api.Ref{{}}
	for _, p := range d.All() {
		l = append(l, p.Ref, ref(p.Ref.Index, p.Ref.Gen+1), ref(p.Ref.Index, p.Ref.Gen-1))
	}
	return l
}

// same: do both tell the same?
func same(t *testing.T, d *domain.Domains, p *plainly) {
	t.Helper()
	for _, r := range asked(d) {
		if is, n := Can(d, r), Left(d, r); is != p.can(r) || n != p.left(r) {
			t.Fatalf("can, left(%v) at %d: %v, %d; want %v, %d", r, p.now, is, n, p.can(r), p.left(r))
		}
		if at, is := Tight(d, r); is != (p.tight(r) != nil) || p.there[at] != p.tight(r) || !is && at != (api.Ref{}) {
			t.Fatalf("tight(%v) at %d: %v, %v; want %v", r, p.now, at, is, p.tight(r))
		}
	}
	for _, x := range d.All() {
		if want := p.there[x.Ref].used(p.now); x.Domain.Used != want {
			t.Fatalf("used of %v at %d: %d; want %d", x.Ref, p.now, x.Domain.Used, want)
		}
	}
	if at, is := Next(d, p.now); !is || at != p.next() {
		t.Fatalf("next(%d): %d, %v; want %d", p.now, at, is, p.next())
	}
}

// goOn has both go on by one, where periods begin.
func goOn(t *testing.T, d *domain.Domains, p *plainly) {
	t.Helper()
	p.now++
	var want []api.Ref
	for _, x := range d.All() {
		if p.there[x.Ref].begins(p.now) {
			want = append(want, x.Ref)
		}
	}
	if l := Reset(d, p.now); !slices.Equal(l, want) {
		t.Fatalf("reset(%d): %v; want %v", p.now, l, want)
	}
}

// pick is a ref: mostly one that is there, sometimes any.
func pick(rnd *rand.Rand, d *domain.Domains) api.Ref {
	if l := d.All(); rnd.IntN(12) > 0 {
		return l[rnd.IntN(len(l))].Ref
	}
	l := asked(d)
	return l[rnd.IntN(len(l))]
}

// step does something to both.
func step(t *testing.T, rnd *rand.Rand, d *domain.Domains, p *plainly) {
	t.Helper()
	r := pick(rnd, d)
	switch what := rnd.IntN(12); what {
	case 0:
		cpu, period := uint64(rnd.IntN(9)), 1+uint64(rnd.IntN(12))
		if c, e := d.Carve(r, 0, cpu, period); e == api.OK {
			p.there[c] = &one{parent: p.there[r], cpu: cpu, period: period}
		}
	case 1:
		if rnd.IntN(3) == 0 && d.Merge(r) == api.OK {
			p.gone = append(p.gone, p.there[r])
			delete(p.there, r)
		}
	case 2, 3, 4, 5:
		goOn(t, d, p)
	default:
		if is, want := Charge(d, r), p.charge(r); is != want {
			t.Fatalf("charge(%v) at %d: %v; want %v", r, p.now, is, want)
		}
	}
}

// most is how often one was charged at most within a period of its, and in how many of these as often as it may be.
func (x *one) most() (uint64, int) {
	in, most, full := map[uint64]uint64{}, uint64(0), 0
	for _, at := range x.ticks {
		in[at/x.period]++
	}
	for _, n := range in {
		most = max(most, n)
		if n == x.cpu {
			full++
		}
	}
	return most, full
}

// P10.1 to P10.4: whatever is done, both go on alike; and no domain is used above its CPU within a period of its.
func TestAsToldPlainly(t *testing.T) {
	rnd := rand.New(rand.NewPCG(101, 102))
	full, deepest := 0, 0
	for range 150 {
		cpu, period := uint64(rnd.IntN(14)), 1+uint64(rnd.IntN(12))
		d := domains(t, 1+rnd.IntN(7), cpu, period)
		p := &plainly{there: map[api.Ref]*one{root: {cpu: cpu, period: period}}}
		for range 200 {
			step(t, rnd, d, p)
			same(t, d, p)
		}
		for _, x := range d.All() {
			p.gone = append(p.gone, p.there[x.Ref])
			deepest = max(deepest, len(d.Chain(x.Ref)))
		}
		for _, x := range p.gone {
			most, many := x.most()
			if most > x.cpu {
				t.Fatalf("%d of %d within a period of %d: %v", most, x.cpu, x.period, x.ticks)
			}
			full += many
		}
	}
	if full < 500 || deepest < 4 {
		t.Errorf("hardly anything was used up: %d periods; %d deep", full, deepest)
	}
}

// P10.2, P10.3: limits, uses and times of all sizes, held against whole numbers without bounds.
func TestOfAllSizes(t *testing.T) {
	rnd := rand.New(rand.NewPCG(103, 104))
	last := new(big.Int).SetUint64(top)
	for range 3000 {
		d := domains(t, 6, rnd.Uint64N(1<<32+1), 1+rnd.Uint64N(1<<32)>>rnd.IntN(33))
		for range rnd.IntN(6) {
			l := d.All()
			d.Carve(l[rnd.IntN(len(l))].Ref, 0, rnd.Uint64N(1<<32)>>rnd.IntN(8), 1+rnd.Uint64N(1<<32)>>rnd.IntN(33))
		}
		now := rnd.Uint64() >> rnd.IntN(65)
		if rnd.IntN(3) == 0 {
			now = top - now>>31
		}
		var begun []api.Ref
		next := new(big.Int)
		for _, x := range d.All() {
			d.Use(x.Ref, rnd.Uint64()>>(31+rnd.IntN(33)))
			at, rest := new(big.Int).DivMod(new(big.Int).SetUint64(now), new(big.Int).SetUint64(x.Domain.Period), new(big.Int))
			if rest.Sign() == 0 {
				begun = append(begun, x.Ref)
			}
			at.Mul(at.Add(at, big.NewInt(1)), new(big.Int).SetUint64(x.Domain.Period))
			if at.Cmp(last) <= 0 && (next.Sign() == 0 || at.Cmp(next) < 0) {
				next = at
			}
		}
		nextIs(t, d, now, next.Uint64())
		for _, x := range d.All() {
			n, tight := uint64(top), api.Ref{}
			for _, up := range slices.Backward(d.Chain(x.Ref)) {
				if y, _ := d.Get(up); y.Used >= y.CPU {
					n, tight = 0, up
				} else {
					n = min(n, y.CPU-y.Used)
				}
			}
			isLeft(t, d, x.Ref, n, tight)
		}
		if l := Reset(d, now); !slices.Equal(l, begun) {
			t.Fatalf("reset(%d): %v; want %v", now, l, begun)
		}
	}
}
