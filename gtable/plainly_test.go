package gtable

import (
	"math/rand/v2"
	"slices"
	"testing"

	"helmsman/api"
)

// one is a goroutine that came, as the chapter's words tell it: who is gone stays in the row.
type one struct {
	ref   api.Ref
	there bool
	g     api.G
}

// plainly is a table as the chapter's words tell it: all that ever came, one behind the other.
type plainly struct {
	size  int
	may   map[turn]bool
	came  []one
	freed []int // places, as they were freed
}

// of is who is named by a ref, or nil.
func (p *plainly) of(r api.Ref) *one {
	for i := range p.came {
		if p.came[i].there && p.came[i].ref == r {
			return &p.came[i]
		}
	}
	return nil
}

// at is who is at a place, or nil.
func (p *plainly) at(i int) *one {
	for j := range p.came {
		if p.came[j].there && p.came[j].ref.Index == i {
			return &p.came[j]
		}
	}
	return nil
}

// place is the one that is taken next: the one that was freed last, else the least that was never taken; below 0: none.
func (p *plainly) place() int {
	for _, i := range slices.Backward(p.freed) {
		if p.at(i) == nil {
			return i
		}
	}
	for i := range p.size {
		if p.at(i) == nil {
			return i
		}
	}
	return -1
}

func (p *plainly) make(g api.G) (api.Ref, api.Errno) {
	i := p.place()
	switch {
	case !mayBe(g):
		return api.Ref{}, api.ErrArg
	case i < 0:
		return api.Ref{}, api.ErrFull
	}
	gen := uint64(1)
	for _, x := range p.came {
		if x.ref.Index == i {
			gen++
		}
	}
	p.came = append(p.came, one{ref(i, gen), true, g})
	return ref(i, gen), api.OK
}

func (p *plainly) set(r api.Ref, g api.G) api.Errno {
	x := p.of(r)
	switch {
	case !mayBe(g):
		return api.ErrArg
	case x == nil:
		return api.ErrStale
	case x.g.State != g.State:
		return api.ErrState
	}
	x.g = g
	return api.OK
}

func (p *plainly) turn(r api.Ref, to api.State) api.Errno {
	x := p.of(r)
	switch {
	case x == nil:
		return api.ErrStale
	case !p.may[turn{x.g.State, to}]:
		return api.ErrState
	}
	x.g = turned(x.g, to)
	return api.OK
}

func (p *plainly) drop(r api.Ref) api.Errno {
	x := p.of(r)
	if x == nil {
		return api.ErrStale
	}
	x.there = false
	p.freed = append(p.freed, r.Index)
	return api.OK
}

// all are those that are there, by places.
func (p *plainly) all() []api.Task {
	var l []api.Task
	for i := range p.size {
		if x := p.at(i); x != nil {
			l = append(l, api.Task{Ref: x.ref, G: x.g})
		}
	}
	return l
}

func (p *plainly) copy() *plainly {
	return &plainly{p.size, p.may, slices.Clone(p.came), slices.Clone(p.freed)}
}

// asked are the refs that are asked for: all that were given, those beside them, and some of no place.
func (p *plainly) asked() []api.Ref {
	l := []api.Ref{{}, ref(-1, 1), ref(p.size, 1)}
	for _, x := range p.came {
		l = append(l, x.ref, ref(x.ref.Index, x.ref.Gen+1))
	}
	return l
}

// both are a table, and the same plainly.
type both struct {
	x *Table
	p *plainly
}

// same: do both tell the same?
func (b both) same(t *testing.T) {
	t.Helper()
	for _, r := range b.p.asked() {
		var want api.G
		wanted := api.ErrStale
		if x := b.p.of(r); x != nil {
			want, wanted = x.g, api.OK
		}
		if g, e := b.x.Get(r); g != want || e != wanted {
			t.Fatalf("get(%v): %+v, %v; want %+v, %v", r, g, e, want, wanted)
		}
	}
	want := b.p.all()
	if l := b.x.All(); !slices.Equal(l, want) || b.x.Live() != len(want) {
		t.Fatalf("all: %v; want %v", l, want)
	}
	affinities, of := make([]uint8, b.p.size), map[api.State][]api.Ref{}
	for _, x := range want {
		affinities[x.Ref.Index] = x.G.Affinity
		of[x.G.State] = append(of[x.G.State], x.Ref)
		if !May(x.G) {
			t.Fatalf("%+v may not be", x)
		}
	}
	if l := b.x.Affinities(); !slices.Equal(l, affinities) {
		t.Fatalf("affinities: %v; want %v", l, affinities)
	}
	for s := api.State(-1); s <= 7; s++ {
		if l := b.x.Of(s); !slices.Equal(l, of[s]) {
			t.Fatalf("of %d: %v; want %v", s, l, of[s])
		}
	}
	for i := -1; i <= b.p.size; i++ {
		var want api.Ref
		x := b.p.at(i)
		if x != nil {
			want = x.ref
		}
		if r, is := b.x.At(i); r != want || is != (x != nil) {
			t.Fatalf("at(%d): %v, %v; want %v", i, r, is, want)
		}
	}
}

// anybody is a random goroutine: mostly one that may be.
func anybody(rnd *rand.Rand, s api.State) api.G {
	g := api.G{
		State: s, Suspended: s == api.Suspended || s != api.Runnable && s != api.Running && rnd.IntN(2) == 0, Domain: ref(rnd.IntN(3), 1), Context: ref(rnd.IntN(3), 2),
		Affinity: uint8(rnd.IntN(256)), Program: rnd.IntN(16), PC: rnd.IntN(300), Code: api.Errno(rnd.IntN(18)),
	}
	for i := range g.Regs {
		g.Regs[i] = rnd.Uint64() >> rnd.IntN(64)
	}
	if s == api.Sleeping && rnd.IntN(3) > 0 {
		g.Until = rnd.Uint64N(1<<60+1) >> rnd.IntN(61)
	}
	switch rnd.IntN(40) {
	case 0:
		g.Suspended = !g.Suspended
	case 1:
		g.Until = 1<<60 - 1 + rnd.Uint64N(3)
	case 2:
		g.Program -= 16
	case 3:
		g.PC -= 300
	}
	return g
}

// pick is a ref: mostly one that is there, sometimes any.
func (b both) pick(rnd *rand.Rand) api.Ref {
	if l := b.p.all(); len(l) > 0 && rnd.IntN(8) > 0 {
		return l[rnd.IntN(len(l))].Ref
	}
	l := b.p.asked()
	return l[rnd.IntN(len(l))]
}

// step does something to both, and asks for the same answers: the error.
func (b both) step(t *testing.T, rnd *rand.Rand) api.Errno {
	t.Helper()
	r, s := b.pick(rnd), api.State(rnd.IntN(9)-1)
	var wanted, want api.Ref
	var e, f api.Errno
	switch what := rnd.IntN(20); {
	case what < 5:
		g := anybody(rnd, s)
		wanted, f = b.p.make(g)
		want, e = b.x.Make(g)
	case what < 7:
		e, f = b.x.Drop(r), b.p.drop(r)
	case what < 12:
		if x := b.p.of(r); x != nil && rnd.IntN(4) > 0 {
			s = x.g.State
		}
		g := anybody(rnd, s)
		e, f = b.x.Set(r, g), b.p.set(r, g)
	default:
		e, f = b.x.Turn(r, s), b.p.turn(r, s)
	}
	if want != wanted || e != f {
		t.Fatalf("of %v, state %d: %v, %v; want %v, %v", r, s, want, e, wanted, f)
	}
	return e
}

// P16.2 to P16.5: whatever is done, wrong things too, both go on alike; so do copies of both, apart.
func TestAsToldPlainly(t *testing.T) {
	rnd := rand.New(rand.NewPCG(61, 62))
	went := map[api.Errno]int{}
	for range 150 {
		size := 1 + rnd.IntN(7)
		l := []both{{table(t, size), &plainly{size: size, may: mayTurn(t)}}}
		for range 120 {
			b := l[rnd.IntN(len(l))]
			if rnd.IntN(20) == 0 {
				l = append(l[max(len(l)-2, 0):], both{b.x.Copy(), b.p.copy()})
			}
			went[b.step(t, rnd)]++
			for _, o := range l {
				o.same(t)
				if b.x.Same(o.x) != slices.Equal(b.p.all(), o.p.all()) {
					t.Fatalf("same of %v, %v", b.p.all(), o.p.all())
				}
			}
		}
	}
	for _, e := range []api.Errno{api.OK, api.ErrArg, api.ErrStale, api.ErrState, api.ErrFull} {
		if went[e] < 500 {
			t.Errorf("%v: %d times", e, went[e])
		}
	}
}

// P16.5: tables of all sizes; who went is asked for again behind each step, and whoever is there may be.
func TestHolds(t *testing.T) {
	rnd := rand.New(rand.NewPCG(63, 64))
	most, turns := 0, 0
	for range 40 {
		x := table(t, 1+rnd.IntN(api.MaxGs))
		var there, went []api.Ref
		for range 400 {
			if r, e := x.Make(anybody(rnd, api.State(1+rnd.IntN(6)))); e == api.OK {
				if slices.Contains(there, r) || slices.Contains(went, r) {
					t.Fatalf("%v was given twice", r)
				}
				there = append(there, r)
			}
			for range 4 {
				if len(there) > 0 && x.Turn(there[rnd.IntN(len(there))], api.State(rnd.IntN(8))) == api.OK {
					turns++
				}
			}
			if n := len(there); n > 0 && rnd.IntN(3) == 0 {
				i := rnd.IntN(n)
				asks(t, "drop", x.Drop(there[i]), api.OK)
				went = append(went, there[i])
				there = slices.Delete(there, i, i+1)
			}
			for _, r := range went {
				if _, e := x.Get(r); e != api.ErrStale {
					t.Fatalf("%v: %v", r, e)
				}
			}
			for _, y := range x.All() {
				if !mayBe(y.G) || !slices.Contains(there, y.Ref) {
					t.Fatalf("%+v", y)
				}
			}
			most = max(most, x.Live())
		}
	}
	if most < 50 || turns < 5000 {
		t.Errorf("hardly anything was there: %d at most, %d turns", most, turns)
	}
}
