package arena

import (
	"math/rand/v2"
	"reflect"
	"slices"
	"testing"

	"helmsman/api"
)

// plainly is a table as the chapter's words tell it: all that ever came, one behind the other.
type plainly struct {
	size  int
	first uint64
	came  []came
	gone  []int // places, as they were freed
}

// came is what came, under which ref, and is it there still?
type came struct {
	ref   api.Ref
	thing int
	there bool
}

// nextGen is which generation comes next at a place; 0, if it is retired.
func (p *plainly) nextGen(i int) uint64 {
	gen := p.first
	for _, c := range p.came {
		if c.ref.Index == i {
			if c.ref.Gen == top-1 {
				return 0
			}
			gen = c.ref.Gen + 1
		}
	}
	return gen
}

func (p *plainly) at(i int) int {
	return slices.IndexFunc(p.came, func(c came) bool { return c.there && c.ref.Index == i })
}

func (p *plainly) of(r api.Ref) int {
	return slices.IndexFunc(p.came, func(c came) bool { return c.there && c.ref == r })
}

// free are the free places, in the order in which they are taken.
func (p *plainly) free() []int {
	var l []int
	for _, i := range slices.Backward(p.gone) {
		if p.at(i) < 0 && p.nextGen(i) != 0 && !slices.Contains(l, i) {
			l = append(l, i)
		}
	}
	for i := range p.size {
		if !slices.ContainsFunc(p.came, func(c came) bool { return c.ref.Index == i }) {
			l = append(l, i)
		}
	}
	return l
}

func (p *plainly) put(x int) (api.Ref, api.Errno) {
	l := p.free()
	if len(l) == 0 {
		return api.Ref{}, api.ErrFull
	}
	r := ref(l[0], p.nextGen(l[0]))
	p.came = append(p.came, came{r, x, true})
	return r, api.OK
}

func (p *plainly) get(r api.Ref) (int, api.Errno) {
	if n := p.of(r); n >= 0 {
		return p.came[n].thing, api.OK
	}
	return 0, api.ErrStale
}

func (p *plainly) set(r api.Ref, x int) api.Errno {
	n := p.of(r)
	if n < 0 {
		return api.ErrStale
	}
	p.came[n].thing = x
	return api.OK
}

func (p *plainly) drop(r api.Ref) api.Errno {
	n := p.of(r)
	if n < 0 {
		return api.ErrStale
	}
	p.came[n].there = false
	p.gone = append(p.gone, r.Index)
	return api.OK
}

func (p *plainly) all() []pair[int] {
	var l []pair[int]
	for i := range p.size {
		if n := p.at(i); n >= 0 {
			l = append(l, pair[int]{p.came[n].ref, p.came[n].thing})
		}
	}
	return l
}

func (p *plainly) copy() *plainly {
	return &plainly{p.size, p.first, slices.Clone(p.came), slices.Clone(p.gone)}
}

// asked are the refs that are asked for: all that were given, those beside them, and some of no place.
func (p *plainly) asked() []api.Ref {
	l := []api.Ref{{}, ref(-1, p.first), ref(p.size, p.first)}
	for _, c := range p.came {
		l = append(l, c.ref, ref(c.ref.Index, c.ref.Gen+1), ref(c.ref.Index, c.ref.Gen-1))
	}
	return l
}

// both are a table, and the same plainly.
type both struct {
	a *Table[int]
	p *plainly
}

// same: do both tell the same?
func (b both) same(t *testing.T) {
	t.Helper()
	for _, r := range b.p.asked() {
		x, e := b.a.Get(r)
		if want, is := b.p.get(r); x != want || e != is {
			t.Fatalf("get(%v): %d, %v; want %d, %v", r, x, e, want, is)
		}
	}
	l := b.p.all()
	if now := all(b.a); !reflect.DeepEqual(now, l) {
		t.Fatalf("all: %v; want %v", now, l)
	}
	free := len(b.p.free())
	counts(t, b.a, len(l), b.p.size, free, b.p.size-free-len(l))
	if b.a.Len()+b.a.Free()+b.a.Retired() != b.a.Size() {
		t.Fatal("not Size together")
	}
}

// pick is a ref: mostly one that is there, sometimes any.
func (b both) pick(r *rand.Rand) api.Ref {
	if l := b.p.all(); len(l) > 0 && r.IntN(4) > 0 {
		return l[r.IntN(len(l))].ref
	}
	l := b.p.asked()
	return l[r.IntN(len(l))]
}

// step does something to both.
func (b both) step(t *testing.T, r *rand.Rand, x int) {
	t.Helper()
	switch r.IntN(5) {
	case 0, 1:
		n, e := b.a.Put(x)
		given := slices.ContainsFunc(b.p.came, func(c came) bool { return c.ref == n })
		if e == api.OK && given {
			t.Fatalf("%v is given twice", n)
		}
		if want, is := b.p.put(x); n != want || e != is {
			t.Fatalf("put: %v, %v; want %v, %v", n, e, want, is)
		}
	case 2, 3:
		n := b.pick(r)
		if e, want := b.a.Drop(n), b.p.drop(n); e != want {
			t.Fatalf("drop(%v): %v, want %v", n, e, want)
		}
	case 4:
		n := b.pick(r)
		if e, want := b.a.Set(n, x), b.p.set(n, x); e != want {
			t.Fatalf("set(%v): %v, want %v", n, e, want)
		}
	}
}

// P2.1 to P2.4: whatever is done, both go on alike; so do copies of both, apart.
func TestAsToldPlainly(t *testing.T) {
	r := rand.New(rand.NewPCG(3, 4))
	for run := range 200 {
		size, first := 1+r.IntN(6), uint64(1+r.IntN(3))
		if run%2 == 1 {
			first = top - 1 - uint64(r.IntN(5))
		}
		a, e := New[int](size, first)
		if e != api.OK {
			t.Fatal(e)
		}
		l := []both{{a, &plainly{size: size, first: first}}}
		for x := range 60 {
			b := l[r.IntN(len(l))]
			if len(l) < 3 && r.IntN(20) == 0 {
				l = append(l, both{b.a.Copy(), b.p.copy()})
			}
			b.step(t, r, x)
			for _, o := range l {
				o.same(t)
			}
		}
	}
}
