package heap

import (
	"math/rand/v2"
	"slices"
	"testing"

	"helmsman/api"
)

// plainly are timers as the chapter's words tell them: in the order in which they were put.
type plainly struct {
	row []api.Timer
}

// of is where that of an ID stands, or -1.
func (p *plainly) of(id int) int {
	return slices.IndexFunc(p.row, func(x api.Timer) bool { return x.ID == id })
}

func (p *plainly) put(at uint64, id int) api.Errno {
	if p.of(id) >= 0 {
		return api.ErrBusy
	}
	p.row = append(p.row, api.Timer{At: at, ID: id})
	return api.OK
}

// all are all, in their order: of each one, all that were put ahead of it and are not later, and all that are earlier, stand ahead of it.
func (p *plainly) all() []api.Timer {
	l := make([]api.Timer, len(p.row))
	for i, x := range p.row {
		ahead := 0
		for j, y := range p.row {
			if y.At < x.At || y.At == x.At && j < i {
				ahead++
			}
		}
		l[ahead] = x
	}
	return l
}

func (p *plainly) remove(id int) bool {
	i := p.of(id)
	if i >= 0 {
		p.row = slices.Delete(p.row, i, i+1)
	}
	return i >= 0
}

func (p *plainly) pop(now uint64) (int, bool) {
	l := p.all()
	if len(l) == 0 || l[0].At > now {
		return 0, false
	}
	p.remove(l[0].ID)
	return l[0].ID, true
}

func (p *plainly) copy() *plainly { return &plainly{slices.Clone(p.row)} }

// both are a heap, and the same plainly.
type both struct {
	h *Heap
	p *plainly
}

// step does something to both; times and IDs are few, so that they meet.
func (b both) step(t *testing.T, rnd *rand.Rand) {
	t.Helper()
	when, id := uint64(rnd.IntN(8)), rnd.IntN(24)-4
	switch rnd.IntN(8) {
	case 0, 1, 2, 3:
		if e, want := b.h.Put(when, id), b.p.put(when, id); e != want {
			t.Fatalf("put(%d, %d): %v, want %v", when, id, e, want)
		}
	case 4, 5:
		if was, want := b.h.Remove(id), b.p.remove(id); was != want {
			t.Fatalf("remove(%d): %v, want %v", id, was, want)
		}
	case 6, 7:
		x, went := b.h.Pop(when)
		if want, is := b.p.pop(when); x != want || went != is {
			t.Fatalf("pop(%d): %d, %v; want %d, %v", when, x, went, want, is)
		}
	}
}

// same: do both tell the same?
func (b both) same(t *testing.T) {
	t.Helper()
	is(t, b.h, b.p.all()...)
	for id := -5; id < 21; id++ {
		if b.h.Has(id) != (b.p.of(id) >= 0) {
			t.Errorf("has(%d) of %v", id, b.p.row)
		}
	}
	if t.Failed() {
		t.FailNow()
	}
}

// P4.1 to P4.3: whatever is done, both go on alike; so do copies of both, apart.
func TestAsToldPlainly(t *testing.T) {
	rnd := rand.New(rand.NewPCG(7, 8))
	for run := range 300 {
		h := New()
		if run%2 == 1 {
			h = new(Heap)
		}
		l := []both{{h, new(plainly)}}
		for range 100 {
			b := l[rnd.IntN(len(l))]
			if len(l) < 3 && rnd.IntN(20) == 0 {
				l = append(l, both{b.h.Copy(), b.p.copy()})
			}
			b.step(t, rnd)
			for _, o := range l {
				o.same(t)
				if b.h.Same(o.h) != slices.Equal(b.p.all(), o.p.all()) {
					t.Fatalf("same of %v, %v", b.p.row, o.p.row)
				}
			}
		}
	}
}
