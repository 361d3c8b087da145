package ring

import (
	"math/rand/v2"
	"slices"
	"testing"

	"helmsman/api"
)

// plainly is a ring as the chapter's words tell it: a row without any slots.
type plainly struct {
	most int
	row  []int
}

func (p *plainly) push(x int) api.Errno {
	if len(p.row) == p.most {
		return api.ErrFull
	}
	p.row = append(p.row, x)
	return api.OK
}

func (p *plainly) take(n int) []int {
	n = max(0, min(n, len(p.row)))
	l := slices.Clone(p.row[:n])
	p.row = slices.Delete(p.row, 0, n)
	return l
}

func (p *plainly) remove(x int) bool {
	i := slices.Index(p.row, x)
	if i >= 0 {
		p.row = slices.Delete(p.row, i, i+1)
	}
	return i >= 0
}

func (p *plainly) copy() *plainly { return &plainly{p.most, slices.Clone(p.row)} }

// both are a ring, and the same plainly.
type both struct {
	r *Ring
	p *plainly
}

// step does something to both.
func (b both) step(t *testing.T, rnd *rand.Rand) {
	t.Helper()
	x, n := rnd.IntN(5), rnd.IntN(b.p.most+3)-1
	switch rnd.IntN(7) {
	case 0, 1, 2:
		if e, want := b.r.Push(x), b.p.push(x); e != want {
			t.Fatalf("push(%d): %v, want %v", x, e, want)
		}
	case 3, 4:
		y, was := b.r.Pop()
		if want := b.p.take(1); was != (len(want) == 1) || was && y != want[0] || !was && y != 0 {
			t.Fatalf("pop: %d, %v; want %v", y, was, want)
		}
	case 5:
		if l, want := b.r.Take(n), b.p.take(n); !slices.Equal(l, want) {
			t.Fatalf("take(%d): %v, want %v", n, l, want)
		}
	case 6:
		if was, want := b.r.Remove(x), b.p.remove(x); was != want {
			t.Fatalf("remove(%d): %v, want %v", x, was, want)
		}
	}
}

// same: do both tell the same?
func (b both) same(t *testing.T) {
	t.Helper()
	is(t, b.r, b.p.most, b.p.row...)
	for x := range 6 {
		if b.r.Has(x) != slices.Contains(b.p.row, x) {
			t.Errorf("has(%d) of %v", x, b.p.row)
		}
	}
	if t.Failed() {
		t.FailNow()
	}
}

// P3.1 to P3.4: whatever is done, both go on alike; so do copies of both, apart.
func TestAsToldPlainly(t *testing.T) {
	rnd := rand.New(rand.NewPCG(5, 6))
	for range 400 {
		most := 1 + rnd.IntN(8)
		l := []both{{ring(t, most), &plainly{most: most}}}
		for range 80 {
			b := l[rnd.IntN(len(l))]
			if len(l) < 3 && rnd.IntN(20) == 0 {
				l = append(l, both{b.r.Copy(), b.p.copy()})
			}
			b.step(t, rnd)
			for _, o := range l {
				o.same(t)
				if b.r.Same(o.r) != slices.Equal(b.p.row, o.p.row) {
					t.Fatalf("same of %v, %v", b.p.row, o.p.row)
				}
			}
		}
	}
}
