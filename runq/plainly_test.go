package runq

import (
	"math/rand/v2"
	"slices"
	"testing"
)

// plainly is a queue as the chapter's words tell it: two rows, of which that of who is next has one at most.
type plainly struct {
	most int
	next []int
	row  []int
}

func (p *plainly) put(g int) []int {
	if len(p.row) < p.most {
		p.row = append(p.row, g)
		return nil
	}
	n := (p.most + 1) / 2
	spilled := append(slices.Clone(p.row[:n]), g)
	p.row = slices.Clone(p.row[n:])
	return spilled
}

// kick puts who is next.
func (p *plainly) kick() []int {
	var spilled []int
	for _, g := range p.next {
		spilled = p.put(g)
	}
	p.next = nil
	return spilled
}

func (p *plainly) putNext(g int) []int {
	spilled := p.kick()
	p.next = []int{g}
	return spilled
}

func (p *plainly) take(inherit bool) (int, bool, []int, bool) {
	if inherit && len(p.next) == 1 {
		g := p.next[0]
		p.next = nil
		return g, true, nil, true
	}
	spilled := p.kick()
	if len(p.row) == 0 {
		return 0, false, spilled, false
	}
	g := p.row[0]
	p.row = slices.Clone(p.row[1:])
	return g, false, spilled, true
}

func (p *plainly) remove(g int) bool {
	many := len(p.all())
	not := func(x int) bool { return x == g }
	p.next = slices.DeleteFunc(p.next, not)
	p.row = slices.DeleteFunc(p.row, not)
	return len(p.all()) < many
}

func (p *plainly) steal(cpu int, affinity []uint8) []int {
	able := func(from []int) []int {
		var l []int
		for _, g := range from {
			if g < len(affinity) && affinity[g]>>cpu&1 == 1 {
				l = append(l, g)
			}
		}
		return l
	}
	stolen := able(p.row)
	stolen = stolen[:(len(stolen)+1)/2]
	if len(stolen) == 0 {
		stolen = able(p.next)
	}
	for _, g := range stolen {
		p.remove(g)
	}
	return stolen
}

func (p *plainly) all() []int { return slices.Concat(p.next, p.row) }

func (p *plainly) copy() *plainly {
	return &plainly{p.most, slices.Clone(p.next), slices.Clone(p.row)}
}

// both are a queue, and the same plainly.
type both struct {
	q *Queue
	p *plainly
}

// fresh is a number that is not there.
func (b both) fresh(rnd *rand.Rand) int {
	for {
		if g := rnd.IntN(30); !slices.Contains(b.p.all(), g) {
			return g
		}
	}
}

// step does something to both; who came, and who went by it.
func (b both) step(t *testing.T, rnd *rand.Rand) (came, went []int) {
	t.Helper()
	switch rnd.IntN(8) {
	case 0, 1, 2:
		g := b.fresh(rnd)
		want := b.p.put(g)
		puts(t, b.q, g, want...)
		return []int{g}, want
	case 3, 4:
		g := b.fresh(rnd)
		want := b.p.putNext(g)
		putsNext(t, b.q, g, want...)
		return []int{g}, want
	case 5:
		inherit := rnd.IntN(2) == 0
		g, next, spilled, is := b.p.take(inherit)
		if !is {
			takesNobody(t, b.q)
			return nil, nil
		}
		takes(t, b.q, inherit, g, next, spilled...)
		return nil, append(slices.Clone(spilled), g)
	case 6:
		g := rnd.IntN(30)
		want := b.p.remove(g)
		if was := b.q.Remove(g); was != want {
			t.Fatalf("remove(%d): %v", g, was)
		}
		if want {
			went = []int{g}
		}
	case 7:
		affinity := make([]uint8, rnd.IntN(31))
		for g := range affinity {
			affinity[g] = uint8(rnd.IntN(256) & rnd.IntN(256))
		}
		cpu := rnd.IntN(8)
		went = b.p.steal(cpu, affinity)
		steals(t, b.q, cpu, affinity, went...)
	}
	return nil, went
}

// same: do both tell the same?
func (b both) same(t *testing.T) {
	t.Helper()
	if len(b.p.next) == 1 {
		isNext(t, b.q, b.p.next[0], b.p.row...)
	} else {
		is(t, b.q, b.p.row...)
	}
	if t.Failed() {
		t.FailNow()
	}
}

// P5.1 to P5.4: whatever is done, both go on alike; so do copies of both, apart.
func TestAsToldPlainly(t *testing.T) {
	rnd := rand.New(rand.NewPCG(7, 8))
	for range 400 {
		most := 2 + rnd.IntN(7)
		l := []both{{queue(t, most), &plainly{most: most}}}
		for range 80 {
			b := l[rnd.IntN(len(l))]
			if len(l) < 3 && rnd.IntN(20) == 0 {
				l = append(l, both{b.q.Copy(), b.p.copy()})
			}
			b.step(t, rnd)
			for _, o := range l {
				o.same(t)
				if b.q.Same(o.q) != (slices.Equal(b.p.next, o.p.next) && slices.Equal(b.p.row, o.p.row)) {
					t.Fatalf("same of %v, %v", b.p, o.p)
				}
			}
		}
	}
}

// P5.5: who is put is there, or was spilled, just once; who goes is told, and is there no more; nobody else comes or goes.
func TestNobodyIsLost(t *testing.T) {
	rnd := rand.New(rand.NewPCG(9, 10))
	for range 300 {
		most := 2 + rnd.IntN(6)
		b := both{queue(t, most), &plainly{most: most}}
		for range 100 {
			was := b.q.All()
			came, went := b.step(t, rnd)
			l := append(slices.Clone(b.q.All()), went...)
			want := append(was, came...)
			slices.Sort(l)
			slices.Sort(want)
			if t.Failed() || !slices.Equal(l, want) || len(slices.Compact(l)) != len(want) {
				t.Fatalf("there, or gone: %v; want %v", l, want)
			}
		}
	}
}

// P5.5: in the ring one comes nearer to the front by as many as went from ahead of it, and nobody gets ahead of another one.
func TestComesNearer(t *testing.T) {
	rnd := rand.New(rand.NewPCG(11, 12))
	place := func(q *Queue, g int) int {
		l := q.All()
		if _, is := q.Next(); is {
			l = l[1:]
		}
		return slices.Index(l, g)
	}
	for range 300 {
		most := 2 + rnd.IntN(6)
		b := both{queue(t, most), &plainly{most: most}}
		for range 100 {
			was := b.p.copy()
			_, went := b.step(t, rnd)
			for i, g := range was.row {
				if slices.Contains(went, g) {
					continue
				}
				ahead := 0
				for _, x := range was.row[:i] {
					if slices.Contains(went, x) {
						ahead++
					}
				}
				if now := place(b.q, g); now != i-ahead {
					t.Fatalf("%d of %v: at %d, though %v went", g, was.row, now, went)
				}
			}
		}
	}
}
