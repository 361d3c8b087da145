package global

import (
	"math/rand/v2"
	"slices"
	"testing"
)

// plainly is a queue as the chapter's words tell it: a list.
type plainly []int

// able: may g run on p?
func able(g, p int, affinity []uint8) bool {
	return g >= 0 && g < len(affinity) && affinity[g]>>p&1 == 1
}

func (l *plainly) take(p int, affinity []uint8) (int, bool) {
	i := slices.IndexFunc(*l, func(g int) bool { return able(g, p, affinity) })
	if i < 0 {
		return 0, false
	}
	g := (*l)[i]
	*l = slices.Delete(slices.Clone(*l), i, i+1)
	return g, true
}

func (l *plainly) remove(g int) bool {
	i := slices.Index(*l, g)
	if i >= 0 {
		*l = slices.Delete(slices.Clone(*l), i, i+1)
	}
	return i >= 0
}

func (l plainly) ahead(g, p int, affinity []uint8) (int, bool) {
	i := slices.Index(l, g)
	if i < 0 || !able(g, p, affinity) {
		return 0, false
	}
	n := 0
	for _, x := range l[:i] {
		if able(x, p, affinity) {
			n++
		}
	}
	return n, true
}

// sets are affinities by chance.
func sets(rnd *rand.Rand, many int) []uint8 {
	l := make([]uint8, many)
	for g := range l {
		l[g] = uint8(rnd.IntN(256) & rnd.IntN(256))
	}
	return l
}

// both are a queue, and the same plainly.
type both struct {
	q *Queue
	l *plainly
}

// step does something to both.
func (b both) step(t *testing.T, rnd *rand.Rand) {
	t.Helper()
	g, p, affinity := rnd.IntN(14)-2, rnd.IntN(8), sets(rnd, rnd.IntN(14))
	switch rnd.IntN(5) {
	case 0, 1:
		l := make([]int, rnd.IntN(4))
		for i := range l {
			l[i] = rnd.IntN(14) - 2
		}
		b.q.Put(l...)
		*b.l = append(slices.Clone(*b.l), l...)
	case 2:
		x, was := b.q.Take(p, affinity)
		if want, is := b.l.take(p, affinity); x != want || was != is {
			t.Fatalf("take(%d, %v): %d, %v; want %d, %v", p, affinity, x, was, want, is)
		}
	case 3:
		if was, want := b.q.Remove(g), b.l.remove(g); was != want {
			t.Fatalf("remove(%d): %v", g, was)
		}
	case 4:
		want, there := b.l.ahead(g, p, affinity)
		ahead(t, b.q, g, p, affinity, want, there)
	}
}

// P6.1 to P6.3: whatever is done, both go on alike; so do copies of both, apart.
func TestAsToldPlainly(t *testing.T) {
	rnd := rand.New(rand.NewPCG(13, 14))
	for range 300 {
		l := []both{{New(), new(plainly)}}
		for range 80 {
			b := l[rnd.IntN(len(l))]
			if len(l) < 3 && rnd.IntN(20) == 0 {
				row := slices.Clone(*b.l)
				l = append(l, both{b.q.Copy(), &row})
			}
			b.step(t, rnd)
			for _, o := range l {
				is(t, o.q, *o.l...)
				if b.q.Same(o.q) != slices.Equal(*b.l, *o.l) {
					t.Fatalf("same of %v, %v", *b.l, *o.l)
				}
			}
			if t.Failed() {
				t.FailNow()
			}
		}
	}
}

// P6.4: whoever may run on p comes there in the order in which it was put, and nobody else does.
func TestComesInOrder(t *testing.T) {
	rnd := rand.New(rand.NewPCG(15, 16))
	for range 300 {
		many := rnd.IntN(20)
		affinity, row := sets(rnd, many), rnd.Perm(many)
		for p := range 8 {
			q := queue(row...)
			for _, g := range row {
				if able(g, p, affinity) {
					takes(t, q, p, affinity, g)
				}
			}
			takesNobody(t, q, p, affinity)
		}
	}
}

// P6.4: each Take at p has one ahead fewer, till it comes itself; others that are put, or taken elsewhere, let nobody get ahead of it.
func TestComesNearer(t *testing.T) {
	rnd := rand.New(rand.NewPCG(17, 18))
	for range 300 {
		many := 1 + rnd.IntN(20)
		affinity, row := sets(rnd, many+40), rnd.Perm(many)
		g, p := rnd.IntN(many), rnd.IntN(8)
		affinity[g] = 1 << p
		q := queue(row...)
		for came := false; !came; {
			q.Put(many + rnd.IntN(40))
			was, there := q.Ahead(g, p, affinity)
			if !there {
				t.Fatalf("%d is not there", g)
			}
			q.Take((p+1)%8, affinity)
			least, there := q.Ahead(g, p, affinity)
			if !there || least > was {
				t.Fatalf("%d has %d ahead, and had %d", g, least, was)
			}
			x, _ := q.Take(p, affinity)
			came = x == g
			now, there := q.Ahead(g, p, affinity)
			if came != (least == 0) || there == came || !came && now != least-1 {
				t.Fatalf("%d had %d ahead, and has %d; came %d", g, least, now, x)
			}
		}
	}
}
