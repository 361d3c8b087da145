package audit

import (
	"math/rand/v2"
	"slices"
	"testing"

	"helmsman/api"
)

// plainly is a ring as the chapter's words tell it: all that were ever put, one behind the other.
type plainly struct {
	size int
	came []api.Record
}

func (p *plainly) put(x api.Record) uint64 {
	x.Seq = uint64(len(p.came)) + 1
	p.came = append(p.came, x)
	return x.Seq
}

// all are those that are not lost.
func (p *plainly) all() []api.Record {
	return p.came[max(0, len(p.came)-p.size):]
}

// by are those of one goroutine.
func (p *plainly) by(g api.Ref) []api.Record {
	var l []api.Record
	for _, x := range p.all() {
		if x.G == g {
			l = append(l, x)
		}
	}
	return l
}

func (p *plainly) copy() *plainly { return &plainly{p.size, slices.Clone(p.came)} }

// same: do both have the same size, the same records, and as many lost?
func (p *plainly) same(o *plainly) bool {
	return p.size == o.size && slices.Equal(p.all(), o.all()) && len(p.came)-len(p.all()) == len(o.came)-len(o.all())
}

// both are a ring, and the same plainly.
type both struct {
	r *Ring
	p *plainly
}

// drawn is a record of few kinds, so that they meet.
func drawn(rnd *rand.Rand) api.Record {
	return api.Record{
		Time: uint64(rnd.IntN(2)),
		G:    api.Ref{Index: rnd.IntN(2), Gen: uint64(rnd.IntN(2))},
		P:    rnd.IntN(2),
		Call: api.Call{Kind: api.CallKind(rnd.IntN(2)), Args: [api.Args]uint64{0: uint64(rnd.IntN(2))}},
		Code: api.Errno(rnd.IntN(2)),
	}
}

// told asks that both tell the same.
func (b both) told(t *testing.T) {
	t.Helper()
	all := b.p.all()
	are(t, "all", b.r.All(), all...)
	for n := -1; n <= b.p.size+1; n++ {
		are(t, "last", b.r.Last(n), all[len(all)-max(0, min(n, len(all))):]...)
	}
	for i := range 4 {
		g := api.Ref{Index: i % 2, Gen: uint64(i / 2)}
		are(t, "by", b.r.By(g), b.p.by(g)...)
	}
	for seq := range uint64(len(b.p.came) + 2) {
		i := slices.IndexFunc(all, func(x api.Record) bool { return x.Seq == seq })
		if i < 0 {
			is(t, b.r, seq, api.Record{}, false)
		} else {
			is(t, b.r, seq, all[i], true)
		}
	}
	counts(t, b.r, uint64(len(b.p.came)), uint64(len(b.p.came)-len(all)), len(all), b.p.size)
	b.follows(t)
}

// follows asks for what follows: numbers one behind the other, up to the last one; those lost, and those there, are all.
func (b both) follows(t *testing.T) {
	t.Helper()
	l := b.r.All()
	for i, x := range l {
		if x.Seq+uint64(len(l)-1-i) != b.r.Seq() {
			t.Errorf("record %d of %d has the number %d, the last one %d", i, len(l), x.Seq, b.r.Seq())
		}
	}
	if b.r.Lost()+uint64(b.r.Len()) != b.r.Seq() || len(l) != b.r.Len() {
		t.Errorf("lost, there, all: %d, %d, %d", b.r.Lost(), b.r.Len(), b.r.Seq())
	}
}

// P17.1 to P17.4: whatever is put, both go on alike; so do copies of both, apart.
func TestAsToldPlainly(t *testing.T) {
	rnd := rand.New(rand.NewPCG(17, 1))
	var lost, sames, others int
	for range 200 {
		size := 1 + rnd.IntN(6)
		l := []both{{ring(t, size), &plainly{size: size}}}
		for range 40 {
			b := l[rnd.IntN(len(l))]
			if len(l) < 4 && rnd.IntN(8) == 0 {
				l = append(l, both{b.r.Copy(), b.p.copy()})
			} else {
				x := drawn(rnd)
				if seq, want := put(b.r, x), b.p.put(x); seq != want {
					t.Fatalf("put: %d; want %d", seq, want)
				}
			}
			for _, o := range l {
				o.told(t)
				same := b.p.same(o.p)
				if b.r.Same(o.r) != same {
					t.Errorf("same: %v; want %v", !same, same)
				}
				switch {
				case !same:
					others++
				case o.r != b.r:
					sames++
				}
			}
			if t.Failed() {
				t.FailNow()
			}
		}
		for _, b := range l {
			lost += int(b.r.Lost())
		}
	}
	if lost < 1000 || sames < 500 || others < 1000 {
		t.Errorf("too few: %d lost, %d the same, %d not", lost, sames, others)
	}
}
