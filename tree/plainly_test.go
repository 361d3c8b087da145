package tree

import (
	"math/rand/v2"
	"slices"
	"testing"

	"helmsman/api"
)

// one is a node as the chapter's words tell it: its place, and its children, in their order.
type one struct {
	place    int
	children []*one
}

// plainly is a forest as the chapter's words tell it: the roots are the children of who is at no place.
type plainly struct {
	size  int
	above *one
	taken int   // how many places were taken once
	freed []int // places that are free, as they were freed
}

func newPlainly(size int) *plainly { return &plainly{size: size, above: &one{place: -1}} }

// below are the descendants of one, in preorder.
func (x *one) below() []*one {
	var l []*one
	for _, c := range x.children {
		l = append(append(l, c), c.below()...)
	}
	return l
}

func (x *one) copy() *one {
	y := &one{place: x.place}
	for _, c := range x.children {
		y.children = append(y.children, c.copy())
	}
	return y
}

func (x *one) same(y *one) bool {
	return x.place == y.place && slices.EqualFunc(x.children, y.children, (*one).same)
}

func places(l []*one) []int {
	var p []int
	for _, x := range l {
		p = append(p, x.place)
	}
	return p
}

// of is the node at a place, or nil.
func (p *plainly) of(n int) *one {
	for _, x := range p.above.below() {
		if x.place == n {
			return x
		}
	}
	return nil
}

// parent is whose child a node is: a node, or who is at no place.
func (p *plainly) parent(x *one) *one {
	for _, y := range append(p.above.below(), p.above) {
		if slices.Contains(y.children, x) {
			return y
		}
	}
	return nil
}

// free are the free places, in the order in which they are taken.
func (p *plainly) free() []int {
	var l []int
	for _, n := range slices.Backward(p.freed) {
		l = append(l, n)
	}
	for n := p.taken; n < p.size; n++ {
		l = append(l, n)
	}
	return l
}

func (p *plainly) add(parent int) (int, api.Errno) {
	above := p.above
	if parent >= 0 {
		above = p.of(parent)
	}
	if above == nil {
		return 0, api.ErrNone
	}
	l := p.free()
	if len(l) == 0 {
		return 0, api.ErrFull
	}
	if len(p.freed) > 0 {
		p.freed = p.freed[:len(p.freed)-1]
	} else {
		p.taken++
	}
	above.children = slices.Insert(above.children, 0, &one{place: l[0]})
	return l[0], api.OK
}

func (p *plainly) drop(n int) api.Errno {
	x := p.of(n)
	if x == nil {
		return api.ErrNone
	}
	above := p.parent(x)
	i := slices.Index(above.children, x)
	above.children = slices.Replace(above.children, i, i+1, x.children...)
	p.freed = append(p.freed, n)
	return api.OK
}

func (p *plainly) prune(n int) ([]int, api.Errno) {
	x := p.of(n)
	if x == nil {
		return nil, api.ErrNone
	}
	gone := places(x.below())
	x.children = nil
	p.freed = append(p.freed, gone...)
	return gone, api.OK
}

func (p *plainly) copy() *plainly {
	return &plainly{p.size, p.above.copy(), p.taken, slices.Clone(p.freed)}
}

// both are a forest, and the same plainly.
type both struct {
	f *Forest
	p *plainly
}

func newBoth(t *testing.T, size int) both { return both{forest(t, size), newPlainly(size)} }

func (b both) copy() both { return both{b.f.Copy(), b.p.copy()} }

// same: do both tell the same?
func (b both) same(t *testing.T) {
	t.Helper()
	all := b.p.above.below()
	if l := b.f.Roots(); !slices.Equal(l, places(b.p.above.children)) || b.f.Len() != len(all) || b.f.Size() != b.p.size {
		t.Fatalf("roots %v of %d, of %d places; want %v of %d", l, b.f.Len(), b.f.Size(), places(b.p.above.children), len(all))
	}
	for n := -2; n <= b.p.size; n++ {
		b.sameOf(t, n)
	}
	if l := free(b.f); !slices.Equal(l, b.p.free()) {
		t.Fatalf("free, in turn: %v; want %v", l, b.p.free())
	}
}

// sameOf: do both tell the same of a place?
func (b both) sameOf(t *testing.T, n int) {
	t.Helper()
	var children, below []int
	parent, has := 0, false
	x := b.p.of(n)
	if x != nil {
		children, below = places(x.children), places(x.below())
		if above := b.p.parent(x); above != b.p.above {
			parent, has = above.place, true
		}
	}
	if b.f.Has(n) != (x != nil) {
		t.Fatalf("has(%d): %v", n, b.f.Has(n))
	}
	if p, is := b.f.Parent(n); p != parent || is != has {
		t.Fatalf("parent(%d): %d, %v; want %d, %v", n, p, is, parent, has)
	}
	if l := b.f.Children(n); !slices.Equal(l, children) {
		t.Fatalf("children(%d): %v; want %v", n, l, children)
	}
	if l := b.f.Descendants(n); !slices.Equal(l, below) {
		t.Fatalf("descendants(%d): %v; want %v", n, l, below)
	}
	for m := -2; m <= b.p.size; m++ {
		if is := b.f.Under(m, n); is != slices.Contains(below, m) {
			t.Fatalf("under(%d, %d): %v; below are %v", m, n, is, below)
		}
	}
}

// The calls that change a forest.
const (
	add = iota
	drop
	prune
	calls
)

// do has both do something of a place, and asks for the same answers.
func (b both) do(t *testing.T, call, n int) {
	t.Helper()
	var l, want []int
	var e, wanted api.Errno
	switch call {
	case add:
		var at, wantedAt int
		at, e = b.f.Add(n)
		wantedAt, wanted = b.p.add(n)
		l, want = []int{at}, []int{wantedAt}
	case drop:
		e, wanted = b.f.Drop(n), b.p.drop(n)
	case prune:
		l, e = b.f.Prune(n)
		want, wanted = b.p.prune(n)
	}
	if e != wanted || !slices.Equal(l, want) {
		t.Fatalf("call %d of %d: %v, %v; want %v, %v", call, n, l, e, want, wanted)
	}
}

// P12.1 to P12.4: all that can be done in so many calls with few places, each time from a copy.
func TestAllShortWays(t *testing.T) {
	var goOn func(b both, more int)
	goOn = func(b both, more int) {
		b.same(t)
		if more == 0 {
			return
		}
		for call := range calls {
			for n := -1; n <= b.p.size; n++ {
				c := b.copy()
				c.do(t, call, n)
				if c.f.Same(b.f) != c.p.above.same(b.p.above) {
					t.Fatal("same", text(c.f, c.f.Roots()), text(b.f, b.f.Roots()))
				}
				if !c.f.Same(b.f) {
					goOn(c, more-1)
				}
			}
		}
	}
	goOn(newBoth(t, 1), 4)
	goOn(newBoth(t, 3), 8)
	goOn(newBoth(t, 5), 7)
}

// step does something to both: it adds as often as it takes away, and mostly of a node that is there.
func (b both) step(t *testing.T, rnd *rand.Rand) {
	t.Helper()
	n := rnd.IntN(b.p.size+3) - 2
	if l := b.p.above.below(); len(l) > 0 && rnd.IntN(8) > 0 {
		n = l[rnd.IntN(len(l))].place
	}
	b.do(t, []int{add, add, add, drop, drop, prune}[rnd.IntN(6)], n)
}

// P12.1 to P12.4: whatever is done, both go on alike; so do copies of both, apart.
func TestAsToldPlainly(t *testing.T) {
	rnd := rand.New(rand.NewPCG(41, 42))
	for range 120 {
		l := []both{newBoth(t, 1+rnd.IntN(14))}
		for range 150 {
			b := l[rnd.IntN(len(l))]
			if rnd.IntN(20) == 0 {
				l = append(l[max(len(l)-2, 0):], b.copy())
			}
			b.step(t, rnd)
			for _, o := range l {
				o.same(t)
				if b.f.Same(o.f) != b.p.above.same(o.p.above) {
					t.Fatal("same", text(b.f, b.f.Roots()), text(o.f, o.f.Roots()))
				}
			}
		}
	}
}

// nodes are all that there are.
func nodes(f *Forest) []int {
	var l []int
	for n := range f.Size() {
		if f.Has(n) {
			l = append(l, n)
		}
	}
	return l
}

// once asks whether each node is just once a child, or a root.
func once(t *testing.T, f *Forest) {
	t.Helper()
	l := f.Roots()
	for _, n := range nodes(f) {
		l = append(l, f.Children(n)...)
	}
	slices.Sort(l)
	if !slices.Equal(l, nodes(f)) || len(l) != f.Len() {
		t.Fatalf("children and roots: %v; nodes: %v", l, nodes(f))
	}
}

// asIs asks whether of two places the one is under the other one as it was, but where neither may be any more.
func asIs(t *testing.T, f, was *Forest, gone []int) {
	t.Helper()
	for n := range f.Size() {
		for m := range f.Size() {
			left := slices.Contains(gone, n) || slices.Contains(gone, m)
			if f.Under(n, m) != (was.Under(n, m) && !left) {
				t.Fatalf("%d is under %d otherwise than it was: %v", n, m, f.Under(n, m))
			}
		}
		if f.Has(n) != (was.Has(n) && !slices.Contains(gone, n)) {
			t.Fatalf("%d: %v", n, f.Has(n))
		}
	}
}

// apart asks what stands behind Prune of n: of all but n, and those that are gone, parents and children are as they were.
func apart(t *testing.T, f, was *Forest, n int, gone []int) {
	t.Helper()
	asIs(t, f, was, gone)
	for _, m := range nodes(f) {
		p, has := f.Parent(m)
		if q, had := was.Parent(m); p != q || has != had {
			t.Fatalf("parent(%d): %d, %v; was %d, %v", m, p, has, q, had)
		}
		if m != n && !slices.Equal(f.Children(m), was.Children(m)) {
			t.Fatalf("children(%d): %v; were %v", m, f.Children(m), was.Children(m))
		}
	}
	if !slices.Equal(f.Roots(), was.Roots()) || len(f.Descendants(n)) > 0 {
		t.Fatalf("roots %v, were %v; descendants(%d) %v", f.Roots(), was.Roots(), n, f.Descendants(n))
	}
}

// P12.4: what follows of whatever is done, in forests of some size.
func TestHolds(t *testing.T) {
	rnd := rand.New(rand.NewPCG(43, 44))
	deepest, most, went := 0, 0, 0
	for range 40 {
		f := forest(t, 1+rnd.IntN(60))
		// The more often who comes is a child of who came last, the deeper it all is.
		last, often := -1, rnd.IntN(10)
		for range 150 {
			was, n := f.Copy(), rnd.IntN(f.Size()+1)-1
			switch what := rnd.IntN(20); {
			case what < 17:
				if f.Has(last) && rnd.IntN(10) < often {
					n = last
				}
				if at, e := f.Add(n); e == api.OK {
					last = at
				}
			case what < 19:
				if f.Drop(n) == api.OK {
					asIs(t, f, was, []int{n})
				}
			default:
				if gone, e := f.Prune(n); e == api.OK {
					apart(t, f, was, n, gone)
					went = max(went, len(gone))
				}
			}
			once(t, f)
			most = max(most, f.Len())
			deep := 0
			for above, has := f.Parent(last); has; above, has = f.Parent(above) {
				deep++
			}
			deepest = max(deepest, deep)
		}
	}
	if deepest < 10 || most < 40 || went < 8 {
		t.Errorf("hardly anything was there: %d deep, %d at most, %d pruned at once", deepest, most, went)
	}
}
