package tree

import (
	"math"
	"reflect"
	"runtime/debug"
	"slices"
	"strconv"
	"strings"
	"testing"

	"helmsman/api"
)

// forest is a new one, in which these are the parents of what comes, one behind the other.
func forest(t *testing.T, size int, parents ...int) *Forest {
	t.Helper()
	f, e := New(size)
	if e != api.OK {
		t.Fatalf("new(%d): %v", size, e)
	}
	for _, p := range parents {
		added(t, f, p)
	}
	return f
}

func added(t *testing.T, f *Forest, parent int) int {
	t.Helper()
	n, e := f.Add(parent)
	if e != api.OK {
		t.Fatalf("add(%d): %v", parent, e)
	}
	return n
}

func dropped(t *testing.T, f *Forest, l ...int) {
	t.Helper()
	for _, n := range l {
		if e := f.Drop(n); e != api.OK {
			t.Fatalf("drop(%d): %v", n, e)
		}
	}
}

// pruned asks which are gone.
func pruned(t *testing.T, f *Forest, n int, want ...int) {
	t.Helper()
	if l, e := f.Prune(n); e != api.OK || !slices.Equal(l, want) {
		t.Fatalf("prune(%d): %v, %v; want %v", n, l, e, want)
	}
}

// text has the nodes of a row, each with its children behind it.
func text(f *Forest, row []int) string {
	var l []string
	for _, n := range row {
		s := strconv.Itoa(n)
		if below := f.Children(n); len(below) > 0 {
			s += "(" + text(f, below) + ")"
		}
		l = append(l, s)
	}
	return strings.Join(l, " ")
}

// free are the free places, in the order in which they are taken.
func free(f *Forest) []int {
	c := f.Copy()
	var l []int
	for {
		n, e := c.Add(-1)
		if e != api.OK {
			return l
		}
		l = append(l, n)
	}
}

// stands asks how a forest stands, and which places are free, in the order in which they are taken.
func stands(t *testing.T, f *Forest, want string, places ...int) {
	t.Helper()
	if s := text(f, f.Roots()); s != want {
		t.Errorf("%s; want %s", s, want)
	}
	if l := free(f); !slices.Equal(l, places) {
		t.Errorf("free, in turn: %v; want %v", l, places)
	}
	if f.Len()+len(places) != f.Size() {
		t.Errorf("%d nodes, and %d free places, of %d", f.Len(), len(places), f.Size())
	}
}

// kept asks that something changes nothing.
func kept(t *testing.T, what string, f *Forest, do func()) {
	t.Helper()
	was := f.Copy()
	do()
	if !reflect.DeepEqual(f, was) {
		t.Errorf("%s changed something", what)
	}
}

// absent are numbers that are no node's in a forest of 6 in which there are 0 to 3, and 4 was freed.
var absent = []int{-1, -2, 4, 5, 6, 7, MaxSize, math.MinInt, math.MaxInt}

// P12.1, P12.2: the chapter's own examples.
func TestExample(t *testing.T) {
	f := forest(t, 5)
	for want, parent := range []int{-1, 0, 0, 1} {
		if n := added(t, f, parent); n != want {
			t.Errorf("add(%d): %d; want %d", parent, n, want)
		}
	}
	asksRow(t, "children(0)", f.Children(0), 2, 1)
	asksRow(t, "descendants(0)", f.Descendants(0), 2, 1, 3)
	dropped(t, f, 1)
	asksRow(t, "children(0)", f.Children(0), 2, 3)
	pruned(t, f, 0, 2, 3)
	if n := added(t, f, -1); n != 3 {
		t.Error(n)
	}
}

func asksRow(t *testing.T, what string, l []int, want ...int) {
	t.Helper()
	if !slices.Equal(l, want) {
		t.Errorf("%s: %v; want %v", what, l, want)
	}
}

// P12.1, P12.3: the edges that may be, and those that may not.
func TestNew(t *testing.T) {
	for size, want := range map[int]api.Errno{
		1: api.OK, 2: api.OK, 512: api.OK, 4095: api.OK, 4096: api.OK,
		0: api.ErrArg, -1: api.ErrArg, 4097: api.ErrArg, math.MinInt: api.ErrArg, math.MaxInt: api.ErrArg,
	} {
		f, e := New(size)
		if e != want || (f != nil) != (e == api.OK) {
			t.Errorf("new(%d): %v, %v", size, f, e)
		}
		if e == api.OK && (f.Size() != size || f.Len() != 0 || len(f.Roots()) > 0 || f.Has(0)) {
			t.Errorf("new(%d): %d places, %d nodes, roots %v", size, f.Size(), f.Len(), f.Roots())
		}
	}
	if MaxSize != 4096 {
		t.Error(MaxSize)
	}
}

// P12.1: what comes is its parent's first child, or the first root.
func TestAdd(t *testing.T) {
	f := forest(t, 7)
	stands(t, f, "", 0, 1, 2, 3, 4, 5, 6)
	for i, x := range []struct {
		parent int
		want   string
	}{
		{-1, "0"}, {-1, "1 0"}, {0, "1 0(2)"}, {0, "1 0(3 2)"}, {1, "1(4) 0(3 2)"}, {3, "1(4) 0(3(5) 2)"}, {-1, "6 1(4) 0(3(5) 2)"},
	} {
		if n := added(t, f, x.parent); n != i {
			t.Errorf("add(%d): %d; want %d", x.parent, n, i)
		}
		stands(t, f, x.want, []int{0, 1, 2, 3, 4, 5, 6}[i+1:]...)
	}
}

// P12.1: each parent below 0 asks for a root.
func TestAddOfRoots(t *testing.T) {
	f := forest(t, 6, -1, 0)
	for i, parent := range []int{-1, -2, -MaxSize, math.MinInt} {
		if n, e := f.Add(parent); n != 2+i || e != api.OK {
			t.Errorf("add(%d): %d, %v", parent, n, e)
		}
	}
	stands(t, f, "5 4 3 2 0(1)")
}

// P12.1: by which error, where several apply.
func TestAddIsRefused(t *testing.T) {
	asks := func(f *Forest, want api.Errno, parents ...int) {
		t.Helper()
		kept(t, "add", f, func() {
			for _, p := range parents {
				if n, e := f.Add(p); n != 0 || e != want {
					t.Errorf("add(%d): %d, %v; want %v", p, n, e, want)
				}
			}
		})
	}
	asks(forest(t, 3), api.ErrNone, 0, 1, 2, 3, MaxSize, math.MaxInt)
	f := forest(t, 6, -1, 0, 0, 1, 1)
	dropped(t, f, 4)
	asks(f, api.ErrNone, 4, 5, 6, 7, MaxSize, math.MaxInt)
	added(t, f, 3)
	added(t, f, 3)
	asks(f, api.ErrFull, -1, -2, math.MinInt, 0, 1, 2, 3, 4, 5)
	asks(f, api.ErrNone, 6, 7, MaxSize, math.MaxInt)
	stands(t, f, "0(2 1(3(5 4)))")
}

// P12.1: what was freed last is taken first, all that was freed ahead of all that was never taken, and of these the least.
func TestWhichPlaceIsTaken(t *testing.T) {
	f := forest(t, 9, -1, 0, 0, 2, 2, 0)
	stands(t, f, "0(5 2(4 3) 1)", 6, 7, 8)
	dropped(t, f, 1)
	pruned(t, f, 2, 4, 3)
	dropped(t, f, 5)
	stands(t, f, "0(2)", 5, 3, 4, 1, 6, 7, 8)
	for _, want := range []int{5, 3} {
		if n := added(t, f, 2); n != want {
			t.Errorf("%d; want %d", n, want)
		}
	}
	stands(t, f, "0(2(3 5))", 4, 1, 6, 7, 8)
	dropped(t, f, 2, 3)
	stands(t, f, "0(5)", 3, 2, 4, 1, 6, 7, 8)
	pruned(t, f, 0, 5)
	stands(t, f, "0", 5, 3, 2, 4, 1, 6, 7, 8)
	dropped(t, f, 0)
	stands(t, f, "", 0, 5, 3, 2, 4, 1, 6, 7, 8)
	if n := added(t, f, -3); n != 0 {
		t.Error(n)
	}
}

// many is one with nodes of all kinds, and a free place: 9 1(5 4(7 6) 3(8)) 0(2).
func many(t *testing.T) *Forest {
	t.Helper()
	return forest(t, 11, -1, -1, 0, 1, 1, 1, 4, 4, 3, -1)
}

// P12.1, P12.4: its children stand where it stood, in their order.
func TestDrop(t *testing.T) {
	for n, want := range []string{
		"9 1(5 4(7 6) 3(8)) 2", "9 5 4(7 6) 3(8) 0(2)", "9 1(5 4(7 6) 3(8)) 0", "9 1(5 4(7 6) 8) 0(2)", "9 1(5 7 6 3(8)) 0(2)",
		"9 1(4(7 6) 3(8)) 0(2)", "9 1(5 4(7) 3(8)) 0(2)", "9 1(5 4(6) 3(8)) 0(2)", "9 1(5 4(7 6) 3) 0(2)", "1(5 4(7 6) 3(8)) 0(2)",
	} {
		f := many(t)
		stands(t, f, "9 1(5 4(7 6) 3(8)) 0(2)", 10)
		dropped(t, f, n)
		stands(t, f, want, n, 10)
	}
}

// P12.1: one behind the other, till nothing is there.
func TestDropOfAll(t *testing.T) {
	f := many(t)
	for _, x := range []struct {
		n    int
		want string
	}{
		{1, "9 5 4(7 6) 3(8) 0(2)"}, {4, "9 5 7 6 3(8) 0(2)"}, {0, "9 5 7 6 3(8) 2"}, {9, "5 7 6 3(8) 2"}, {3, "5 7 6 8 2"},
		{2, "5 7 6 8"}, {7, "5 6 8"}, {5, "6 8"}, {8, "6"}, {6, ""},
	} {
		dropped(t, f, x.n)
		if s := text(f, f.Roots()); s != x.want {
			t.Errorf("behind %d: %s; want %s", x.n, s, x.want)
		}
	}
	stands(t, f, "", 6, 8, 5, 7, 2, 3, 9, 0, 4, 1, 10)
}

// P12.1, P12.4: it stays, all below it are gone, in preorder; their places were freed in that order.
func TestPrune(t *testing.T) {
	for n, x := range []struct {
		want string
		gone []int
	}{
		{"9 1(5 4(7 6) 3(8)) 0", []int{2}}, {"9 1 0(2)", []int{5, 4, 7, 6, 3, 8}}, {"", nil}, {"9 1(5 4(7 6) 3) 0(2)", []int{8}}, {"9 1(5 4 3(8)) 0(2)", []int{7, 6}},
		{"", nil}, {"", nil}, {"", nil}, {"", nil}, {"", nil},
	} {
		f := many(t)
		if x.gone == nil {
			kept(t, "prune of who is alone", f, func() { pruned(t, f, n) })
			continue
		}
		pruned(t, f, n, x.gone...)
		places := slices.Clone(x.gone)
		slices.Reverse(places)
		stands(t, f, x.want, append(places, 10)...)
		kept(t, "prune once more", f, func() { pruned(t, f, n) })
		if at := added(t, f, n); at != places[0] || !f.Under(at, n) {
			t.Errorf("behind prune(%d) at %d", n, at)
		}
	}
}

// P12.1: no such node.
func TestDropAndPruneAreRefused(t *testing.T) {
	f := forest(t, 6, -1, 0, 0, 1, 1)
	dropped(t, f, 4)
	kept(t, "what was refused", f, func() {
		for _, n := range absent {
			if e := f.Drop(n); e != api.ErrNone {
				t.Errorf("drop(%d): %v", n, e)
			}
			if l, e := f.Prune(n); e != api.ErrNone || len(l) > 0 {
				t.Errorf("prune(%d): %v, %v", n, l, e)
			}
		}
	})
	f = forest(t, 1)
	if e := f.Drop(0); e != api.ErrNone {
		t.Error(e)
	}
	if l, e := f.Prune(0); e != api.ErrNone || len(l) > 0 {
		t.Error(l, e)
	}
}

// P12.2, P12.3: of each node.
func TestOfNodes(t *testing.T) {
	f := many(t)
	for n, x := range []struct {
		parent          int
		children, below []int
	}{
		{-1, []int{2}, []int{2}},
		{-1, []int{5, 4, 3}, []int{5, 4, 7, 6, 3, 8}},
		{0, nil, nil},
		{1, []int{8}, []int{8}},
		{1, []int{7, 6}, []int{7, 6}},
		{1, nil, nil},
		{4, nil, nil},
		{4, nil, nil},
		{3, nil, nil},
		{-1, nil, nil},
	} {
		if p, has := f.Parent(n); has != (x.parent >= 0) || p != max(x.parent, 0) {
			t.Errorf("parent(%d): %d, %v", n, p, has)
		}
		asksRow(t, "children", f.Children(n), x.children...)
		asksRow(t, "descendants", f.Descendants(n), x.below...)
		for m := range 11 {
			if is := f.Under(m, n); is != slices.Contains(x.below, m) {
				t.Errorf("under(%d, %d): %v", m, n, is)
			}
		}
		if !f.Has(n) {
			t.Errorf("has not %d", n)
		}
	}
	asksRow(t, "roots", f.Roots(), 9, 1, 0)
	if f.Has(10) || f.Len() != 10 || f.Size() != 11 {
		t.Error(f.Len(), f.Size())
	}
}

// P12.2, P12.3: of no node, of a place that was never taken, of one that was freed.
func TestOfAbsent(t *testing.T) {
	f := forest(t, 6, -1, 0, 0, 1, 1)
	dropped(t, f, 4)
	kept(t, "what asks", f, func() {
		for _, n := range absent {
			ofAbsent(t, f, n)
			for m := range 4 {
				if f.Under(n, m) || f.Under(m, n) {
					t.Errorf("%d under %d, or the other way", n, m)
				}
			}
		}
	})
}

// ofAbsent asks all that tells something of a node, of one that is none.
func ofAbsent(t *testing.T, f *Forest, n int) {
	t.Helper()
	if p, has := f.Parent(n); p != 0 || has {
		t.Errorf("parent(%d): %d, %v", n, p, has)
	}
	if l := f.Children(n); len(l) > 0 {
		t.Errorf("children(%d): %v", n, l)
	}
	if l := f.Descendants(n); len(l) > 0 {
		t.Errorf("descendants(%d): %v", n, l)
	}
	if f.Has(n) || f.Under(n, n) {
		t.Errorf("%d is there, or under itself", n)
	}
}

// P12.1 to P12.3: nil, and a zero one, are none; that is told ahead of whatever else is wrong.
func TestOfNone(t *testing.T) {
	for _, f := range []*Forest{nil, {}} {
		for _, n := range []int{-2, -1, 0, 1, MaxSize, math.MinInt, math.MaxInt} {
			if at, e := f.Add(n); at != 0 || e != api.ErrNil {
				t.Errorf("add(%d): %d, %v", n, at, e)
			}
			if e := f.Drop(n); e != api.ErrNil {
				t.Errorf("drop(%d): %v", n, e)
			}
			if l, e := f.Prune(n); len(l) > 0 || e != api.ErrNil {
				t.Errorf("prune(%d): %v, %v", n, l, e)
			}
			ofAbsent(t, f, n)
			if f.Under(n, 0) || f.Under(0, n) {
				t.Error("under", n)
			}
		}
		if l := f.Roots(); len(l) > 0 || f.Len() != 0 || f.Size() != 0 {
			t.Error(l, f.Len(), f.Size())
		}
		if c := f.Copy(); c != nil {
			t.Error("copy", c)
		}
		for _, o := range []*Forest{nil, {}} {
			if !f.Same(o) || !o.Same(f) {
				t.Error("not the same", f, o)
			}
		}
		if o := forest(t, 1); f.Same(o) || o.Same(f) {
			t.Error("the same as a new one")
		}
	}
}

// P12.1, P12.2: what is answered is the caller's: neither what stays, nor which place is taken, changes with it.
func TestAnswersAreNew(t *testing.T) {
	for _, one := range []bool{true, false} {
		f := many(t)
		if one {
			dropped(t, f, 9)
		}
		l, e := f.Prune(4)
		if e != api.OK {
			t.Fatal(e)
		}
		kept(t, "an answer", f, func() {
			for _, l := range [][]int{l, f.Roots(), f.Children(1), f.Descendants(1)} {
				clear(l[:cap(l)])
			}
		})
		added(t, f, 1)
		dropped(t, f, 5)
		if !slices.Equal(l, []int{0, 0}) {
			t.Error("what was answered changed later", l)
		}
	}
}

// P12.3: the same nodes, and free places in the same order; and they go on apart, neither way seen.
func TestCopy(t *testing.T) {
	for _, swap := range []bool{false, true} {
		a := many(t)
		dropped(t, a, 5, 8, 2)
		b := a.Copy()
		if !a.Same(b) || !b.Same(a) || b.Size() != 11 {
			t.Error("not the same")
		}
		stands(t, b, "9 1(4(7 6) 3) 0", 2, 8, 5, 10)
		if swap {
			a, b = b, a
		}
		added(t, a, 9)
		dropped(t, a, 3)
		added(t, a, 6)
		added(t, a, -1)
		pruned(t, a, 1, 4, 7, 6, 3)
		dropped(t, a, 0)
		stands(t, a, "8 9(2) 1", 0, 3, 6, 7, 4, 5, 10)
		stands(t, b, "9 1(4(7 6) 3) 0", 2, 8, 5, 10)
		pruned(t, b, 1, 4, 7, 6, 3)
		stands(t, b, "9 1 0", 3, 6, 7, 4, 2, 8, 5, 10)
	}
	stands(t, forest(t, 3).Copy(), "", 0, 1, 2)
}

// P12.3: what either one frees next is not free in the other one, however many places were free.
func TestCopyOfFree(t *testing.T) {
	for many := range 12 {
		a := forest(t, 16, slices.Repeat([]int{-1}, 16)...)
		var want []int
		for n := range many {
			dropped(t, a, n)
			want = append([]int{n}, want...)
		}
		b := a.Copy()
		dropped(t, a, 13)
		dropped(t, b, 14, 15)
		asksRow(t, "free", free(a), append([]int{13}, want...)...)
		asksRow(t, "free in the copy", free(b), append([]int{15, 14}, want...)...)
	}
}

// P12.3: each thing that may differ.
func TestSame(t *testing.T) {
	for i, change := range []func(f *Forest){
		func(f *Forest) { f.Add(-1) },
		func(f *Forest) { f.Add(2) },
		func(f *Forest) { f.Drop(9) },
		func(f *Forest) { f.Drop(6) },
		func(f *Forest) { f.Prune(3) },
		func(f *Forest) { f.Drop(9); f.Add(0) },                        // another parent
		func(f *Forest) { f.Drop(9); f.Add(5) },                        // another parent
		func(f *Forest) { f.Drop(6); f.Add(4) },                        // another order of children
		func(f *Forest) { f.Drop(2); f.Add(-1) },                       // no parent
		func(f *Forest) { f.Prune(0); f.Drop(0); f.Add(-1); f.Add(0) }, // another order of roots
		func(f *Forest) { f.Drop(9); f.Add(-1); f.Drop(1); f.Add(-1) }, // the children are roots
	} {
		a, b := many(t), many(t)
		if !a.Same(b) || !a.Same(a) {
			t.Fatal("not the same")
		}
		change(b)
		if a.Same(b) || b.Same(a) {
			t.Errorf("the same behind change %d: %s, %s", i, text(a, a.Roots()), text(b, b.Roots()))
		}
	}
	for _, o := range []*Forest{forest(t, 2), forest(t, 4)} {
		if f := forest(t, 3); f.Same(o) || o.Same(f) {
			t.Error("the same of other sizes")
		}
	}
	for _, o := range []*Forest{forest(t, 2, -1), forest(t, 4, -1)} {
		if f := forest(t, 3, -1); f.Same(o) || o.Same(f) {
			t.Error("the same of other sizes, with a node")
		}
	}
}

// P12.3: by which way they came to be as they are, and which places come next, is not asked.
func TestSameOfOtherWays(t *testing.T) {
	a, b := forest(t, 6, -1, 0, 0, -1), forest(t, 6, -1, 0, 0, -1, 1, 4)
	pruned(t, b, 1, 4, 5)
	if !a.Same(b) || !b.Same(a) {
		t.Error("not the same, where places were taken once")
	}
	dropped(t, a, 1, 2)
	dropped(t, b, 2, 1)
	if !a.Same(b) || !b.Same(a) {
		t.Error("not the same")
	}
	added(t, a, 0)
	added(t, b, 0)
	if a.Same(b) || b.Same(a) {
		t.Error("the same, at other places")
	}
	dropped(t, a, 2, 3, 0)
	dropped(t, b, 1, 0, 3)
	if o := forest(t, 6); !a.Same(b) || !a.Same(o) || !o.Same(b) {
		t.Error("not the same, without nodes")
	}
}

// little lets no goroutine have much more stack than it has: one call for each of 4096 nodes, one within the other, does not fit.
func little(t *testing.T) {
	was := debug.SetMaxStack(64 << 10)
	t.Cleanup(func() { debug.SetMaxStack(was) })
}

// P12.4: of the deepest that there is. Each one's child is that ahead of it; the last one has none.
func TestDeepest(t *testing.T) {
	little(t)
	f := forest(t, MaxSize, -1)
	var want []int
	for n := 1; n < MaxSize; n++ {
		want = append(want, n)
		if at := added(t, f, n-1); at != n {
			t.Fatal(at)
		}
	}
	asksRow(t, "descendants", f.Descendants(0), want...)
	asksRow(t, "descendants", f.Descendants(MaxSize/2), want[MaxSize/2:]...)
	if !f.Under(MaxSize-1, 0) || f.Under(0, MaxSize-1) || f.Len() != MaxSize || !f.Same(f.Copy()) {
		t.Error("not as deep")
	}
	dropped(t, f, 1)
	pruned(t, f, 2000, want[2000:]...)
	pruned(t, f, 0, want[1:2000]...)
	if n := added(t, f, 0); n != 2000 || f.Len() != 2 {
		t.Error(n, f.Len())
	}
}

// P12.4: of the broadest that there is.
func TestBroadest(t *testing.T) {
	little(t)
	f := forest(t, MaxSize, -1)
	var want []int
	for n := 1; n < MaxSize; n++ {
		want = slices.Insert(want, 0, n)
		added(t, f, 0)
	}
	asksRow(t, "children", f.Children(0), want...)
	asksRow(t, "descendants", f.Descendants(0), want...)
	if _, e := f.Add(0); e != api.ErrFull {
		t.Error(e)
	}
	c := f.Copy()
	dropped(t, c, 0)
	asksRow(t, "roots", c.Roots(), want...)
	pruned(t, f, 0, want...)
	if n := added(t, f, -1); n != 1 {
		t.Error(n)
	}
}
