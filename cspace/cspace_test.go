package cspace

import (
	"fmt"
	"math"
	"reflect"
	"slices"
	"testing"

	"helmsman/api"
	"helmsman/rights"
)

func space(t *testing.T, gs, slots, nodes int) *Space {
	t.Helper()
	s, e := New(gs, slots, nodes)
	if e != api.OK {
		t.Fatalf("new(%d, %d, %d): %v", gs, slots, nodes, e)
	}
	return s
}

func capability(kind api.Kind, index int, gen uint64, r api.Rights) api.Cap {
	return api.Cap{Kind: kind, Object: api.Ref{Index: index, Gen: gen}, Rights: r}
}

// named is a capability that may be, of those rights; which one it is is told by its number.
func named(n int, r api.Rights) api.Cap { return capability(api.KindContext, n, 1, r) }

// rooted has capabilities with all rights come into these slots, without parents.
func rooted(t *testing.T, s *Space, l ...place) {
	t.Helper()
	for _, p := range l {
		if e := s.Root(p[0], p[1], named(p[0]*100+p[1], api.AllRights)); e != api.OK {
			t.Fatalf("root(%v): %v", p, e)
		}
	}
}

// derived has capabilities with all rights come into these slots, each derived from the one ahead of it.
func derived(t *testing.T, s *Space, from place, l ...place) {
	t.Helper()
	for _, p := range l {
		if e := s.Derive(from[0], from[1], p[0], p[1], named(p[0]*100+p[1], api.AllRights)); e != api.OK {
			t.Fatalf("derive(%v, %v): %v", from, p, e)
		}
		from = p
	}
}

// stands asks what is in which slots, each by its number, and its parent's behind it.
func stands(t *testing.T, s *Space, want ...string) {
	t.Helper()
	l := []string{}
	for g := range s.gs {
		for _, h := range s.Caps(g) {
			x := fmt.Sprintf("%d.%d=%d", g, h.Slot, h.Cap.Object.Index)
			if pg, ps, has := s.Parent(g, h.Slot); has {
				x += fmt.Sprintf("<%d.%d", pg, ps)
			}
			l = append(l, x)
		}
	}
	if !slices.Equal(l, want) {
		t.Errorf("%v; want %v", l, want)
	}
	if s.Len() != len(want) {
		t.Errorf("%d; want %v", s.Len(), want)
	}
}

// kept asks that something changes nothing.
func kept(t *testing.T, what string, s *Space, do func()) {
	t.Helper()
	was := s.Copy()
	do()
	if !reflect.DeepEqual(s, was) {
		t.Errorf("%s changed something", what)
	}
}

// asks asks for an error.
func asks(t *testing.T, what string, e, want api.Errno) {
	t.Helper()
	if e != want {
		t.Errorf("%s: %v; want %v", what, e, want)
	}
}

// some is a space of 3 goroutines, of 4 slots, for 8: in 0.0 is a root, from which come 1.3, then 0.2; from 0.2 comes 2.1, and from 0.0 also 2.0; in 1.0 is one apart.
func some(t *testing.T) *Space {
	t.Helper()
	s := space(t, 3, 4, 8)
	rooted(t, s, place{0, 0}, place{1, 0})
	derived(t, s, place{0, 0}, place{1, 3}, place{0, 2}, place{2, 1})
	derived(t, s, place{0, 0}, place{2, 0})
	stands(t, s, "0.0=0", "0.2=2<1.3", "1.0=100", "1.3=103<0.0", "2.0=200<0.0", "2.1=201<0.2")
	return s
}

// outside are slots that a space of 3 goroutines, of 4 slots, has not.
var outside = []place{
	{-1, 0}, {3, 0}, {0, -1}, {0, 4}, {-1, -1}, {3, 4}, {2, 4}, {3, 3}, {api.MaxGs, api.MaxSlots}, {0, 2 << 32}, {1 << 32, 0},
	{math.MinInt, 0}, {math.MaxInt, 0}, {0, math.MinInt}, {0, math.MaxInt}, {math.MinInt, math.MinInt}, {math.MaxInt, math.MaxInt},
}

// badCaps are such as may not be.
var badCaps = []api.Cap{
	{}, capability(0, 0, 1, 1), capability(4, 0, 1, 1), capability(-1, 0, 1, 1), capability(math.MaxInt, 0, 1, 1), capability(math.MinInt, 0, 1, 1),
	capability(1, -1, 1, 1), capability(2, math.MinInt, 1, 1), capability(3, 0, 0, 1), capability(1, 5, 0, 1), capability(1, -1, 0, api.AllRights),
}

// P13.1, P13.2, P13.3, P13.4: the chapter's own examples.
func TestExample(t *testing.T) {
	for _, deletes := range []bool{false, true} {
		s := space(t, 2, 4, 8)
		rooted(t, s, place{0, 0})
		derived(t, s, place{0, 0}, place{1, 3}, place{0, 2})
		if deletes {
			asks(t, "delete", s.Delete(1, 3), api.OK)
			if !s.Under(0, 2, 0, 0) {
				t.Error("it is not under who was above its parent")
			}
			stands(t, s, "0.0=0", "0.2=2<0.0")
			continue
		}
		if n, e := s.Revoke(0, 0); n != 2 || e != api.OK {
			t.Error(n, e)
		}
		stands(t, s, "0.0=0")
	}
}

// P13.1: the edges that may be, and those that may not.
func TestNew(t *testing.T) {
	for _, x := range []struct {
		gs, slots, nodes int
		want             api.Errno
	}{
		{1, 1, 1, api.OK}, {64, 32, 512, api.OK}, {64, 1, 1, api.OK}, {1, 32, 1, api.OK}, {1, 1, 512, api.OK}, {3, 5, 7, api.OK},
		{0, 1, 1, api.ErrArg}, {1, 0, 1, api.ErrArg}, {1, 1, 0, api.ErrArg}, {65, 1, 1, api.ErrArg}, {1, 33, 1, api.ErrArg}, {1, 1, 513, api.ErrArg},
		{-1, 1, 1, api.ErrArg}, {1, -1, 1, api.ErrArg}, {1, 1, -1, api.ErrArg}, {0, 0, 0, api.ErrArg},
		{math.MinInt, 1, 1, api.ErrArg}, {1, math.MinInt, 1, api.ErrArg}, {1, 1, math.MinInt, api.ErrArg},
		{math.MaxInt, 1, 1, api.ErrArg}, {1, math.MaxInt, 1, api.ErrArg}, {1, 1, math.MaxInt, api.ErrArg},
	} {
		s, e := New(x.gs, x.slots, x.nodes)
		if e != x.want || (s != nil) != (e == api.OK) {
			t.Errorf("%v: %v, %v", x, s, e)
		}
		if e != api.OK {
			continue
		}
		if s.Len() != 0 || s.Room() != x.nodes || len(s.Caps(0)) > 0 {
			t.Errorf("%v: %d, and room for %d", x, s.Len(), s.Room())
		}
		asks(t, "the last slot", s.Free(x.gs-1, x.slots-1), api.OK)
		asks(t, "of no goroutine", s.Free(x.gs, x.slots-1), api.ErrSlot)
		asks(t, "no slot", s.Free(x.gs-1, x.slots), api.ErrSlot)
	}
}

// P13.1: each thing that is asked of a capability; whichever rights may be, and none.
func TestMay(t *testing.T) {
	for _, kind := range []api.Kind{api.KindG, api.KindContext, api.KindDomain} {
		for _, index := range []int{0, 1, 63, 64, math.MaxInt} {
			for _, gen := range []uint64{1, 2, 1 << 63, math.MaxUint64} {
				for r := range 256 {
					if c := capability(kind, index, gen, api.Rights(r)); !May(c) {
						t.Errorf("%v may not be", c)
					}
				}
			}
		}
	}
	for _, c := range badCaps {
		if May(c) {
			t.Errorf("%v may be", c)
		}
	}
}

// P13.1: into any slot, of any capability that may be.
func TestRoot(t *testing.T) {
	s := space(t, 2, 3, 4)
	l := []api.Cap{
		capability(api.KindG, 7, 1, 0), capability(api.KindContext, 0, 9, api.AllRights),
		capability(api.KindDomain, math.MaxInt, math.MaxUint64, 5), capability(api.KindG, 7, 1, 0),
	}
	for i, at := range []place{{0, 0}, {1, 2}, {1, 0}, {0, 2}} {
		asks(t, "root", s.Root(at[0], at[1], l[i]), api.OK)
		if c, e := s.Get(at[0], at[1]); c != l[i] || e != api.OK {
			t.Errorf("%v, %v; want %v", c, e, l[i])
		}
		if g, slot, has := s.Parent(at[0], at[1]); g != 0 || slot != 0 || has {
			t.Errorf("a parent: %d, %d", g, slot)
		}
		if s.Len() != i+1 || s.Room() != 3-i {
			t.Errorf("%d, and room for %d", s.Len(), s.Room())
		}
	}
	stands(t, s, "0.0=7", "0.2=7", "1.0=9223372036854775807", "1.2=0")
}

// P13.1: by which error, where several apply.
func TestRootIsRefused(t *testing.T) {
	s := some(t)
	rooted(t, s, place{1, 1}, place{1, 2})
	kept(t, "root", s, func() {
		asks(t, "full", s.Root(2, 2, named(1, 1)), api.ErrFull)
		for _, c := range append([]api.Cap{named(1, 1)}, badCaps...) {
			for _, at := range outside {
				asks(t, "no slot", s.Root(at[0], at[1], c), api.ErrSlot)
			}
			asks(t, "busy", s.Root(0, 2, c), api.ErrBusy)
		}
		for _, c := range badCaps {
			asks(t, "full, and it may not be", s.Root(2, 2, c), api.ErrArg)
		}
	})
	s = some(t)
	kept(t, "root", s, func() {
		for _, c := range badCaps {
			asks(t, "it may not be", s.Root(2, 2, c), api.ErrArg)
		}
	})
}

// P13.1: of another goroutine's, or its own; another object's, with rights that are among those ahead of it.
func TestDerive(t *testing.T) {
	s := space(t, 2, 4, 8)
	asks(t, "root", s.Root(0, 1, capability(api.KindContext, 4, 5, 7)), api.OK)
	for i, x := range []struct {
		from, to place
		cap      api.Cap
	}{
		{place{0, 1}, place{1, 0}, capability(api.KindContext, 4, 5, 7)},
		{place{0, 1}, place{0, 0}, capability(api.KindContext, 4, 5, 5)},
		{place{0, 1}, place{1, 1}, capability(api.KindG, 0, 1, 0)},
		{place{1, 0}, place{1, 2}, capability(api.KindDomain, 9, 9, 6)},
		{place{0, 0}, place{1, 3}, capability(api.KindContext, 4, 5, 1)},
		{place{1, 1}, place{0, 3}, capability(api.KindContext, 4, 5, 0)},
	} {
		asks(t, "derive", s.Derive(x.from[0], x.from[1], x.to[0], x.to[1], x.cap), api.OK)
		if c, e := s.Get(x.to[0], x.to[1]); c != x.cap || e != api.OK {
			t.Errorf("%v, %v; want %v", c, e, x.cap)
		}
		if g, slot, has := s.Parent(x.to[0], x.to[1]); (place{g, slot}) != x.from || !has {
			t.Errorf("parent of %v: %d, %d, %v", x.to, g, slot, has)
		}
		if s.Len() != i+2 || s.Room() != 6-i {
			t.Errorf("%d, and room for %d", s.Len(), s.Room())
		}
	}
	stands(t, s, "0.0=4<0.1", "0.1=4", "0.3=4<1.1", "1.0=4<0.1", "1.1=0<0.1", "1.2=9<1.0", "1.3=4<0.0")
}

// P13.1, P13.6: all rights against all rights.
func TestDeriveOfAllRights(t *testing.T) {
	for from := range 256 {
		s := space(t, 1, 2, 2)
		asks(t, "root", s.Root(0, 0, named(1, api.Rights(from))), api.OK)
		for r := range 256 {
			want := api.ErrRights
			if _, are := rights.Narrow(api.Rights(from), api.Rights(r)); are {
				want = api.OK
			}
			if e := s.Derive(0, 0, 0, 1, named(2, api.Rights(r))); e != want {
				t.Fatalf("%d of %d: %v", r, from, e)
			}
			if s.Delete(0, 1) != (map[bool]api.Errno{true: api.OK, false: api.ErrEmpty})[want == api.OK] {
				t.Fatalf("%d of %d is there, or not", r, from)
			}
		}
	}
}

// P13.1: by which error, where several apply.
func TestDeriveIsRefused(t *testing.T) {
	for _, full := range []bool{false, true} {
		s := some(t)
		s.Root(1, 1, named(5, 6))
		if full {
			rooted(t, s, place{1, 2})
		}
		kept(t, "derive", s, func() {
			bad := append([]api.Cap{named(1, 8), named(1, api.AllRights)}, badCaps...)
			deriveOutside(t, s, append(bad, named(1, 2)))
			for _, c := range append(bad, named(1, 2)) {
				asks(t, "empty", s.Derive(2, 3, 2, 2, c), api.ErrEmpty)
				asks(t, "empty, to itself", s.Derive(2, 3, 2, 3, c), api.ErrEmpty)
				asks(t, "empty, to busy", s.Derive(2, 3, 0, 0, c), api.ErrEmpty)
				asks(t, "busy", s.Derive(1, 1, 0, 2, c), api.ErrBusy)
				asks(t, "busy: itself", s.Derive(1, 1, 1, 1, c), api.ErrBusy)
			}
			for _, c := range badCaps {
				asks(t, "it may not be", s.Derive(1, 1, 2, 2, c), api.ErrArg)
			}
			for _, r := range []api.Rights{1, 8, 7, 14, 128, 129, 249, 255} {
				asks(t, "a right more", s.Derive(1, 1, 2, 2, named(1, r)), api.ErrRights)
			}
			if full {
				asks(t, "full", s.Derive(1, 1, 2, 2, named(1, 6)), api.ErrFull)
			}
		})
	}
}

// deriveOutside asks for ErrSlot, where the one slot is none, and where the other one is; it is told ahead of all else but that nothing is in the first one.
func deriveOutside(t *testing.T, s *Space, caps []api.Cap) {
	t.Helper()
	for _, c := range caps {
		for _, at := range outside {
			asks(t, "from no slot", s.Derive(at[0], at[1], 2, 2, c), api.ErrSlot)
			asks(t, "from no slot, to busy", s.Derive(at[0], at[1], 0, 0, c), api.ErrSlot)
			asks(t, "from no slot, to none", s.Derive(at[0], at[1], at[0], at[1], c), api.ErrSlot)
			asks(t, "to no slot", s.Derive(1, 1, at[0], at[1], c), api.ErrSlot)
			asks(t, "from empty, to no slot", s.Derive(2, 3, at[0], at[1], c), api.ErrEmpty)
		}
	}
}

// P13.2: of each slot; and of those that there are not.
func TestGetAndFree(t *testing.T) {
	s := some(t)
	kept(t, "what asks", s, func() {
		for _, at := range []place{{0, 0}, {0, 2}, {1, 0}, {1, 3}, {2, 0}, {2, 1}} {
			if c, e := s.Get(at[0], at[1]); c != named(at[0]*100+at[1], api.AllRights) || e != api.OK {
				t.Errorf("get(%v): %v, %v", at, c, e)
			}
			asks(t, "free", s.Free(at[0], at[1]), api.ErrBusy)
		}
		for _, at := range []place{{0, 1}, {0, 3}, {1, 1}, {1, 2}, {2, 2}, {2, 3}} {
			ofNothing(t, s, at, api.ErrEmpty, api.OK)
		}
		for _, at := range outside {
			ofNothing(t, s, at, api.ErrSlot, api.ErrSlot)
		}
	})
}

// ofNothing asks all that tells something of a slot, of one in which nothing is.
func ofNothing(t *testing.T, s *Space, at place, want, free api.Errno) {
	t.Helper()
	if c, e := s.Get(at[0], at[1]); c != (api.Cap{}) || e != want {
		t.Errorf("get(%v): %v, %v; want %v", at, c, e, want)
	}
	asks(t, "free", s.Free(at[0], at[1]), free)
	if g, slot, has := s.Parent(at[0], at[1]); g != 0 || slot != 0 || has {
		t.Errorf("parent(%v): %d, %d, %v", at, g, slot, has)
	}
	for _, o := range []place{at, {0, 0}, {0, 2}, {2, 3}} {
		if s.Under(at[0], at[1], o[0], o[1]) || s.Under(o[0], o[1], at[0], at[1]) {
			t.Errorf("%v under %v, or the other way", at, o)
		}
	}
	asks(t, "delete", s.Delete(at[0], at[1]), want)
	for _, to := range []int{0, 1, 3, at[1], -1, 4} {
		asks(t, "move", s.Move(at[0], at[1], to), want)
	}
	if n, e := s.Revoke(at[0], at[1]); n != 0 || e != want {
		t.Errorf("revoke(%v): %d, %v", at, n, e)
	}
}

// P13.2: its parent, and its children, as they were; and what comes later stands under it where it is now.
func TestMove(t *testing.T) {
	s := some(t)
	asks(t, "move", s.Move(0, 2, 3), api.OK)
	stands(t, s, "0.0=0", "0.3=2<1.3", "1.0=100", "1.3=103<0.0", "2.0=200<0.0", "2.1=201<0.3")
	asks(t, "move", s.Move(0, 0, 2), api.OK)
	stands(t, s, "0.2=0", "0.3=2<1.3", "1.0=100", "1.3=103<0.2", "2.0=200<0.2", "2.1=201<0.3")
	asks(t, "move", s.Move(1, 3, 2), api.OK)
	asks(t, "move", s.Move(1, 2, 3), api.OK)
	asks(t, "move", s.Move(1, 0, 1), api.OK)
	stands(t, s, "0.2=0", "0.3=2<1.3", "1.1=100", "1.3=103<0.2", "2.0=200<0.2", "2.1=201<0.3")
	derived(t, s, place{1, 1}, place{0, 0}, place{1, 0})
	stands(t, s, "0.0=0<1.1", "0.2=0", "0.3=2<1.3", "1.0=100<0.0", "1.1=100", "1.3=103<0.2", "2.0=200<0.2", "2.1=201<0.3")
	asks(t, "delete", s.Delete(0, 3), api.OK)
	if n, e := s.Revoke(0, 2); n != 3 || e != api.OK {
		t.Error(n, e)
	}
	stands(t, s, "0.0=0<1.1", "0.2=0", "1.0=100<0.0", "1.1=100")
}

// P13.2: by which error, where several apply; also where there is no room for one more it may be moved.
func TestMoveIsRefused(t *testing.T) {
	s := some(t)
	rooted(t, s, place{1, 1}, place{1, 2})
	kept(t, "move", s, func() {
		for _, to := range []int{-1, 4, 5, api.MaxSlots, math.MinInt, math.MaxInt} {
			asks(t, "to no slot", s.Move(0, 0, to), api.ErrSlot)
			asks(t, "from no slot", s.Move(0, to, 1), api.ErrSlot)
			asks(t, "from empty, to no slot", s.Move(0, 1, to), api.ErrEmpty)
		}
		asks(t, "to busy", s.Move(0, 0, 2), api.ErrBusy)
		asks(t, "to itself", s.Move(0, 0, 0), api.ErrBusy)
		asks(t, "from empty, to busy", s.Move(0, 1, 0), api.ErrEmpty)
		asks(t, "from empty, to itself", s.Move(0, 1, 1), api.ErrEmpty)
		for _, g := range []int{-1, 3, math.MinInt, math.MaxInt} {
			asks(t, "of no goroutine", s.Move(g, 0, 1), api.ErrSlot)
		}
	})
	asks(t, "full", s.Move(0, 0, 1), api.OK)
}

// P13.3: what was derived from it is its parent's; of one that has none, it has none.
func TestDelete(t *testing.T) {
	for _, x := range []struct {
		at   place
		want []string
	}{
		{place{0, 0}, []string{"0.2=2<1.3", "1.0=100", "1.3=103", "2.0=200", "2.1=201<0.2"}},
		{place{1, 0}, []string{"0.0=0", "0.2=2<1.3", "1.3=103<0.0", "2.0=200<0.0", "2.1=201<0.2"}},
		{place{1, 3}, []string{"0.0=0", "0.2=2<0.0", "1.0=100", "2.0=200<0.0", "2.1=201<0.2"}},
		{place{0, 2}, []string{"0.0=0", "1.0=100", "1.3=103<0.0", "2.0=200<0.0", "2.1=201<1.3"}},
		{place{2, 1}, []string{"0.0=0", "0.2=2<1.3", "1.0=100", "1.3=103<0.0", "2.0=200<0.0"}},
	} {
		s := some(t)
		asks(t, "delete", s.Delete(x.at[0], x.at[1]), api.OK)
		stands(t, s, x.want...)
		if s.Room() != 3 {
			t.Error(s.Room())
		}
		kept(t, "what is empty", s, func() { ofNothing(t, s, x.at, api.ErrEmpty, api.OK) })
		rooted(t, s, x.at)
		if s.Under(0, 2, x.at[0], x.at[1]) || s.Under(2, 0, x.at[0], x.at[1]) || s.Under(2, 1, x.at[0], x.at[1]) {
			t.Errorf("what came of what was in %v is under what came there", x.at)
		}
	}
}

// P13.3, P13.6: all below it is gone, in whichever table; it stays, and so does all else.
func TestRevoke(t *testing.T) {
	for _, x := range []struct {
		at   place
		want []string
	}{
		{place{0, 0}, []string{"0.0=0", "1.0=100"}},
		{place{1, 3}, []string{"0.0=0", "1.0=100", "1.3=103<0.0", "2.0=200<0.0"}},
		{place{0, 2}, []string{"0.0=0", "0.2=2<1.3", "1.0=100", "1.3=103<0.0", "2.0=200<0.0"}},
	} {
		s := some(t)
		if n, e := s.Revoke(x.at[0], x.at[1]); n != 6-len(x.want) || e != api.OK {
			t.Errorf("revoke(%v): %d, %v", x.at, n, e)
		}
		stands(t, s, x.want...)
		if s.Room() != 8-len(x.want) {
			t.Error(s.Room())
		}
		kept(t, "what is empty", s, func() { ofNothing(t, s, place{2, 1}, api.ErrEmpty, api.OK) })
		kept(t, "once more", s, func() {
			if n, e := s.Revoke(x.at[0], x.at[1]); n != 0 || e != api.OK {
				t.Errorf("once more: %d, %v", n, e)
			}
		})
		rooted(t, s, place{2, 1})
		if s.Under(2, 1, x.at[0], x.at[1]) {
			t.Error("what came later is under it")
		}
	}
	for _, at := range []place{{1, 0}, {2, 0}, {2, 1}} {
		s := some(t)
		kept(t, "revoke of one without descendants", s, func() {
			if n, e := s.Revoke(at[0], at[1]); n != 0 || e != api.OK {
				t.Error(n, e)
			}
		})
	}
}

// P13.3: all of one goroutine; what came of these stays.
func TestClear(t *testing.T) {
	for g, want := range [][]string{
		{"1.0=100", "1.3=103", "2.0=200", "2.1=201<1.3"},
		{"0.0=0", "0.2=2<0.0", "2.0=200<0.0", "2.1=201<0.2"},
		{"0.0=0", "0.2=2<1.3", "1.0=100", "1.3=103<0.0"},
	} {
		s := some(t)
		if n := s.Clear(g); n != 2 {
			t.Errorf("clear(%d): %d", g, n)
		}
		stands(t, s, want...)
		kept(t, "once more", s, func() {
			if n := s.Clear(g); n != 0 {
				t.Errorf("once more: %d", n)
			}
		})
		rooted(t, s, place{g, 0}, place{g, 1}, place{g, 2}, place{g, 3})
		if n := s.Clear(g); n != 4 {
			t.Errorf("of a full table: %d", n)
		}
		stands(t, s, want...)
	}
	s := some(t)
	kept(t, "clear of none", s, func() {
		for _, g := range []int{-1, 3, api.MaxGs, math.MinInt, math.MaxInt} {
			if n := s.Clear(g); n != 0 {
				t.Errorf("clear(%d): %d", g, n)
			}
		}
	})
}

// P13.4: of each goroutine, and of those that there are not.
func TestCaps(t *testing.T) {
	s := some(t)
	rooted(t, s, place{0, 3}, place{0, 1})
	asks(t, "move", s.Move(0, 0, 0), api.ErrBusy)
	held := func(l ...int) []api.Held {
		var h []api.Held
		for _, n := range l {
			h = append(h, api.Held{Slot: n % 100, Cap: named(n, api.AllRights)})
		}
		return h
	}
	for g, want := range map[int][]api.Held{0: held(0, 1, 2, 3), 1: held(100, 103), 2: held(200, 201), -1: nil, 3: nil, math.MinInt: nil, math.MaxInt: nil} {
		if l := s.Caps(g); !slices.Equal(l, want) {
			t.Errorf("caps(%d): %v; want %v", g, l, want)
		}
	}
	if l := space(t, 1, 1, 1).Caps(0); len(l) > 0 {
		t.Error(l)
	}
}

// P13.4: of each two.
func TestUnder(t *testing.T) {
	s := some(t)
	below := map[place][]place{
		{0, 0}: {{1, 3}, {0, 2}, {2, 1}, {2, 0}},
		{1, 3}: {{0, 2}, {2, 1}},
		{0, 2}: {{2, 1}},
	}
	for g := range 3 {
		for slot := range 4 {
			for of := range 3 {
				for at := range 4 {
					want := slices.Contains(below[place{of, at}], place{g, slot})
					if is := s.Under(g, slot, of, at); is != want {
						t.Errorf("under(%d, %d, %d, %d): %v", g, slot, of, at, is)
					}
				}
			}
		}
	}
}

// P13.1 to P13.5: nil, and a zero one, are none; that is told ahead of whatever else is wrong.
func TestOfNone(t *testing.T) {
	for _, s := range []*Space{nil, {}} {
		for _, at := range append([]place{{0, 0}, {1, 1}}, outside...) {
			ofNothing(t, s, at, api.ErrNil, api.ErrNil)
			for _, c := range append([]api.Cap{named(1, 1)}, badCaps...) {
				asks(t, "root", s.Root(at[0], at[1], c), api.ErrNil)
				asks(t, "derive", s.Derive(at[0], at[1], 0, 0, c), api.ErrNil)
				asks(t, "derive", s.Derive(0, 0, at[0], at[1], c), api.ErrNil)
			}
			if l, n := s.Caps(at[0]), s.Clear(at[0]); len(l) > 0 || n != 0 {
				t.Error(l, n)
			}
		}
		if s.Len() != 0 || s.Room() != 0 {
			t.Error(s.Len(), s.Room())
		}
		if c := s.Copy(); (s == nil) != (c == nil) || !c.Same(s) || c.Len() != 0 {
			t.Error("copy", c)
		}
		for _, o := range []*Space{nil, {}} {
			if !s.Same(o) || !o.Same(s) {
				t.Error("not the same", s, o)
			}
		}
		if o := space(t, 1, 1, 1); s.Same(o) || o.Same(s) {
			t.Error("the same as a new one")
		}
	}
}

// P13.4: what is answered is the caller's.
func TestAnswersAreNew(t *testing.T) {
	s := some(t)
	kept(t, "an answer", s, func() {
		l := s.Caps(0)
		clear(l[:cap(l)])
	})
	l := s.Caps(0)
	s.Clear(0)
	if want := (api.Held{Slot: 2, Cap: named(2, api.AllRights)}); l[1] != want {
		t.Error("what was answered changed later", l)
	}
}

// P13.5: the same, and they go on apart, neither way seen.
func TestCopy(t *testing.T) {
	for _, swap := range []bool{false, true} {
		a := some(t)
		b := a.Copy()
		if !a.Same(b) || !b.Same(a) || b.Room() != 2 {
			t.Error("not the same")
		}
		if swap {
			a, b = b, a
		}
		rooted(t, a, place{0, 1})
		derived(t, a, place{0, 2}, place{2, 2})
		asks(t, "full", a.Root(2, 3, named(1, 1)), api.ErrFull)
		asks(t, "move", a.Move(0, 2, 3), api.OK)
		asks(t, "delete", a.Delete(0, 0), api.OK)
		stands(t, a, "0.1=1", "0.3=2<1.3", "1.0=100", "1.3=103", "2.0=200", "2.1=201<0.3", "2.2=202<0.3")
		stands(t, b, "0.0=0", "0.2=2<1.3", "1.0=100", "1.3=103<0.0", "2.0=200<0.0", "2.1=201<0.2")
		if n, e := b.Revoke(0, 0); n != 4 || e != api.OK {
			t.Error(n, e)
		}
		stands(t, b, "0.0=0", "1.0=100")
		rooted(t, b, place{0, 1}, place{1, 1}, place{2, 1})
		stands(t, a, "0.1=1", "0.3=2<1.3", "1.0=100", "1.3=103", "2.0=200", "2.1=201<0.3", "2.2=202<0.3")
	}
}

// P13.5: each thing that may differ.
func TestSame(t *testing.T) {
	again := func(s *Space, g, slot int, c api.Cap) {
		s.Delete(g, slot)
		s.Derive(0, 2, g, slot, c)
	}
	for i, change := range []func(s *Space){
		func(s *Space) { s.Root(0, 1, named(1, 1)) },
		func(s *Space) { s.Derive(0, 0, 0, 1, named(1, 1)) },
		func(s *Space) { s.Delete(0, 0) },
		func(s *Space) { s.Delete(1, 0) },
		func(s *Space) { s.Delete(2, 1) },
		func(s *Space) { s.Revoke(0, 2) },
		func(s *Space) { s.Move(0, 0, 1) },
		func(s *Space) { s.Move(2, 1, 2) },
		func(s *Space) { again(s, 2, 1, named(202, api.AllRights)) },                            // another object
		func(s *Space) { again(s, 2, 1, capability(api.KindContext, 201, 2, api.AllRights)) },   // another generation
		func(s *Space) { again(s, 2, 1, capability(api.KindDomain, 201, 1, api.AllRights)) },    // another kind
		func(s *Space) { again(s, 2, 1, named(201, 254)) },                                      // other rights
		func(s *Space) { s.Delete(2, 1); s.Root(2, 1, named(201, api.AllRights)) },              // no parent
		func(s *Space) { s.Delete(2, 0); s.Root(2, 0, named(200, api.AllRights)) },              // no parent, where that was in 0.0
		func(s *Space) { s.Delete(1, 0); s.Derive(0, 0, 1, 0, named(100, api.AllRights)) },      // a parent, in 0.0
		func(s *Space) { s.Delete(2, 1); s.Derive(0, 0, 2, 1, named(201, api.AllRights)) },      // another parent
		func(s *Space) { s.Clear(2); s.Root(1, 1, named(1, 1)); s.Root(1, 2, named(1, 1)) },     // as many, elsewhere
		func(s *Space) { s.Delete(2, 1); s.Derive(0, 2, 2, 2, named(201, api.AllRights)) },      // in another slot
		func(s *Space) { s.Delete(2, 1); s.Derive(0, 2, 1, 1, named(201, api.AllRights)) },      // of another goroutine
		func(s *Space) { s.Delete(1, 3); s.Derive(0, 0, 1, 3, named(103, api.AllRights)) },      // the children are another one's
		func(s *Space) { s.Delete(0, 0); s.Root(0, 0, named(0, api.AllRights)) },                // the children are nobody's
		func(s *Space) { s.Delete(1, 0); s.Derive(2, 1, 1, 0, named(100, api.AllRights)) },      // deeper
		func(s *Space) { s.Clear(0); s.Clear(1); s.Clear(2) },                                   // nothing
		func(s *Space) { s.Delete(2, 0); s.Derive(1, 3, 2, 0, named(200, api.AllRights)) },      // another parent
		func(s *Space) { s.Delete(1, 0); s.Root(1, 0, capability(api.KindG, 100, 1, 255)) },     // a root's kind
		func(s *Space) { s.Delete(1, 0); s.Root(1, 0, capability(api.KindContext, 9, 1, 255)) }, // a root's object
	} {
		a, b := some(t), some(t)
		if !a.Same(b) || !a.Same(a) {
			t.Fatal("not the same")
		}
		change(b)
		if a.Same(b) || b.Same(a) {
			t.Errorf("the same behind change %d", i)
		}
	}
}

// P13.5: of other sizes, with and without something.
func TestSameOfOtherSizes(t *testing.T) {
	for _, fill := range []bool{false, true} {
		l := []*Space{space(t, 3, 4, 5), space(t, 2, 4, 5), space(t, 4, 4, 5), space(t, 3, 3, 5), space(t, 3, 5, 5), space(t, 3, 4, 4), space(t, 3, 4, 6)}
		for i, a := range l {
			if fill {
				rooted(t, a, place{1, 1})
				derived(t, a, place{1, 1}, place{0, 2})
			}
			for j, b := range l[:i] {
				if a.Same(b) || b.Same(a) {
					t.Errorf("%d is the same as %d", i, j)
				}
			}
			if !a.Same(a.Copy()) {
				t.Errorf("%d is not the same", i)
			}
		}
	}
	// As much room is left, but not in all.
	a, b := space(t, 1, 2, 1), space(t, 1, 2, 2)
	rooted(t, b, place{0, 0})
	if a.Same(b) || b.Same(a) {
		t.Error("the same of others in number")
	}
}

// P13.5: by which way they came to be as they are is not asked.
func TestSameOfOtherWays(t *testing.T) {
	a, b := some(t), space(t, 3, 4, 8)
	rooted(t, b, place{2, 2}, place{1, 0}, place{0, 0})
	derived(t, b, place{0, 0}, place{2, 0})
	derived(t, b, place{0, 0}, place{1, 3}, place{0, 2}, place{2, 1})
	if a.Same(b) || b.Same(a) {
		t.Error("the same, with one more")
	}
	asks(t, "delete", b.Delete(2, 2), api.OK)
	if !a.Same(b) || !b.Same(a) {
		t.Error("not the same")
	}
	asks(t, "move", a.Move(0, 2, 1), api.OK)
	asks(t, "move", a.Move(0, 1, 2), api.OK)
	rooted(t, a, place{2, 3})
	rooted(t, b, place{2, 3})
	if !a.Same(b) || !b.Same(a) {
		t.Error("not the same, later")
	}
}

// P13.1, P13.3: as many as there may be, one derived from the other, over all tables.
func TestMost(t *testing.T) {
	s := space(t, api.MaxGs, api.MaxSlots, api.MaxNodes)
	at := func(n int) place { return place{n * 7 % api.MaxGs, n / api.MaxGs * 4} }
	rooted(t, s, at(0))
	for n := 1; n < api.MaxNodes; n++ {
		derived(t, s, at(n-1), at(n))
	}
	last := at(api.MaxNodes - 1)
	if s.Room() != 0 || s.Len() != api.MaxNodes || !s.Under(last[0], last[1], 0, 0) || !s.Same(s.Copy()) {
		t.Error(s.Len(), s.Room())
	}
	kept(t, "what is full", s, func() {
		asks(t, "root", s.Root(63, 31, named(1, 1)), api.ErrFull)
		asks(t, "derive", s.Derive(0, 0, 63, 31, named(1, 1)), api.ErrFull)
	})
	asks(t, "move", s.Move(0, 0, 31), api.OK)
	half := at(api.MaxNodes / 2)
	if n, e := s.Revoke(half[0], half[1]); n != api.MaxNodes/2-1 || e != api.OK {
		t.Error(n, e)
	}
	if n := s.Clear(63); n != 4 {
		t.Error(n)
	}
	if n, e := s.Revoke(0, 31); n != api.MaxNodes/2-4 || e != api.OK {
		t.Error(n, e)
	}
	stands(t, s, "0.31=0")
	rooted(t, s, place{63, 31})
}
