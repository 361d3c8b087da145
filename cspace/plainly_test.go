package cspace

import (
	"maps"
	"math/rand/v2"
	"slices"
	"strconv"
	"strings"
	"testing"

	"helmsman/api"
)

// one is a capability as the chapter's words tell it: in which slot, and from which one it was derived, or nil.
type one struct {
	g, slot int
	cap     api.Cap
	parent  *one
}

// plainly is a space as the chapter's words tell it.
type plainly struct {
	gs, slots, nodes int
	all              []*one
}

// under: was it derived from that one, or from one that was, and so on?
func (x *one) under(of *one) bool {
	for up := x.parent; up != nil; up = up.parent {
		if up == of {
			return true
		}
	}
	return false
}

// mayBe: may a capability be?
func mayBe(c api.Cap) bool {
	kinds := []api.Kind{api.KindG, api.KindContext, api.KindDomain}
	return slices.Contains(kinds, c.Kind) && c.Object.Index >= 0 && c.Object.Gen > 0
}

// has: is there such a goroutine, and such a slot?
func (p *plainly) has(g, slot int) bool {
	return g >= 0 && g < p.gs && slot >= 0 && slot < p.slots
}

// of is what is in a slot, or nil.
func (p *plainly) of(g, slot int) *one {
	for _, x := range p.all {
		if x.g == g && x.slot == slot {
			return x
		}
	}
	return nil
}

// get is what is in a slot, or the error.
func (p *plainly) get(g, slot int) (*one, api.Errno) {
	x := p.of(g, slot)
	switch {
	case !p.has(g, slot):
		return nil, api.ErrSlot
	case x == nil:
		return nil, api.ErrEmpty
	}
	return x, api.OK
}

func (p *plainly) free(g, slot int) api.Errno {
	switch {
	case !p.has(g, slot):
		return api.ErrSlot
	case p.of(g, slot) != nil:
		return api.ErrBusy
	}
	return api.OK
}

// come has a capability be there, of that parent or none, but for the error.
func (p *plainly) come(parent *one, g, slot int, c api.Cap) api.Errno {
	if e := p.free(g, slot); e != api.OK {
		return e
	}
	switch {
	case !mayBe(c):
		return api.ErrArg
	case parent != nil && parent.cap.Rights|c.Rights != parent.cap.Rights:
		return api.ErrRights
	case len(p.all) == p.nodes:
		return api.ErrFull
	}
	p.all = append(p.all, &one{g, slot, c, parent})
	return api.OK
}

func (p *plainly) derive(g, slot, toG, to int, c api.Cap) api.Errno {
	x, e := p.get(g, slot)
	if e != api.OK {
		return e
	}
	return p.come(x, toG, to, c)
}

func (p *plainly) move(g, slot, to int) api.Errno {
	x, e := p.get(g, slot)
	if e == api.OK {
		e = p.free(g, to)
	}
	if e == api.OK {
		x.slot = to
	}
	return e
}

func (p *plainly) delete(g, slot int) api.Errno {
	x, e := p.get(g, slot)
	if e != api.OK {
		return e
	}
	for _, y := range p.all {
		if y.parent == x {
			y.parent = x.parent
		}
	}
	p.all = slices.DeleteFunc(p.all, func(y *one) bool { return y == x })
	return api.OK
}

func (p *plainly) revoke(g, slot int) (int, api.Errno) {
	x, e := p.get(g, slot)
	if e != api.OK {
		return 0, e
	}
	was := len(p.all)
	p.all = slices.DeleteFunc(p.all, func(y *one) bool { return y.under(x) })
	return was - len(p.all), api.OK
}

func (p *plainly) clear(g int) int {
	n := 0
	for slot := range p.slots {
		if p.delete(g, slot) == api.OK {
			n++
		}
	}
	return n
}

func (p *plainly) caps(g int) []api.Held {
	var l []api.Held
	for slot := range p.slots {
		if x := p.of(g, slot); x != nil {
			l = append(l, api.Held{Slot: slot, Cap: x.cap})
		}
	}
	return l
}

func (p *plainly) copy() *plainly {
	o := &plainly{gs: p.gs, slots: p.slots, nodes: p.nodes}
	copies := map[*one]*one{nil: nil}
	for _, x := range p.all {
		y := *x
		copies[x] = &y
		o.all = append(o.all, &y)
	}
	for _, y := range o.all {
		y.parent = copies[y.parent]
	}
	return o
}

// text tells all of a space: two of the same text are the same.
func (p *plainly) text() string {
	l := []string{numbers(p.gs, p.slots, p.nodes)}
	for _, x := range p.all {
		s := numbers(x.g, x.slot, int(x.cap.Kind), x.cap.Object.Index, int(x.cap.Object.Gen), int(x.cap.Rights))
		if x.parent != nil {
			s += "<" + numbers(x.parent.g, x.parent.slot)
		}
		l = append(l, s)
	}
	slices.Sort(l[1:])
	return strings.Join(l, " ")
}

func numbers(l ...int) string {
	var s []string
	for _, n := range l {
		s = append(s, strconv.Itoa(n))
	}
	return strings.Join(s, ".")
}

// both are a space, and the same plainly.
type both struct {
	s *Space
	p *plainly
}

func newBoth(t *testing.T, gs, slots, nodes int) both {
	return both{space(t, gs, slots, nodes), &plainly{gs: gs, slots: slots, nodes: nodes}}
}

func (b both) copy() both { return both{b.s.Copy(), b.p.copy()} }

// places are all slots, and some beside them.
func (b both) places() []place {
	var l []place
	for g := -1; g <= b.p.gs; g++ {
		for slot := -1; slot <= b.p.slots; slot++ {
			l = append(l, place{g, slot})
		}
	}
	return l
}

// same: do both tell the same?
func (b both) same(t *testing.T) {
	t.Helper()
	if b.s.Len() != len(b.p.all) || b.s.Room() != b.p.nodes-len(b.p.all) {
		t.Fatalf("%d, and room for %d; want %s", b.s.Len(), b.s.Room(), b.p.text())
	}
	for g := -1; g <= b.p.gs; g++ {
		if l := b.s.Caps(g); !slices.Equal(l, b.p.caps(g)) {
			t.Fatalf("caps(%d): %v; want %v", g, l, b.p.caps(g))
		}
	}
	l := b.places()
	for _, at := range l {
		b.sameOf(t, at, l)
	}
}

// sameOf: do both tell the same of a slot?
func (b both) sameOf(t *testing.T, at place, others []place) {
	t.Helper()
	x, wanted := b.p.get(at[0], at[1])
	var want api.Cap
	var parent *one
	if x != nil {
		want, parent = x.cap, x.parent
	}
	if c, e := b.s.Get(at[0], at[1]); c != want || e != wanted {
		t.Fatalf("get(%v): %v, %v; want %v, %v", at, c, e, want, wanted)
	}
	if e := b.s.Free(at[0], at[1]); e != b.p.free(at[0], at[1]) {
		t.Fatalf("free(%v): %v", at, e)
	}
	var above place
	if parent != nil {
		above = place{parent.g, parent.slot}
	}
	if g, slot, has := b.s.Parent(at[0], at[1]); (place{g, slot}) != above || has != (parent != nil) {
		t.Fatalf("parent(%v): %d, %d, %v; want %v", at, g, slot, has, above)
	}
	for _, o := range others {
		y := b.p.of(o[0], o[1])
		if is := b.s.Under(at[0], at[1], o[0], o[1]); is != (x != nil && y != nil && x.under(y)) {
			t.Fatalf("under(%v, %v): %v", at, o, is)
		}
	}
}

// The calls that change a space.
const (
	root = iota
	derive
	move
	remove
	revoke
	drain
	calls
)

// asked is a call, and what is handed in to it: a slot, another one, a capability.
type asked struct {
	call     int
	from, to place
	cap      api.Cap
}

// do calls the space.
func (a asked) do(s *Space) (int, api.Errno) {
	switch a.call {
	case root:
		return 0, s.Root(a.to[0], a.to[1], a.cap)
	case derive:
		return 0, s.Derive(a.from[0], a.from[1], a.to[0], a.to[1], a.cap)
	case move:
		return 0, s.Move(a.from[0], a.from[1], a.to[1])
	case remove:
		return 0, s.Delete(a.from[0], a.from[1])
	case revoke:
		return s.Revoke(a.from[0], a.from[1])
	}
	return s.Clear(a.from[0]), api.OK
}

// plainly does the same as it is told.
func (a asked) plainly(p *plainly) (int, api.Errno) {
	switch a.call {
	case root:
		return 0, p.come(nil, a.to[0], a.to[1], a.cap)
	case derive:
		return 0, p.derive(a.from[0], a.from[1], a.to[0], a.to[1], a.cap)
	case move:
		return 0, p.move(a.from[0], a.from[1], a.to[1])
	case remove:
		return 0, p.delete(a.from[0], a.from[1])
	case revoke:
		return p.revoke(a.from[0], a.from[1])
	}
	return p.clear(a.from[0]), api.OK
}

// do has both do it, and asks for the same answers.
func (b both) do(t *testing.T, a asked) api.Errno {
	t.Helper()
	was := b.p.text()
	n, e := a.do(b.s)
	m, f := a.plainly(b.p)
	if n != m || e != f {
		t.Fatalf("%v of %s: %d, %v; want %d, %v", a, was, n, e, m, f)
	}
	return e
}

// every is each call that can be made of a space with these capabilities.
func (b both) every(caps []api.Cap) []asked {
	l := []asked{}
	for _, at := range b.places() {
		for _, call := range []int{remove, revoke, drain} {
			l = append(l, asked{call: call, from: at})
		}
		for slot := -1; slot <= b.p.slots; slot++ {
			l = append(l, asked{call: move, from: at, to: place{at[0], slot}})
		}
		for _, c := range caps {
			l = append(l, asked{call: root, to: at, cap: c})
			for _, from := range b.places() {
				l = append(l, asked{call: derive, from: from, to: at, cap: c})
			}
		}
	}
	return l
}

// reach goes over all spaces that calls lead to, and makes each call in each of them; how many there were.
func (b both) reach(t *testing.T, caps []api.Cap) int {
	every := b.every(caps)
	met := map[string]int{b.p.text(): 0}
	for row := []both{b}; len(row) > 0; {
		b := row[0]
		row = row[1:]
		for _, a := range every {
			o := b.p.copy()
			if _, e := a.plainly(o); e != api.OK {
				b.do(t, a)
				continue
			}
			c := b.copy()
			c.do(t, a)
			if c.s.Same(b.s) != (c.p.text() == b.p.text()) {
				t.Fatalf("same of %s, %s", c.p.text(), b.p.text())
			}
			if _, is := met[c.p.text()]; !is {
				met[c.p.text()] = len(met)
				c.same(t)
				row = append(row, c)
			}
		}
		b.same(t)
	}
	return len(met)
}

// P13.1 to P13.5: all calls, the wrong ones too, in all spaces of few slots that calls lead to; what is refused changes nothing.
func TestAllSpaces(t *testing.T) {
	more, less := capability(api.KindG, 0, 1, 3), capability(api.KindContext, 1, 2, 1)
	none, bad := capability(api.KindDomain, 0, 1, 0), capability(api.KindG, 0, 0, 0)
	worse := capability(0, 0, 1, api.AllRights)
	for _, x := range []struct {
		gs, slots, nodes int
		caps             []api.Cap
		want             int
	}{
		{1, 1, 1, []api.Cap{more, less, none, bad, worse}, 4},
		{1, 2, 2, []api.Cap{more, less, none, bad, worse}, 1 + 2*3 + 9 + 2*6},
		{2, 2, 3, []api.Cap{more, less, worse}, 1 + 4*2 + 6*(4+3+3) + 4*forestsOfThree},
		{2, 1, 1, []api.Cap{more, none, bad}, 5},
		{3, 1, 3, []api.Cap{more, less, bad}, 1 + 3*2 + 3*(4+3+3) + forestsOfThree},
	} {
		if n := newBoth(t, x.gs, x.slots, x.nodes).reach(t, x.caps); n != x.want {
			t.Errorf("%d spaces; want %d", n, x.want)
		}
	}
}

// forestsOfThree is how many ways there are to have three capabilities, each of two rights or of one of these, in three slots, none with a right that its parent has not: all without a parent; one under another one, and one apart; two under one; each under the next one.
const forestsOfThree = 8 + 6*2*3 + 3*5 + 6*4

// P13.1 to P13.6: whatever is done, both go on alike; so do copies of both, apart.
func TestAsToldPlainly(t *testing.T) {
	rnd := rand.New(rand.NewPCG(51, 52))
	went := map[api.Errno]int{}
	for range 150 {
		gs, slots := 1+rnd.IntN(5), 1+rnd.IntN(6)
		l := []both{newBoth(t, gs, slots, 1+rnd.IntN(gs*slots+2))}
		for range 120 {
			b := l[rnd.IntN(len(l))]
			if rnd.IntN(20) == 0 {
				l = append(l[max(len(l)-2, 0):], b.copy())
			}
			went[b.do(t, b.some(rnd))]++
			for _, o := range l {
				o.same(t)
				if b.s.Same(o.s) != (b.p.text() == o.p.text()) {
					t.Fatalf("same of %s, %s", b.p.text(), o.p.text())
				}
			}
		}
	}
	for _, e := range []api.Errno{api.OK, api.ErrSlot, api.ErrEmpty, api.ErrBusy, api.ErrArg, api.ErrRights, api.ErrFull} {
		if went[e] < 100 {
			t.Errorf("%v: %d times", e, went[e])
		}
	}
}

// some is a call: mostly of slots in which something is, and of a capability that may come.
func (b both) some(rnd *rand.Rand) asked {
	anywhere := func() place { return place{rnd.IntN(b.p.gs+2) - 1, rnd.IntN(b.p.slots+2) - 1} }
	a := asked{from: anywhere(), to: anywhere(), cap: capability(api.Kind(rnd.IntN(20)), rnd.IntN(20)-1, uint64(rnd.IntN(20)), api.Rights(rnd.IntN(256)))}
	a.call = []int{root, derive, derive, derive, derive, derive, move, move, remove, remove, revoke, drain}[rnd.IntN(12)]
	if len(b.p.all) > 0 && rnd.IntN(6) > 0 {
		x := b.p.all[rnd.IntN(len(b.p.all))]
		a.from = place{x.g, x.slot}
		a.cap.Rights &= x.cap.Rights | api.Rights(rnd.IntN(2)*rnd.IntN(256))
	}
	if rnd.IntN(5) > 0 {
		a.to = place{max(0, min(a.to[0], b.p.gs-1)), max(0, min(a.to[1], b.p.slots-1))}
	}
	if rnd.IntN(8) > 0 {
		a.cap.Kind, a.cap.Object = api.Kind(1+rnd.IntN(3)), api.Ref{Index: rnd.IntN(9), Gen: 1 + uint64(rnd.IntN(9))}
	}
	return a
}

// picture is all that is told of a space, by slots: what is there, and its parent.
func picture(s *Space, gs int) map[place]one {
	m := map[place]one{}
	for g := range gs {
		for _, h := range s.Caps(g) {
			x := one{g: g, slot: h.Slot, cap: h.Cap}
			if pg, ps, has := s.Parent(g, h.Slot); has {
				x.parent = &one{g: pg, slot: ps}
			}
			m[place{g, h.Slot}] = x
		}
	}
	return m
}

// equal: is it the same capability, in the same slot, of the same parent?
func equal(x, y one) bool {
	if x.g != y.g || x.slot != y.slot || x.cap != y.cap || (x.parent == nil) != (y.parent == nil) {
		return false
	}
	return x.parent == nil || *x.parent == *y.parent
}

// fair asks of each capability whether its rights are among those of each one above it.
func fair(t *testing.T, m map[place]one) {
	t.Helper()
	for _, x := range m {
		for up := x.parent; up != nil; {
			y, is := m[place{up.g, up.slot}]
			if !is || x.cap.Rights&^y.cap.Rights != 0 {
				t.Fatalf("%v is under %v, %v", x, y, is)
			}
			up = y.parent
		}
	}
}

// apart asks what stands behind a revoke of what is at a place: what was under it is gone, all else is as it was.
func apart(t *testing.T, s, was *Space, at place, gs, n int) {
	t.Helper()
	want := picture(was, gs)
	for p := range picture(was, gs) {
		if was.Under(p[0], p[1], at[0], at[1]) {
			delete(want, p)
			n--
		}
	}
	if m := picture(s, gs); n != 0 || !maps.EqualFunc(m, want, equal) {
		t.Fatalf("behind a revoke of %v: %v; want %v, and so many went: %d too many", at, m, want, n)
	}
	for p := range picture(s, gs) {
		if s.Under(p[0], p[1], at[0], at[1]) {
			t.Fatalf("%v is still under %v", p, at)
		}
	}
}

// P13.6: what follows of whatever is done, in spaces of all sizes.
func TestHolds(t *testing.T) {
	rnd := rand.New(rand.NewPCG(53, 54))
	most, went, deepest := 0, 0, 0
	for range 60 {
		gs, slots := 1+rnd.IntN(api.MaxGs), 1+rnd.IntN(api.MaxSlots)
		s := space(t, gs, slots, 1+rnd.IntN(api.MaxNodes))
		// The more often what comes is derived from what came last, the deeper it all is.
		came, often := []place{{}}, rnd.IntN(11)
		for range 600 {
			at, to := came[rnd.IntN(len(came))], place{rnd.IntN(gs), rnd.IntN(slots)}
			for len(came) > 1 && s.Free(came[len(came)-1][0], came[len(came)-1][1]) == api.OK {
				came = came[:len(came)-1]
			}
			if rnd.IntN(10) < often {
				at = came[len(came)-1]
			}
			e, gone := change(t, rnd, s, at, to, gs)
			if e == api.OK {
				came = append(came, to)
			}
			most, went, deepest = max(most, s.Len()), max(went, gone), max(deepest, deep(s, to))
		}
		fair(t, picture(s, gs))
	}
	if most < 200 || went < 50 || deepest < 50 {
		t.Errorf("hardly anything was there: %d at most, %d went at once, %d deep", most, went, deepest)
	}
}

// change does something with what is in a slot: OK, if something came into the other one; how many were revoked.
func change(t *testing.T, rnd *rand.Rand, s *Space, at, to place, gs int) (api.Errno, int) {
	t.Helper()
	above, e := s.Get(at[0], at[1])
	c := capability(api.KindG, rnd.IntN(9), 1, above.Rights&^(1<<rnd.IntN(60)))
	switch what := rnd.IntN(80); {
	case e != api.OK || what == 0:
		c.Rights = api.Rights(rnd.IntN(256))
		return s.Root(to[0], to[1], c), 0
	case what < 72:
		return s.Derive(at[0], at[1], to[0], to[1], c), 0
	case what < 76:
		s.Move(at[0], at[1], to[1])
	case what < 79:
		s.Delete(at[0], at[1])
	default:
		was := s.Copy()
		n, _ := s.Revoke(at[0], at[1])
		apart(t, s, was, at, gs, n)
		return api.ErrNone, n
	}
	return api.ErrNone, 0
}

// deep is how many stand above what is at a place.
func deep(s *Space, at place) int {
	n := 0
	for {
		g, slot, has := s.Parent(at[0], at[1])
		if !has {
			return n
		}
		at = place{g, slot}
		n++
	}
}
