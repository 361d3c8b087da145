package refill

import (
	"math"
	"slices"
	"testing"

	"helmsman/api"
)

const top = math.MaxUint64

// list is of refills, each told by its Amount and its At.
func list(l ...[2]uint64) []api.Refill {
	var r []api.Refill
	for _, x := range l {
		r = append(r, api.Refill{Amount: x[0], At: x[1]})
	}
	return r
}

// roomy is the same list, with room behind it in which something stands.
func roomy(l []api.Refill) []api.Refill {
	r := make([]api.Refill, len(l)+4)
	for i := copy(r, l); i < len(r); i++ {
		r[i] = api.Refill{Amount: 77, At: 77}
	}
	return r[:len(l)]
}

// untouched does something with a list, and asks whether the list, and what stands behind it, are as they were, also when the answer is written over.
func untouched(t *testing.T, l []api.Refill, do func(l []api.Refill) []api.Refill) {
	t.Helper()
	in := roomy(l)
	got := do(in)
	was := slices.Clone(got)
	all := got[:cap(got)]
	for i := range all {
		all[i] = api.Refill{Amount: 99, At: 99}
	}
	if want := roomy(l); !slices.Equal(in[:cap(in)], want[:cap(want)]) {
		t.Errorf("%v was changed: %v", want[:cap(want)], in[:cap(in)])
	}
	clear(got)
	if again := do(roomy(l)); !slices.Equal(again, was) {
		t.Errorf("of %v, once more: %v; want %v", l, again, was)
	}
}

// broken are lists that may not be.
func broken() [][]api.Refill {
	return [][]api.Refill{
		list([2]uint64{0, 0}),
		list([2]uint64{0, 5}),
		list([2]uint64{1, 0}, [2]uint64{0, 1}),
		list([2]uint64{0, 0}, [2]uint64{1, 1}),
		list([2]uint64{1, 0}, [2]uint64{0, 1}, [2]uint64{1, 2}),
		list([2]uint64{1, 0}, [2]uint64{1, 0}),
		list([2]uint64{1, 3}, [2]uint64{1, 3}),
		list([2]uint64{1, 3}, [2]uint64{1, 2}),
		list([2]uint64{1, 0}, [2]uint64{1, 4}, [2]uint64{1, 4}),
		list([2]uint64{1, 1}, [2]uint64{1, 4}, [2]uint64{1, 2}),
		list([2]uint64{1, top}, [2]uint64{1, top}),
		list([2]uint64{1, top}, [2]uint64{1, 0}),
		list([2]uint64{top, 0}, [2]uint64{1, 1}),
		list([2]uint64{1, 0}, [2]uint64{top, 1}),
		list([2]uint64{1 << 63, 0}, [2]uint64{1 << 63, 1}),
		list([2]uint64{top, 0}, [2]uint64{top, 1}, [2]uint64{3, 2}),
	}
}

// sound are lists that may be.
func sound() [][]api.Refill {
	return [][]api.Refill{
		nil,
		{},
		list([2]uint64{1, 0}),
		list([2]uint64{1, top}),
		list([2]uint64{top, 0}),
		list([2]uint64{top, top}),
		list([2]uint64{1, 0}, [2]uint64{1, 1}),
		list([2]uint64{1, 0}, [2]uint64{top - 1, top}),
		list([2]uint64{1 << 63, 3}, [2]uint64{1<<63 - 1, 4}),
		list([2]uint64{3, 1}, [2]uint64{1, 5}, [2]uint64{2, 9}),
		list([2]uint64{1, 0}, [2]uint64{1, 1}, [2]uint64{1, 2}, [2]uint64{1, top}),
	}
}

// P7.2: the chapter's own examples.
func TestExamples(t *testing.T) {
	l, was := Charge(New(5, 0), 3, 10, 2)
	if want := list([2]uint64{4, 0}, [2]uint64{1, 13}); !was || !slices.Equal(l, want) {
		t.Errorf("%v, %v; want %v", l, was, want)
	}
	l, was = Charge(l, 4, 10, 2)
	if want := list([2]uint64{3, 0}, [2]uint64{2, 14}); !was || !slices.Equal(l, want) {
		t.Errorf("%v, %v; want %v", l, was, want)
	}
}

// P7.1
func TestMay(t *testing.T) {
	for _, l := range sound() {
		if !May(l) {
			t.Errorf("%v may not be", l)
		}
	}
	for _, l := range broken() {
		if May(l) {
			t.Errorf("%v may be", l)
		}
	}
}

// P7.1: one that is wrong is seen wherever it stands in a long list.
func TestMayLong(t *testing.T) {
	var l []api.Refill
	for i := range uint64(300) {
		l = append(l, api.Refill{Amount: 1 + i, At: 7 * i})
	}
	if !May(l) {
		t.Error("may not be")
	}
	for i := range l {
		for _, r := range []api.Refill{{Amount: 0, At: l[i].At}, {Amount: top, At: l[i].At}} {
			o := slices.Clone(l)
			o[i] = r
			if May(o) {
				t.Errorf("may be, though %d is %v", i, r)
			}
		}
		if i > 0 {
			o := slices.Clone(l)
			o[i].At = o[i-1].At
			if May(o) {
				t.Errorf("may be, though %d is at the time of the one ahead", i)
			}
		}
	}
}

// P7.1
func TestNew(t *testing.T) {
	for _, budget := range []uint64{1, 2, 1 << 32, top} {
		for _, now := range []uint64{0, 1, 1 << 60, top} {
			if l := New(budget, now); !slices.Equal(l, []api.Refill{{Amount: budget, At: now}}) || !May(l) {
				t.Errorf("new(%d, %d): %v", budget, now, l)
			}
		}
	}
	for _, now := range []uint64{0, 1, top} {
		if l := New(0, now); len(l) != 0 {
			t.Errorf("new(0, %d): %v", now, l)
		}
	}
	l, o := New(5, 0), New(5, 0)
	l[0].Amount = 4
	if o[0].Amount != 5 {
		t.Error("two new ones are not apart")
	}
}

// P7.1: of any list, may it be or not.
func TestSum(t *testing.T) {
	for _, c := range []struct {
		l    []api.Refill
		n    uint64
		fits bool
	}{
		{nil, 0, true}, {list(), 0, true}, {list([2]uint64{0, 3}), 0, true}, {list([2]uint64{7, 3}), 7, true},
		{list([2]uint64{3, 1}, [2]uint64{1, 5}, [2]uint64{2, 9}), 6, true},
		{list([2]uint64{3, 9}, [2]uint64{0, 9}, [2]uint64{2, 1}), 5, true},
		{list([2]uint64{top, 0}), top, true}, {list([2]uint64{top - 1, 0}, [2]uint64{1, 1}), top, true},
		{list([2]uint64{0, 0}, [2]uint64{top, 1}, [2]uint64{0, 2}), top, true},
		{list([2]uint64{top, 0}, [2]uint64{1, 1}), 0, false}, {list([2]uint64{1, 0}, [2]uint64{top, 1}), 0, false},
		{list([2]uint64{1 << 63, 0}, [2]uint64{1 << 63, 1}), 0, false},
		{list([2]uint64{1 << 63, 0}, [2]uint64{1 << 63, 1}, [2]uint64{5, 2}), 0, false},
		{list([2]uint64{top, 5}, [2]uint64{top, 5}, [2]uint64{top, 5}, [2]uint64{9, 5}), 0, false},
	} {
		if n, fits := Sum(c.l); n != c.n || fits != c.fits {
			t.Errorf("sum(%v): %d, %v; want %d, %v", c.l, n, fits, c.n, c.fits)
		}
		untouched(t, c.l, func(l []api.Refill) []api.Refill { Sum(l); return nil })
	}
}

// P7.1: of any list, wherever in it those stand that are there.
func TestThere(t *testing.T) {
	some := list([2]uint64{3, 1}, [2]uint64{1, 5}, [2]uint64{2, 9})
	mixed := list([2]uint64{4, 9}, [2]uint64{0, 0}, [2]uint64{1, 5}, [2]uint64{2, 9}, [2]uint64{8, 5})
	much := list([2]uint64{top, 3}, [2]uint64{1, 5}, [2]uint64{top, 7})
	for _, c := range []struct {
		l      []api.Refill
		now, n uint64
	}{
		{nil, 0, 0}, {nil, top, 0}, {list([2]uint64{5, 0}), 0, 5}, {list([2]uint64{5, 1}), 0, 0},
		{list([2]uint64{5, top}), top - 1, 0}, {list([2]uint64{5, top}), top, 5},
		{some, 0, 0}, {some, 1, 3}, {some, 2, 3}, {some, 4, 3}, {some, 5, 4}, {some, 8, 4}, {some, 9, 6}, {some, 10, 6}, {some, top, 6},
		{mixed, 0, 0}, {mixed, 4, 0}, {mixed, 5, 9}, {mixed, 8, 9}, {mixed, 9, 15},
		{much, 2, 0}, {much, 3, top}, {much, 5, top}, {much, 6, top}, {much, 7, top}, {much, top, top},
		{list([2]uint64{1 << 63, 0}, [2]uint64{1<<63 - 1, 1}), 1, top}, {list([2]uint64{1 << 63, 0}, [2]uint64{1<<63 - 2, 1}), 1, top - 1},
		{list([2]uint64{1 << 63, 0}, [2]uint64{1 << 63, 1}), 1, top}, {list([2]uint64{1 << 63, 0}, [2]uint64{1 << 63, 1}), 0, 1 << 63},
	} {
		if n := There(c.l, c.now); n != c.n {
			t.Errorf("there(%v, %d): %d; want %d", c.l, c.now, n, c.n)
		}
		untouched(t, c.l, func(l []api.Refill) []api.Refill { There(l, c.now); return nil })
	}
}

// P7.1: of any list, wherever in it the least one stands, and whatever its Amount.
func TestNext(t *testing.T) {
	some := list([2]uint64{3, 1}, [2]uint64{1, 5}, [2]uint64{2, 9})
	mixed := list([2]uint64{4, 9}, [2]uint64{0, 3}, [2]uint64{1, 5}, [2]uint64{2, 9}, [2]uint64{8, 4}, [2]uint64{8, 1})
	for _, c := range []struct {
		l       []api.Refill
		now, at uint64
		is      bool
	}{
		{nil, 0, 0, false}, {nil, top, 0, false},
		{list([2]uint64{5, 0}), 0, 0, false}, {list([2]uint64{5, 1}), 0, 1, true}, {list([2]uint64{5, 1}), 1, 0, false},
		{list([2]uint64{5, top}), top - 1, top, true}, {list([2]uint64{5, top}), top, 0, false}, {list([2]uint64{5, top}), 0, top, true},
		{some, 0, 1, true}, {some, 1, 5, true}, {some, 4, 5, true}, {some, 5, 9, true}, {some, 8, 9, true}, {some, 9, 0, false}, {some, top, 0, false},
		{mixed, 0, 1, true}, {mixed, 1, 3, true}, {mixed, 2, 3, true}, {mixed, 3, 4, true}, {mixed, 4, 5, true}, {mixed, 5, 9, true}, {mixed, 9, 0, false},
	} {
		if at, is := Next(c.l, c.now); at != c.at || is != c.is {
			t.Errorf("next(%v, %d): %d, %v; want %d, %v", c.l, c.now, at, is, c.at, c.is)
		}
		untouched(t, c.l, func(l []api.Refill) []api.Refill { Next(l, c.now); return nil })
	}
}

// P7.2
func TestDue(t *testing.T) {
	some := list([2]uint64{3, 1}, [2]uint64{1, 5}, [2]uint64{2, 9})
	for _, c := range []struct {
		l    []api.Refill
		now  uint64
		want []api.Refill
	}{
		{nil, 0, nil}, {list(), top, nil},
		{some, 0, some}, {some, 1, some}, {some, 4, some},
		{some, 5, list([2]uint64{4, 5}, [2]uint64{2, 9})}, {some, 8, list([2]uint64{4, 5}, [2]uint64{2, 9})},
		{some, 9, list([2]uint64{6, 9})}, {some, 100, list([2]uint64{6, 9})}, {some, top, list([2]uint64{6, 9})},
		{list([2]uint64{top - 1, 0}, [2]uint64{1, top}), top, list([2]uint64{top, top})},
		{list([2]uint64{top - 1, 0}, [2]uint64{1, top}), top - 1, list([2]uint64{top - 1, 0}, [2]uint64{1, top})},
		{list([2]uint64{5, 0}), 0, list([2]uint64{5, 0})},
	} {
		if l := Due(c.l, c.now); !slices.Equal(l, c.want) {
			t.Errorf("due(%v, %d): %v; want %v", c.l, c.now, l, c.want)
		}
		untouched(t, c.l, func(l []api.Refill) []api.Refill { return Due(l, c.now) })
	}
	for _, l := range broken() {
		for _, now := range []uint64{0, 3, top} {
			if due := Due(l, now); len(due) != 0 {
				t.Errorf("due(%v, %d): %v", l, now, due)
			}
		}
	}
}

// P7.2
func TestCharge(t *testing.T) {
	some := list([2]uint64{2, 1}, [2]uint64{1, 5}, [2]uint64{2, 9})
	for _, c := range []struct {
		l           []api.Refill
		now, period uint64
		most        int
		want        []api.Refill
	}{
		// There is room, the last one is in time, there is no room.
		{some, 1, 20, 4, list([2]uint64{1, 1}, [2]uint64{1, 5}, [2]uint64{2, 9}, [2]uint64{1, 21})},
		{some, 1, 8, 3, list([2]uint64{1, 1}, [2]uint64{1, 5}, [2]uint64{3, 9})},
		{some, 1, 8, 4, list([2]uint64{1, 1}, [2]uint64{1, 5}, [2]uint64{3, 9})},
		{some, 1, 9, 3, list([2]uint64{1, 1}, [2]uint64{1, 5}, [2]uint64{3, 10})},
		{some, 1, 9, 4, list([2]uint64{1, 1}, [2]uint64{1, 5}, [2]uint64{2, 9}, [2]uint64{1, 10})},
		// The last one's At is later.
		{some, 1, 1, 3, list([2]uint64{1, 1}, [2]uint64{1, 5}, [2]uint64{3, 9})},
		{some, 1, 1, 9, list([2]uint64{1, 1}, [2]uint64{1, 5}, [2]uint64{3, 9})},
		{some, 4, 4, 9, list([2]uint64{1, 1}, [2]uint64{1, 5}, [2]uint64{3, 9})},
		// What is there is one refill first, so that there is room again.
		{some, 5, 20, 3, list([2]uint64{2, 5}, [2]uint64{2, 9}, [2]uint64{1, 25})},
		{some, 9, 1, 3, list([2]uint64{4, 9}, [2]uint64{1, 10})},
		{some, 100, 20, 3, list([2]uint64{4, 9}, [2]uint64{1, 120})},
		// What is used up is gone, so that there is room, too.
		{list([2]uint64{1, 0}), 0, 10, 1, list([2]uint64{1, 10})},
		{list([2]uint64{1, 0}), 7, 10, 9, list([2]uint64{1, 17})},
		{list([2]uint64{1, 0}, [2]uint64{1, 4}), 2, 10, 2, list([2]uint64{1, 4}, [2]uint64{1, 12})},
		{list([2]uint64{1, 0}, [2]uint64{1, 4}), 2, 2, 2, list([2]uint64{2, 4})},
		{list([2]uint64{1, 0}, [2]uint64{1, 4}), 2, 1, 2, list([2]uint64{2, 4})},
		// With room for one all of it waits.
		{list([2]uint64{5, 0}), 3, 10, 1, list([2]uint64{5, 13})},
		{list([2]uint64{2, 0}), 0, 1, 1, list([2]uint64{2, 1})},
		// The greatest numbers.
		{list([2]uint64{top, 0}), 0, top, 2, list([2]uint64{top - 1, 0}, [2]uint64{1, top})},
		{list([2]uint64{top, 0}), top - 1, 1, 2, list([2]uint64{top - 1, 0}, [2]uint64{1, top})},
		{list([2]uint64{top - 1, 0}, [2]uint64{1, top}), 5, 9, 2, list([2]uint64{top - 2, 0}, [2]uint64{2, top})},
		{list([2]uint64{top, 0}), 5, 9, 1, list([2]uint64{top, 14})},
	} {
		if l, was := Charge(c.l, c.now, c.period, c.most); !was || !slices.Equal(l, c.want) {
			t.Errorf("charge(%v, %d, %d, %d): %v, %v; want %v", c.l, c.now, c.period, c.most, l, was, c.want)
		}
		untouched(t, c.l, func(l []api.Refill) []api.Refill {
			l, _ = Charge(l, c.now, c.period, c.most)
			return l
		})
	}
}

// P7.2: each thing for which none is used, with all else as it should be.
func TestChargeNone(t *testing.T) {
	three := list([2]uint64{1, 0}, [2]uint64{1, 1}, [2]uint64{1, 9})
	for _, c := range []struct {
		l           []api.Refill
		now, period uint64
		most        int
	}{
		{three, 1, 10, 2}, {three, 9, 10, 2}, {three, 1, 10, 1}, {three, 1, 10, 0}, {three, 1, 10, -1}, {three, 1, 10, math.MinInt},
		{New(1, 0), 1, 10, 0}, {New(1, 0), 1, 10, -5}, {nil, 1, 10, 0},
		{three, 1, 0, 3}, {three, top, 0, 3}, {three, 1, top, 3}, {three, top, 1, 3}, {three, top, top, 3}, {three, 1 << 63, 1 << 63, 3},
		{nil, 1, 10, 3}, {list(), 1, 10, 3}, {New(5, 2), 1, 10, 3}, {New(5, 1), 0, 10, 3}, {New(5, top), top - 1, 1, 3},
		{list([2]uint64{2, 5}, [2]uint64{3, 6}), 4, 1, 3},
	} {
		if l, was := Charge(c.l, c.now, c.period, c.most); was || len(l) != 0 {
			t.Errorf("charge(%v, %d, %d, %d): %v, %v", c.l, c.now, c.period, c.most, l, was)
		}
		untouched(t, c.l, func(l []api.Refill) []api.Refill {
			l, _ = Charge(l, c.now, c.period, c.most)
			return l
		})
	}
	for _, b := range broken() {
		for _, now := range []uint64{0, 5, 1 << 62} {
			if l, was := Charge(b, now, 10, 16); was || len(l) != 0 {
				t.Errorf("charge(%v, %d): %v, %v", b, now, l, was)
			}
		}
	}
}

// P7.3
func TestGive(t *testing.T) {
	some := list([2]uint64{2, 1}, [2]uint64{1, 5}, [2]uint64{2, 9})
	for _, c := range []struct {
		l           []api.Refill
		now, amount uint64
		most        int
		want        []api.Refill
	}{
		{nil, 7, 3, 1, list([2]uint64{3, 7})}, {list(), 0, top, 16, list([2]uint64{top, 0})},
		// The first one is there.
		{some, 1, 3, 3, list([2]uint64{5, 1}, [2]uint64{1, 5}, [2]uint64{2, 9})},
		{some, 4, 3, 3, list([2]uint64{5, 1}, [2]uint64{1, 5}, [2]uint64{2, 9})},
		{some, 5, 3, 3, list([2]uint64{6, 5}, [2]uint64{2, 9})},
		{some, 8, 1, 9, list([2]uint64{4, 5}, [2]uint64{2, 9})},
		{some, 50, 1, 3, list([2]uint64{6, 9})},
		{New(5, 3), 3, 2, 1, list([2]uint64{7, 3})},
		// It is not.
		{some, 0, 3, 4, list([2]uint64{3, 0}, [2]uint64{2, 1}, [2]uint64{1, 5}, [2]uint64{2, 9})},
		{New(5, 3), 2, 2, 2, list([2]uint64{2, 2}, [2]uint64{5, 3})},
		{New(5, 3), 0, 2, 16, list([2]uint64{2, 0}, [2]uint64{5, 3})},
		// The greatest numbers.
		{New(1, 3), 3, top - 1, 1, list([2]uint64{top, 3})}, {New(top-1, 3), 2, 1, 2, list([2]uint64{1, 2}, [2]uint64{top - 1, 3})},
		{New(1, top), top, 4, 1, list([2]uint64{5, top})}, {New(1, top), top - 1, 4, 2, list([2]uint64{4, top - 1}, [2]uint64{1, top})},
	} {
		if l, e := Give(c.l, c.now, c.amount, c.most); e != api.OK || !slices.Equal(l, c.want) {
			t.Errorf("give(%v, %d, %d, %d): %v, %v; want %v", c.l, c.now, c.amount, c.most, l, e, c.want)
		}
		untouched(t, c.l, func(l []api.Refill) []api.Refill {
			l, _ = Give(l, c.now, c.amount, c.most)
			return l
		})
	}
}

// P7.3: the errors, also where several apply.
func TestGiveRefused(t *testing.T) {
	three := list([2]uint64{1, 1}, [2]uint64{1, 2}, [2]uint64{1, 9})
	full := list([2]uint64{1, 1}, [2]uint64{top - 1, 2})
	for _, c := range []struct {
		l           []api.Refill
		now, amount uint64
		most        int
		e           api.Errno
	}{
		{three, 1, 0, 3, api.ErrArg}, {nil, 1, 0, 3, api.ErrArg}, {nil, 1, 1, 0, api.ErrArg}, {nil, 1, 1, -1, api.ErrArg}, {nil, 1, 1, math.MinInt, api.ErrArg},
		{three, 1, 1, 2, api.ErrArg}, {three, 2, 1, 2, api.ErrArg}, {three, 9, 1, 1, api.ErrArg}, {three, 1, 1, 0, api.ErrArg},
		{full, 1, 1, 2, api.ErrOver}, {full, 1, top, 2, api.ErrOver}, {full, 5, 1, 3, api.ErrOver}, {three, 1, top - 2, 3, api.ErrOver}, {three, 9, top, 3, api.ErrOver},
		{three, 0, 1, 3, api.ErrFull}, {New(1, 4), 3, 1, 1, api.ErrFull}, {three, 0, top - 3, 3, api.ErrFull},
		// More is wrong than one thing.
		{full, 0, 0, 2, api.ErrArg}, {full, 0, 1, 1, api.ErrArg}, {three, 0, top, 2, api.ErrArg}, {three, 0, 0, 3, api.ErrArg},
		{full, 0, 1, 2, api.ErrOver}, {three, 0, top - 2, 3, api.ErrOver},
	} {
		if l, e := Give(c.l, c.now, c.amount, c.most); e != c.e || len(l) != 0 {
			t.Errorf("give(%v, %d, %d, %d): %v, %v; want %v", c.l, c.now, c.amount, c.most, l, e, c.e)
		}
		untouched(t, c.l, func(l []api.Refill) []api.Refill {
			l, _ = Give(l, c.now, c.amount, c.most)
			return l
		})
	}
	for _, b := range broken() {
		if l, e := Give(b, 5, 1, 16); e != api.ErrArg || len(l) != 0 {
			t.Errorf("give(%v): %v, %v", b, l, e)
		}
	}
}

// P7.3
func TestPull(t *testing.T) {
	some := list([2]uint64{2, 1}, [2]uint64{1, 5}, [2]uint64{2, 9})
	for _, c := range []struct {
		l           []api.Refill
		now, amount uint64
		want        []api.Refill
	}{
		{some, 1, 1, list([2]uint64{1, 1}, [2]uint64{1, 5}, [2]uint64{2, 9})},
		{some, 4, 2, list([2]uint64{1, 5}, [2]uint64{2, 9})},
		{some, 5, 1, list([2]uint64{2, 5}, [2]uint64{2, 9})},
		{some, 5, 3, list([2]uint64{2, 9})},
		{some, 9, 1, list([2]uint64{4, 9})}, {some, top, 4, list([2]uint64{1, 9})}, {some, 9, 5, nil},
		{New(7, 0), 0, 7, nil}, {New(7, 0), 0, 6, list([2]uint64{1, 0})}, {New(top, top), top, top, nil}, {New(top, 3), 3, 1, list([2]uint64{top - 1, 3})},
		{list([2]uint64{top - 1, 0}, [2]uint64{1, 1}), 1, top, nil}, {list([2]uint64{top - 1, 0}, [2]uint64{1, 1}), 0, top - 1, list([2]uint64{1, 1})},
	} {
		if l, e := Pull(c.l, c.now, c.amount); e != api.OK || !slices.Equal(l, c.want) {
			t.Errorf("pull(%v, %d, %d): %v, %v; want %v", c.l, c.now, c.amount, l, e, c.want)
		}
		untouched(t, c.l, func(l []api.Refill) []api.Refill {
			l, _ = Pull(l, c.now, c.amount)
			return l
		})
	}
}

// P7.3: the errors, also where several apply.
func TestPullRefused(t *testing.T) {
	some := list([2]uint64{2, 1}, [2]uint64{1, 5}, [2]uint64{2, 9})
	for _, c := range []struct {
		l           []api.Refill
		now, amount uint64
		e           api.Errno
	}{
		{some, 9, 0, api.ErrArg}, {some, 0, 0, api.ErrArg}, {nil, 0, 0, api.ErrArg},
		{nil, 0, 1, api.ErrQuota}, {list(), top, top, api.ErrQuota},
		{some, 0, 1, api.ErrQuota}, {some, 1, 3, api.ErrQuota}, {some, 4, 3, api.ErrQuota}, {some, 5, 4, api.ErrQuota}, {some, 8, 5, api.ErrQuota},
		{some, 9, 6, api.ErrQuota}, {some, top, top, api.ErrQuota}, {New(top-1, 0), 0, top, api.ErrQuota}, {New(1, top), top - 1, 1, api.ErrQuota},
	} {
		if l, e := Pull(c.l, c.now, c.amount); e != c.e || len(l) != 0 {
			t.Errorf("pull(%v, %d, %d): %v, %v; want %v", c.l, c.now, c.amount, l, e, c.e)
		}
		untouched(t, c.l, func(l []api.Refill) []api.Refill {
			l, _ = Pull(l, c.now, c.amount)
			return l
		})
	}
	for _, b := range broken() {
		for _, amount := range []uint64{1, top} {
			if l, e := Pull(b, 5, amount); e != api.ErrArg || len(l) != 0 {
				t.Errorf("pull(%v, %d): %v, %v", b, amount, l, e)
			}
		}
	}
}
