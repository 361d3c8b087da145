package refill

import (
	"math/rand/v2"
	"slices"
	"testing"

	"helmsman/api"
)

// units are a list as the chapter's words tell it, one by one: of each unit that may be used the time from which on it may, rising. Those of one time are a refill.
type units []uint64

// plainly is a list, unit by unit.
func plainly(l []api.Refill) units {
	var u units
	for _, r := range l {
		for range r.Amount {
			u = append(u, r.At)
		}
	}
	return u
}

// refills is how many there are.
func (u units) refills() int { return len(slices.Compact(slices.Clone(u))) }

// there is how many units are there.
func (u units) there(now uint64) int {
	n := 0
	for _, at := range u {
		if at <= now {
			n++
		}
	}
	return n
}

func (u units) due(now uint64) units {
	d, n := slices.Clone(u), u.there(now)
	for i := range n {
		d[i] = u[n-1]
	}
	return d
}

func (u units) charge(now, period uint64, most int) (units, bool) {
	if u.refills() > most || period == 0 || u.there(now) == 0 {
		return nil, false
	}
	rest := u.due(now)[1:]
	back := now + period
	for _, at := range rest {
		back = max(back, at)
	}
	more := append(slices.Clone(rest), back)
	if more.refills() > most {
		last := rest[len(rest)-1]
		for i, at := range more {
			if at == last {
				more[i] = back
			}
		}
	}
	return more, true
}

func (u units) give(now uint64, amount, most int) (units, api.Errno) {
	if amount == 0 || most < 1 || u.refills() > most {
		return nil, api.ErrArg
	}
	d, at := u.due(now), now
	if u.there(now) > 0 {
		at = d[0]
	}
	more := append(units(slices.Repeat([]uint64{at}, amount)), d...)
	if more.refills() > most {
		return nil, api.ErrFull
	}
	return more, api.OK
}

func (u units) pull(now uint64, amount int) (units, api.Errno) {
	switch {
	case amount == 0:
		return nil, api.ErrArg
	case u.there(now) < amount:
		return nil, api.ErrQuota
	}
	return u.due(now)[amount:], api.OK
}

// next is the least time above now, and is there one?
func (u units) next(now uint64) (uint64, bool) {
	if n := u.there(now); n < len(u) {
		return u[n], true
	}
	return 0, false
}

// asked compares what is told of a list with what is told of its units.
func asked(t *testing.T, l []api.Refill, now uint64) {
	t.Helper()
	u := plainly(l)
	if !May(l) || len(l) != u.refills() {
		t.Fatalf("%v may not be", l)
	}
	if n, fits := Sum(l); !fits || n != uint64(len(u)) {
		t.Fatalf("sum(%v): %d, %v", l, n, fits)
	}
	if n := There(l, now); n != uint64(u.there(now)) {
		t.Fatalf("there(%v, %d): %d", l, now, n)
	}
	if d := Due(l, now); !May(d) || !slices.Equal(plainly(d), u.due(now)) {
		t.Fatalf("due(%v, %d): %v", l, now, d)
	}
	at, is := Next(l, now)
	if want, wanted := u.next(now); at != want || is != wanted {
		t.Fatalf("next(%v, %d): %d, %v", l, now, at, is)
	}
}

// step does something to a list, and to its units: what the list is then.
func step(t *testing.T, rnd *rand.Rand, l []api.Refill, now uint64, most int) []api.Refill {
	t.Helper()
	u, amount, period := plainly(l), rnd.IntN(5), uint64(rnd.IntN(12))
	var then []api.Refill
	var want units
	var e, wanted api.Errno
	switch rnd.IntN(5) {
	case 0:
		then, e = Give(l, now, uint64(amount), most)
		want, wanted = u.give(now, amount, most)
	case 1:
		then, e = Pull(l, now, uint64(amount))
		want, wanted = u.pull(now, amount)
	default:
		var was, is bool
		then, was = Charge(l, now, period, most)
		want, is = u.charge(now, period, most)
		if was != is {
			t.Fatalf("charge(%v, %d, %d, %d): %v", l, now, period, most, was)
		}
		if !was {
			e, wanted = api.ErrNone, api.ErrNone
		}
	}
	if e != wanted || !slices.Equal(plainly(then), want) {
		t.Fatalf("of %v at %d, period %d, amount %d, most %d: %v, %v; want %v, %v", l, now, period, amount, most, then, e, want, wanted)
	}
	if e != api.OK {
		return l
	}
	return then
}

// P7.1 to P7.3: whatever is done, lists go on as their units do, also where the time goes back, and most is another one each time.
func TestAsToldPlainly(t *testing.T) {
	rnd := rand.New(rand.NewPCG(19, 20))
	for range 3000 {
		now, most := uint64(rnd.IntN(5)), 1+rnd.IntN(5)
		l := New(uint64(rnd.IntN(7)), now)
		for range 60 {
			asked(t, l, now)
			l = step(t, rnd, l, now, max(0, most+rnd.IntN(3)-1))
			if rnd.IntN(10) == 0 {
				now -= min(now, 8)
			}
			now += uint64(rnd.IntN(4))
		}
	}
}

// P7.4
func TestStaysSuchAsMayBe(t *testing.T) {
	rnd := rand.New(rand.NewPCG(21, 22))
	for range 1000 {
		now, most := uint64(rnd.IntN(5)), 1+rnd.IntN(5)
		l := New(1+uint64(rnd.IntN(7)), now)
		for range 60 {
			all, _ := Sum(l)
			then := step(t, rnd, l, now, most)
			if !May(then) || len(then) > most {
				t.Fatalf("of %v at %d came %v, of at most %d", l, now, then, most)
			}
			charged, was := Charge(then, now, uint64(rnd.IntN(20)), most)
			if all, _ = Sum(then); was {
				if n, fits := Sum(charged); !fits || n != all || !May(charged) || len(charged) > most {
					t.Fatalf("of %v at %d came %v, of at most %d", then, now, charged, most)
				}
				then = charged
			}
			l = then
			now += uint64(rnd.IntN(6))
		}
	}
}

// P7.4: what is used does not hang on how great the numbers are.
func TestChargeKeepsGreatSums(t *testing.T) {
	rnd := rand.New(rand.NewPCG(23, 24))
	for range 2000 {
		most := 1 + rnd.IntN(4)
		now := rnd.Uint64() >> 1
		l := New(top>>rnd.IntN(64), now)
		for range 20 {
			all, _ := Sum(l)
			then, was := Charge(l, now, 1+rnd.Uint64()>>(4+rnd.IntN(50)), most)
			if !was {
				break
			}
			if n, fits := Sum(then); !fits || n != all || !May(then) || len(then) > most {
				t.Fatalf("of %v at %d came %v, of at most %d", l, now, then, most)
			}
			l = then
			now += rnd.Uint64() >> 30
		}
	}
}

// window is the most that was used in any window of a period.
func window(used []uint64, period uint64) int {
	most := 0
	for i, from := range used {
		n := 0
		for _, at := range used[i:] {
			if at-from < period {
				n++
			}
		}
		most = max(most, n)
	}
	return most
}

// P7.4: with whatever haste one is used again and again, it is never more than Sum in a window.
func TestNoMoreThanSum(t *testing.T) {
	rnd := rand.New(rand.NewPCG(25, 26))
	for range 1500 {
		most, budget, period := 1+rnd.IntN(5), 1+rnd.IntN(8), 1+uint64(rnd.IntN(15))
		now, pause := uint64(0), 1+rnd.IntN(9)
		l := New(uint64(budget), now)
		var used []uint64
		for range 150 {
			then, was := Charge(l, now, period, most)
			if was {
				l, used = then, append(used, now)
			}
			if !was || rnd.IntN(3) == 0 {
				now += uint64(rnd.IntN(pause))
			}
		}
		if n := window(used, period); n > budget {
			t.Fatalf("budget %d, period %d, most %d: %d in a window: %v", budget, period, most, n, used)
		}
	}
}

// P7.4: nor is it less, where there is room for all that comes back: who asks at each time has all of it in each period.
func TestAllOfSum(t *testing.T) {
	for _, c := range []struct {
		budget int
		period uint64
	}{{1, 1}, {1, 7}, {2, 10}, {5, 5}, {9, 20}} {
		l := New(uint64(c.budget), 0)
		var used []uint64
		for now := range 10 * c.period {
			for {
				then, was := Charge(l, now, c.period, 16)
				if !was {
					break
				}
				l, used = then, append(used, now)
			}
		}
		if len(used) != 10*c.budget || window(used, c.period) != c.budget {
			t.Errorf("budget %d, period %d: %v", c.budget, c.period, used)
		}
	}
}
