package gtable

import (
	"math"
	"slices"
	"strings"
	"testing"

	"helmsman/api"
)

// published is the chapter's table of turns, word by word.
const published = `Runnable | Running, Suspended, Throttled
Running | Runnable, Parked, Sleeping, Suspended, Throttled
Parked, Sleeping | Runnable, Suspended
Suspended | Runnable
Throttled | Runnable, Suspended`

// words are what the chapter calls the states, in their order.
var words = []string{"Idle", "Runnable", "Running", "Parked", "Sleeping", "Suspended", "Throttled"}

// turn is one from a state to another one.
type turn struct{ from, to api.State }

// stateOf is the state of a word.
func stateOf(t *testing.T, word string) api.State {
	t.Helper()
	n := slices.Index(words, word)
	if n < 0 {
		t.Fatal(word)
	}
	return api.State(n)
}

// mayTurn are all turns that the published table tells.
func mayTurn(t *testing.T) map[turn]bool {
	t.Helper()
	m := map[turn]bool{}
	for line := range strings.Lines(published) {
		from, to, _ := strings.Cut(strings.TrimSpace(line), " | ")
		for _, f := range strings.Split(from, ", ") {
			for _, s := range strings.Split(to, ", ") {
				m[turn{stateOf(t, f), stateOf(t, s)}] = true
			}
		}
	}
	if len(m) != 3+5+2*2+1+2 {
		t.Fatalf("%d turns", len(m))
	}
	return m
}

// someStates are all states, and some numbers that are none: the nearest ones, those of the same low bits, the greatest ones.
func someStates() []api.State {
	l := []api.State{
		-1, -2, -6, 7, 8, 9, 13, 14, 31, 32, 33, 63, 64, 65, 66, 127, 128, 129, 130, 255, 256, 257, 258, 1<<32 + 1, 1<<32 + 2, 1<<62 + 1, math.MaxInt,
		math.MinInt, math.MinInt + 1, math.MinInt + 2, -63, -64, -255, -256,
	}
	for s := range api.State(len(words)) {
		l = append(l, s)
	}
	return l
}

// P16.1: each turn that the table tells, and no other one.
func TestTurns(t *testing.T) {
	may, n := mayTurn(t), 0
	for _, from := range someStates() {
		for _, to := range someStates() {
			if Turns(from, to) != may[turn{from, to}] {
				t.Errorf("from %d to %d: %v", from, to, Turns(from, to))
			}
			if Turns(from, to) {
				n++
			}
		}
	}
	if n != len(may) {
		t.Errorf("%d turns; want %d", n, len(may))
	}
}

// P16.5: whatever numbers are handed in, none leads to Idle, from Idle, or from a state to itself.
func TestNoTurn(t *testing.T) {
	for _, s := range someStates() {
		if Turns(s, api.Idle) || Turns(api.Idle, s) || Turns(s, s) {
			t.Error(s)
		}
	}
}

// P16.1
func TestName(t *testing.T) {
	for _, s := range someStates() {
		want := "?"
		if s >= 0 && int(s) < len(words) {
			want = strings.ToLower(words[s])
		}
		if Name(s) != want {
			t.Errorf("%d: %q; want %q", s, Name(s), want)
		}
	}
	told := []string{Name(api.Idle), Name(api.Runnable), Name(api.Running), Name(api.Parked), Name(api.Sleeping), Name(api.Suspended), Name(api.Throttled)}
	if !slices.Equal(told, []string{"idle", "runnable", "running", "parked", "sleeping", "suspended", "throttled"}) {
		t.Error(told)
	}
}

// mayBe is what May is to say, in the chapter's words.
func mayBe(g api.G) bool {
	if !slices.Contains([]api.State{api.Runnable, api.Running, api.Parked, api.Sleeping, api.Suspended, api.Throttled}, g.State) {
		return false
	}
	if g.Until > 1<<60 || g.Until != 0 && g.State != api.Sleeping || g.Program < 0 || g.PC < 0 {
		return false
	}
	if g.State == api.Suspended && !g.Suspended {
		return false
	}
	return !(g.State == api.Runnable || g.State == api.Running) || !g.Suspended
}

// whole is a goroutine of which all is set that has nothing to do with whether it may be.
func whole(s api.State, suspended bool) api.G {
	return api.G{
		State: s, Suspended: suspended, Domain: api.Ref{Index: 3, Gen: 5}, Context: api.Ref{Index: 4, Gen: 6}, Affinity: 0b10100101,
		Program: 7, PC: 8, Regs: [api.Registers]uint64{1, 2, 3, 4, 5, 6, 7, math.MaxUint64}, Code: api.ErrBusy,
	}
}

// P16.1: all states, with and without the flag, and numbers around all bounds.
func TestMay(t *testing.T) {
	numbers := []int{math.MinInt, -1 << 32, -2, -1, 0, 1, 15, 16, 1024, 1 << 32, math.MaxInt}
	are := 0
	for _, s := range someStates() {
		for _, until := range []uint64{0, 1, 2, 1<<60 - 1, 1 << 60, 1<<60 + 1, 1 << 61, 1 << 63, math.MaxUint64} {
			for i := range 2 * len(numbers) * len(numbers) {
				g := whole(s, i%2 == 1)
				g.Until, g.Program, g.PC = until, numbers[i/2%len(numbers)], numbers[i/2/len(numbers)]
				if May(g) != mayBe(g) {
					t.Errorf("%+v: %v", g, May(g))
				}
				if May(g) {
					are++
				}
			}
		}
	}
	// Runnable, Running, Suspended in one way, Parked, Throttled in two, Sleeping till one of five times; of seven numbers each.
	if want := 7 * 7 * (1 + 1 + 1 + 2 + 2 + 2*5); are != want {
		t.Errorf("%d may be; want %d", are, want)
	}
}

// P16.1: each reason by itself.
func TestMayNot(t *testing.T) {
	for _, x := range []struct {
		what string
		g    api.G
		may  bool
	}{
		{"nothing", api.G{}, false}, {"runnable", api.G{State: api.Runnable}, true}, {"running", api.G{State: api.Running}, true}, {"parked", api.G{State: api.Parked}, true},
		{"sleeping", api.G{State: api.Sleeping}, true}, {"throttled", api.G{State: api.Throttled}, true}, {"suspended", api.G{State: api.Suspended, Suspended: true}, true},
		{"behind throttled", api.G{State: 7}, false}, {"below idle", api.G{State: -1}, false},
		{"suspended without the flag", api.G{State: api.Suspended}, false}, {"runnable with it", api.G{State: api.Runnable, Suspended: true}, false}, {"running with it", api.G{State: api.Running, Suspended: true}, false},
		{"idle with it", api.G{Suspended: true}, false}, {"parked with it", api.G{State: api.Parked, Suspended: true}, true}, {"sleeping with it", api.G{State: api.Sleeping, Suspended: true}, true}, {"throttled with it", api.G{State: api.Throttled, Suspended: true}, true},
		{"sleeping till then", api.G{State: api.Sleeping, Until: api.MaxTime}, true}, {"above MaxTime", api.G{State: api.Sleeping, Until: api.MaxTime + 1}, false}, {"parked till then", api.G{State: api.Parked, Until: 1}, false},
		{"runnable till then", api.G{State: api.Runnable, Until: 1}, false}, {"running till then", api.G{State: api.Running, Until: 1}, false}, {"throttled till then", api.G{State: api.Throttled, Until: 1}, false}, {"suspended till then", api.G{State: api.Suspended, Suspended: true, Until: 1}, false},
		{"a program below 0", api.G{State: api.Parked, Program: -1}, false}, {"a PC below 0", api.G{State: api.Parked, PC: -1}, false},
	} {
		if May(x.g) != x.may || mayBe(x.g) != x.may {
			t.Errorf("%s: %v; want %v", x.what, May(x.g), x.may)
		}
	}
}

// P16.1: nothing is asked of the other fields.
func TestMayWhateverElse(t *testing.T) {
	for _, s := range someStates() {
		for _, r := range []api.Ref{{}, {Index: -1, Gen: 1}, {Index: math.MinInt}, {Index: math.MaxInt, Gen: math.MaxUint64}} {
			for _, e := range []api.Errno{0, -1, 17, 18, math.MaxInt, math.MinInt} {
				for _, affinity := range []uint8{0, 1, 255} {
					g := api.G{State: s, Suspended: s == api.Suspended, Domain: r, Context: r, Code: e, Affinity: affinity}
					if May(g) != (s >= 1 && s <= 6) {
						t.Errorf("%+v: %v", g, May(g))
					}
				}
			}
		}
	}
}
