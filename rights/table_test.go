package rights

import (
	"math"
	"slices"
	"strings"
	"testing"

	"helmsman/api"
)

// noCalls are kinds of no call, also those that are one's number but for what does not fit a byte, or 32 bits.
func noCalls() []api.CallKind {
	l := []api.CallKind{math.MinInt, math.MinInt + 5, -1 << 32, -256, -22, -2, -1, 0, 23, 24, 32, 255, 256, 256 + 5, 1 << 16, 1<<32 + 5, math.MaxInt - 1, math.MaxInt}
	for k := api.SysDrop + 1; k < 300; k++ {
		l = append(l, k, -k)
	}
	return l
}

// P11.1: each call is as the published table tells it.
func TestPublished(t *testing.T) {
	for _, x := range table(t) {
		if l := Demands(x.kind); !slices.Equal(l, x.needs) {
			t.Errorf("demands(%d): %v; want %v", x.kind, l, x.needs)
		}
		if n := Args(x.kind); n != x.args {
			t.Errorf("args(%d): %d; want %d", x.kind, n, x.args)
		}
		if s := Name(x.kind); s != x.name {
			t.Errorf("name(%d): %q; want %q", x.kind, s, x.name)
		}
		if k, is := Of(x.name); !is || k != x.kind {
			t.Errorf("of(%q): %d, %v; want %d", x.name, k, is, x.kind)
		}
	}
}

// P11.1: some rows of the table, told by api's own words.
func TestRows(t *testing.T) {
	for _, x := range []struct {
		kind  api.CallKind
		name  string
		args  int
		needs []api.Need
	}{
		{api.SysPark, "park", 0, nil},
		{api.SysSleep, "sleep", 1, nil},
		{api.SysSpawn, "spawn", 4, []api.Need{{Arg: 0, Kind: api.KindDomain, Rights: api.RightSpawn}, {Arg: 1, Kind: api.KindContext, Rights: api.RightDonate}}},
		{api.SysResume, "resume", 1, []api.Need{{Arg: 0, Kind: api.KindG, Rights: api.RightSuspend}}},
		{api.SysMove, "move", 2, []api.Need{{Arg: 0, Kind: 0, Rights: 0}}},
		{api.SysGive, "give", 3, []api.Need{{Arg: 0, Kind: api.KindG, Rights: api.RightDonate}, {Arg: 1, Kind: 0, Rights: api.RightMint}}},
		{api.SysCarve, "carve", api.Args, []api.Need{{Arg: 0, Kind: api.KindDomain, Rights: api.RightSpawn}}},
		{api.SysDrop, "drop", 1, []api.Need{{Arg: 0, Kind: api.KindContext, Rights: api.RightRevoke}}},
	} {
		if k, is := Of(x.name); !is || k != x.kind {
			t.Errorf("of(%q): %d, %v", x.name, k, is)
		}
		if Name(x.kind) != x.name || Args(x.kind) != x.args || !slices.Equal(Demands(x.kind), x.needs) {
			t.Errorf("%s: %q, %d, %v", x.name, Name(x.kind), Args(x.kind), Demands(x.kind))
		}
	}
}

// P11.1: of what is no call nothing is told.
func TestNoCall(t *testing.T) {
	for _, k := range noCalls() {
		if l := Demands(k); len(l) != 0 {
			t.Errorf("demands(%d): %v", k, l)
		}
		if n, s := Args(k), Name(k); n != 0 || s != "" {
			t.Errorf("args, name(%d): %d, %q", k, n, s)
		}
	}
}

// noNames are texts that are no call's name: what is nearly one's, and what is told elsewhere.
func noNames(t *testing.T) []string {
	t.Helper()
	l := []string{"", " ", "-", "?", "none", "nothing", "call", "any", "g", "slot", "domain", "context", "Sys", "0", "5", "\x00", "\xff", strings.Repeat("spawn", 1000)}
	for _, x := range table(t) {
		capital := strings.ToUpper(x.name[:1]) + x.name[1:]
		l = append(l, capital, strings.ToUpper(x.name), "Sys"+capital, "sys"+x.name)
		l = append(l, x.name[1:], x.name[:len(x.name)-1], x.name+x.name, x.name+x.name[len(x.name)-1:])
		for _, beside := range []string{" ", "\n", "\t", "\x00", ",", "s", "1", "\u00a0"} {
			l = append(l, x.name+beside, beside+x.name)
		}
		for at := range x.name {
			for _, b := range []byte{0, ' ', '-', x.name[at] - 1, x.name[at] + 1, x.name[at] ^ 32, x.name[at] ^ 128} {
				l = append(l, x.name[:at]+string([]byte{b})+x.name[at+1:])
			}
		}
	}
	return l
}

// P11.1: no other text is a call's name.
func TestNoName(t *testing.T) {
	names := map[string]int{}
	for _, x := range table(t) {
		names[x.name]++
	}
	for _, s := range noNames(t) {
		if k, is := Of(s); names[s] == 0 && (is || k != 0) {
			t.Errorf("of(%q): %d, %v", s, k, is)
		}
	}
}

// P11.1: no two calls have one name.
func TestNamesAreApart(t *testing.T) {
	calls := map[string]api.CallKind{}
	for k := api.SysYield; k <= api.SysDrop; k++ {
		if o := calls[Name(k)]; o != 0 {
			t.Errorf("%d and %d are both %q", o, k, Name(k))
		}
		calls[Name(k)] = k
	}
}

// P11.1: a call demands something of arguments at which it looks alone, in their order, and of each one once.
func TestDemandsAreOfArguments(t *testing.T) {
	for k := api.SysYield; k <= api.SysDrop; k++ {
		if n := Args(k); n < 0 || n > api.Args {
			t.Errorf("args(%d): %d", k, n)
		}
		for i, n := range Demands(k) {
			if n.Arg != i || n.Arg >= Args(k) {
				t.Errorf("demands(%d), of %d arguments: %v", k, Args(k), n)
			}
		}
	}
}

// P11.1: what is done with a list that was answered is seen in no other one.
func TestDemandsAreTheCallersOwn(t *testing.T) {
	other := api.Need{Arg: 9, Kind: 9, Rights: 99}
	calls := table(t)
	for _, x := range calls {
		l, also := Demands(x.kind), Demands(x.kind)
		l = l[:cap(l)] // what is behind its end is the caller's own, too
		for i := range l {
			l[i] = other
		}
		if !slices.Equal(also, x.needs) {
			t.Errorf("demands(%d): %v; want %v", x.kind, also, x.needs)
		}
		for _, y := range calls {
			if now := Demands(y.kind); !slices.Equal(now, y.needs) {
				t.Errorf("demands(%d), behind what was done with those of %d: %v; want %v", y.kind, x.kind, now, y.needs)
			}
		}
	}
}
