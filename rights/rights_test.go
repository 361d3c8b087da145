package rights

import (
	"math"
	"math/rand/v2"
	"slices"
	"strings"
	"testing"

	"helmsman/api"
)

// P11.2, P11.3: the chapter's own examples.
func TestExamples(t *testing.T) {
	const those = api.RightSpawn | api.RightMint
	if s := Text(those); s != "s-----m-" {
		t.Error(s)
	}
	if r, are := Narrow(those, api.RightMint); r != api.RightMint || !are {
		t.Error(r, are)
	}
	if r, are := Narrow(api.RightMint, those); r != 0 || are {
		t.Error(r, are)
	}
}

// P11.2: whatever is asked of whatever there is.
func TestNarrow(t *testing.T) {
	all(func(from api.Rights) {
		all(func(asked api.Rights) {
			want := asked
			if !among(asked, from) {
				want = 0
			}
			if r, are := Narrow(from, asked); r != want || are != among(asked, from) {
				t.Errorf("narrow(%08b, %08b): %08b, %v", from, asked, r, are)
			}
		})
	})
}

// P11.2: no right is among all, also where there is none; all are among all alone.
func TestNarrowEdges(t *testing.T) {
	for _, x := range []struct {
		from, asked, r api.Rights
		are            bool
	}{
		{0, 0, 0, true}, {api.RightKill, 0, 0, true}, {api.AllRights, 0, 0, true}, {api.AllRights, api.AllRights, api.AllRights, true},
		{0, api.RightSpawn, 0, false}, {0, api.RightRevoke, 0, false}, {0, api.AllRights, 0, false}, {api.AllRights &^ api.RightWake, api.AllRights, 0, false},
		{api.RightWake | api.RightKill, api.RightKill, api.RightKill, true}, {api.RightWake | api.RightKill, api.RightKill | api.RightSpawn, 0, false}, {api.RightWake, api.RightKill, 0, false},
	} {
		if r, are := Narrow(x.from, x.asked); r != x.r || are != x.are {
			t.Errorf("narrow(%08b, %08b): %08b, %v", x.from, x.asked, r, are)
		}
	}
}

// kinds are those of capabilities, and what is none.
func kinds() []api.Kind {
	return []api.Kind{math.MinInt, -1, 0, api.KindG, api.KindContext, api.KindDomain, 4, 256 + 1, 1<<32 + 1, math.MaxInt}
}

// met is what Meets is to say.
func met(c api.Cap, n api.Need) api.Errno {
	if n.Kind != 0 && c.Kind != n.Kind {
		return api.ErrKind
	}
	if !among(n.Rights, c.Rights) {
		return api.ErrRights
	}
	return api.OK
}

// P11.2: whatever capability, and whatever is demanded; ErrKind comes ahead of ErrRights.
func TestMeets(t *testing.T) {
	for _, has := range kinds() {
		for _, wants := range kinds() {
			all(func(r api.Rights) {
				all(func(demanded api.Rights) {
					c, n := api.Cap{Kind: has, Rights: r}, api.Need{Kind: wants, Rights: demanded}
					if e := Meets(c, n); e != met(c, n) {
						t.Errorf("meets(%v, %v): %v; want %v", c, n, e, met(c, n))
					}
				})
			})
		}
	}
}

// P11.2: what the table demands, of capabilities that have it, and of those that lack something.
func TestMeetsEdges(t *testing.T) {
	for _, x := range []struct {
		kind   api.Kind
		rights api.Rights
		wants  api.Kind
		right  api.Rights
		e      api.Errno
	}{
		{api.KindG, api.RightWake, api.KindG, api.RightWake, api.OK}, {api.KindG, api.AllRights, api.KindG, api.RightKill, api.OK}, {api.KindG, api.AllRights &^ api.RightKill, api.KindG, api.RightKill, api.ErrRights},
		{api.KindG, api.AllRights, api.KindContext, api.RightDonate, api.ErrKind}, {api.KindG, 0, api.KindContext, api.RightDonate, api.ErrKind}, {api.KindDomain, api.AllRights, api.KindContext, 0, api.ErrKind},
		{api.KindContext, api.RightMint, 0, api.RightMint, api.OK}, {api.KindDomain, api.RightSpawn, 0, api.RightMint, api.ErrRights}, {api.KindG, 0, 0, 0, api.OK}, {api.KindG, 0, api.KindG, 0, api.OK},
		{api.KindContext, api.RightDonate | api.RightSpawn, api.KindContext, api.RightDonate | api.RightMint, api.ErrRights}, {0, api.AllRights, api.KindG, 0, api.ErrKind}, {0, 0, 0, 0, api.OK},
	} {
		c, n := api.Cap{Kind: x.kind, Rights: x.rights}, api.Need{Kind: x.wants, Rights: x.right}
		if e := Meets(c, n); e != x.e {
			t.Errorf("meets(%v, %v): %v; want %v", c, n, e, x.e)
		}
	}
}

// P11.2: neither the object nor the argument has anything to do with it: whether what it names is there is not asked here.
func TestMeetsWhicheverObject(t *testing.T) {
	for _, at := range []int{math.MinInt, -1, 0, 1, 63, math.MaxInt} {
		for _, gen := range []uint64{0, 1, math.MaxUint64} {
			for _, arg := range []int{math.MinInt, -1, 0, 4, 5, math.MaxInt} {
				c := api.Cap{Kind: api.KindG, Object: api.Ref{Index: at, Gen: gen}, Rights: api.RightWake}
				for _, n := range []api.Need{{Arg: arg, Kind: api.KindG, Rights: api.RightWake}, {Arg: arg, Kind: api.KindDomain}, {Arg: arg, Rights: api.RightKill}} {
					if e := Meets(c, n); e != met(c, n) {
						t.Errorf("meets(%v, %v): %v", c, n, e)
					}
				}
			}
		}
	}
}

// P11.3: each right has its letter, at its place.
func TestLetters(t *testing.T) {
	for text, r := range map[string]api.Rights{
		"--------": 0, "swkuadmr": api.AllRights,
		"s-------": api.RightSpawn, "-w------": api.RightWake, "--k-----": api.RightKill, "---u----": api.RightSuspend,
		"----a---": api.RightAffinity, "-----d--": api.RightDonate, "------m-": api.RightMint, "-------r": api.RightRevoke,
		"swku----": 15, "----admr": 240, "s-k-a-m-": 85, "-w-u-d-r": 170, "-wkuadm-": api.AllRights &^ (api.RightSpawn | api.RightRevoke),
	} {
		if s := Text(r); s != text {
			t.Errorf("text(%08b): %q; want %q", r, s, text)
		}
		if got, is := OfText(text); got != r || !is {
			t.Errorf("of %q: %08b, %v; want %08b", text, got, is, r)
		}
	}
}

// P11.3, P11.4: whatever rights: a text is read as its rights.
func TestTextIsRead(t *testing.T) {
	all(func(r api.Rights) {
		s := Text(r)
		if s != spelt(r) {
			t.Errorf("text(%08b): %q; want %q", r, s, spelt(r))
		}
		if got, is := OfText(s); got != r || !is {
			t.Errorf("of %q: %08b, %v; want %08b", s, got, is, r)
		}
	})
}

// texts are those of all rights, and which ones they are of.
func texts() map[string]api.Rights {
	m := map[string]api.Rights{}
	all(func(r api.Rights) { m[spelt(r)] = r })
	return m
}

// isRead asks that a text is read, if it is one's; else that nothing is.
func isRead(t *testing.T, m map[string]api.Rights, s string) {
	t.Helper()
	want, one := m[s]
	if r, is := OfText(s); r != want || is != one {
		t.Fatalf("of %q: %08b, %v; want %08b, %v", s, r, is, want, one)
	}
}

// P11.3, P11.4: what is no text of rights.
func TestNoText(t *testing.T) {
	m := texts()
	for _, s := range []string{
		"", "-", "s", "-------", "---------", "swkuadm", "wkuadmr", "swkuadmrr", "swkuadmr-", "-swkuadmr", " swkuadmr", "swkuadmr ", "swkuadmr\n", "swkuadmr\x00", "swkuadmrswkuadmr",
		"SWKUADMR", "Swkuadmr", "swkuadmR", "rmdaukws", "wskuadmr", "swkudamr", "swkuadrm", "-s------", "r-------", "s------s", "ssssssss", "wwwwwwww", "rrrrrrrr", "s-k-d-m-",
		"swkuadm ", "swkuadm_", "swkuadm.", "swkuadm\x00", "\x00\x00\x00\x00\x00\x00\x00\x00", "        ", "00000000", "11111111", "????????",
		// letters that are nearly these, of several bytes, in texts of eight bytes, and of eight letters
		"\u2013-----", "-----\u2013", "\u2013-------", "\u2013\u2013\u2013\u2013\u2013\u2013\u2013\u2013", "\uff0d\uff0d--", "\u017fwkuadm", "\u017fwkuadmr", "swku\u0430dmr", "swku\u0430dm", "\u0455wkuadm", "swkuadm\u0155", "s\u0301kuadmr", "\U0001d42c----", "\U0001d42cwkuadmr",
		"\xff-------", "-------\xff", "swkuadm\xf2", "\xf3wkuadmr", "\xff\xff\xff\xff\xff\xff\xff\xff", "\xe2\x80-----\x93", "\ufffd-----", "\ufffd-------", "\xc0\xad------", "\xc1\xb3wkuadmr", "\xc1\xb3wkuadm", "\xefs------",
		// runes whose lowest byte is a letter's
		"\u0173wkuadm", "\u0173wkuadmr", "swkuadm\u0172", "swkuad\u016d", "swkuadm\u0272", "\u012d------", "\u012d-------", "-------\u012d",
	} {
		if _, one := m[s]; one {
			t.Fatalf("%q is one's", s)
		}
		isRead(t, m, s)
	}
}

// P11.3, P11.4: each text of rights, with one byte of it another one, left out, twice, or one more.
func TestNearlyTexts(t *testing.T) {
	m := texts()
	for s := range m {
		for at := range len(s) {
			isRead(t, m, s[:at]+s[at+1:])
			isRead(t, m, s[:at]+s[at:at+1]+s[at:])
		}
	}
	for _, s := range []string{"--------", "swkuadmr", "s-k-a-m-", "-w-u-d-r", "swku----"} {
		for b := range 256 {
			for at := range len(s) {
				isRead(t, m, s[:at]+string([]byte{byte(b)})+s[at+1:])
				isRead(t, m, s[:at]+string([]byte{byte(b)})+s[at:])
			}
			isRead(t, m, s+string([]byte{byte(b)}))
		}
	}
}

// P11.3, P11.4: texts of letters that are theirs, of all lengths up to five, and many of eight: just as many are read as there are rights.
func TestTextsOfLetters(t *testing.T) {
	m := texts()
	const known = "swkuadmr-"
	row := []string{""}
	for range 5 {
		var longer []string
		for _, s := range row {
			for _, letter := range known {
				longer = append(longer, s+string(letter))
			}
		}
		row = longer
		for _, s := range row {
			isRead(t, m, s)
		}
	}
	rnd := rand.New(rand.NewPCG(111, 112))
	read := map[string]int{}
	for range 200000 {
		text := make([]byte, 8)
		for i := range text {
			text[i] = known[8]
			switch rnd.IntN(12) {
			case 0:
				text[i] = known[rnd.IntN(len(known))]
			case 1, 2, 3, 4, 5:
				text[i] = known[i]
			}
		}
		isRead(t, m, string(text))
		if _, is := OfText(string(text)); is {
			read[string(text)]++
		}
	}
	if len(read) != len(m) {
		t.Errorf("%d of %d texts were read", len(read), len(m))
	}
}

// P11.3: a text that is very long is none's.
func TestLongText(t *testing.T) {
	for _, s := range []string{strings.Repeat("-", 1<<20), strings.Repeat("swkuadmr", 1<<17), strings.Repeat("\xff", 1<<20)} {
		if r, is := OfText(s); is || r != 0 {
			t.Error(r, is)
		}
		if k, is := Of(s); is || k != 0 {
			t.Error(k, is)
		}
	}
}

// needs are whatever can be demanded.
func needs() []api.Need {
	var l []api.Need
	for kind := range api.KindDomain + 1 {
		all(func(r api.Rights) { l = append(l, api.Need{Kind: kind, Rights: r}) })
	}
	return l
}

// P11.4: what was narrowed, however often, meets no demand that what it came of did not meet.
func TestNarrowedMeetsNoMore(t *testing.T) {
	demanded := needs()
	for _, kind := range []api.Kind{api.KindG, api.KindContext, api.KindDomain} {
		all(func(from api.Rights) {
			meets := make([]bool, len(demanded))
			for i, n := range demanded {
				meets[i] = Meets(api.Cap{Kind: kind, Rights: from}, n) == api.OK
			}
			all(func(asked api.Rights) {
				r, are := Narrow(from, asked)
				if !are && r != 0 {
					t.Errorf("narrow(%08b, %08b): %08b, %v", from, asked, r, are)
				}
				for i, n := range demanded {
					if Meets(api.Cap{Kind: kind, Rights: r}, n) == api.OK && !meets[i] {
						t.Fatalf("narrow(%08b, %08b) meets %v", from, asked, n)
					}
				}
			})
		})
	}
}

// P11.4: likewise of what each call demands of its arguments, down a row of narrowings.
func TestNarrowedCallsNoMore(t *testing.T) {
	rnd := rand.New(rand.NewPCG(113, 114))
	for range 2000 {
		kind, r := api.Kind(1+rnd.IntN(3)), api.AllRights
		for range 6 {
			was := r
			if now, are := Narrow(was, api.Rights(rnd.IntN(256))|api.Rights(rnd.IntN(256))); are {
				r = now
			}
			for k := api.SysYield; k <= api.SysDrop; k++ {
				for _, n := range Demands(k) {
					if Meets(api.Cap{Kind: kind, Rights: r}, n) == api.OK && Meets(api.Cap{Kind: kind, Rights: was}, n) != api.OK {
						t.Fatalf("%s narrowed to %s meets %v of %s", Text(was), Text(r), n, Name(k))
					}
				}
			}
		}
	}
}

// P11.2, P11.4: who may call what by one right of one kind alone, told call by call.
func TestWhoMayCall(t *testing.T) {
	for _, x := range []struct {
		kind  api.Kind
		right api.Rights
		calls []string // by the argument 0
	}{
		{api.KindG, api.RightWake, []string{"wake", "move", "delete"}},
		{api.KindG, api.RightKill, []string{"kill", "move", "delete"}},
		{api.KindG, api.RightSuspend, []string{"suspend", "resume", "move", "delete"}},
		{api.KindG, api.RightAffinity, []string{"affinity", "move", "delete"}},
		{api.KindG, api.RightDonate, []string{"bind", "move", "delete", "give"}},
		{api.KindG, api.RightSpawn, []string{"move", "delete"}},
		{api.KindG, 0, []string{"move", "delete"}},
		{api.KindG, api.RightMint | api.RightRevoke, []string{"mint", "copy", "move", "delete", "revoke"}},
		{api.KindContext, api.RightDonate, []string{"move", "delete", "split", "donate"}},
		{api.KindContext, api.RightRevoke, []string{"move", "delete", "revoke", "drop"}},
		{api.KindDomain, api.RightSpawn, []string{"spawn", "move", "delete", "carve"}},
		{api.KindDomain, api.RightRevoke, []string{"move", "delete", "revoke", "merge"}},
	} {
		var calls []string
		for k := api.SysYield; k <= api.SysDrop; k++ {
			if l := Demands(k); len(l) > 0 && Meets(api.Cap{Kind: x.kind, Rights: x.right}, l[0]) == api.OK {
				calls = append(calls, Name(k))
			}
		}
		if !slices.Equal(calls, x.calls) {
			t.Errorf("%d, %08b: %v; want %v", x.kind, x.right, calls, x.calls)
		}
	}
}
