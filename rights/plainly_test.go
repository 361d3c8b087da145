package rights

import (
	"strconv"
	"strings"
	"testing"

	"helmsman/api"
)

// published is the chapter's table, word by word.
const published = `SysYield 1, SysExit 2, SysPark 3 | yield, exit, park | none | nothing
SysSleep 4 | sleep | ticks | nothing
SysSpawn 5 | spawn | domain, context, program, to | 0: a domain, RightSpawn; 1: a context, RightDonate
SysWake 6 | wake | g | 0: a goroutine, RightWake
SysKill 7 | kill | g | 0: a goroutine, RightKill
SysSuspend 8, SysResume 9 | suspend, resume | g | 0: a goroutine, RightSuspend
SysAffinity 10 | affinity | g, mask | 0: a goroutine, RightAffinity
SysBind 11 | bind | g, context | 0: a goroutine, RightDonate; 1: a context, RightDonate
SysMint 12 | mint | slot, rights, to | 0: any, RightMint
SysCopy 13 | copy | slot, to | 0: any, RightMint
SysMove 14 | move | slot, to | 0: any, no right
SysDelete 15 | delete | slot | 0: any, no right
SysRevoke 16 | revoke | slot | 0: any, RightRevoke
SysGive 17 | give | g, slot, to | 0: a goroutine, RightDonate; 1: any, RightMint
SysSplit 18 | split | context, amount, to | 0: a context, RightDonate
SysDonate 19 | donate | context, context, amount | 0, 1: a context, RightDonate
SysCarve 20 | carve | domain, goroutines, ticks, period, to | 0: a domain, RightSpawn
SysMerge 21 | merge | domain | 0: a domain, RightRevoke
SysDrop 22 | drop | context | 0: a context, RightRevoke`

// told is a call, as a row of the published table tells it.
type told struct {
	kind  api.CallKind
	name  string
	args  int
	needs []api.Need
}

// list has the parts of a cell.
func list(cell, between string) []string {
	if cell == "none" || cell == "nothing" {
		return nil
	}
	return strings.Split(cell, between)
}

func number(t *testing.T, s string) int {
	t.Helper()
	n, e := strconv.Atoi(s)
	if e != nil {
		t.Fatal(e)
	}
	return n
}

// kindOf is what the table calls a kind of capability.
func kindOf(t *testing.T, word string) api.Kind {
	t.Helper()
	switch word {
	case "any":
		return 0
	case "a goroutine":
		return api.KindG
	case "a context":
		return api.KindContext
	case "a domain":
		return api.KindDomain
	}
	t.Fatal(word)
	return 0
}

// rightsOf is what the table calls a right.
func rightsOf(t *testing.T, word string) api.Rights {
	t.Helper()
	if word == "no right" {
		return 0
	}
	for _, x := range each() {
		if x.name == word {
			return x.right
		}
	}
	t.Fatal(word)
	return 0
}

// needsOf are the demands that a cell tells.
func needsOf(t *testing.T, cell string) []api.Need {
	t.Helper()
	var l []api.Need
	for _, part := range list(cell, "; ") {
		args, what, _ := strings.Cut(part, ": ")
		kind, right, _ := strings.Cut(what, ", ")
		for _, arg := range list(args, ", ") {
			l = append(l, api.Need{Arg: number(t, arg), Kind: kindOf(t, kind), Rights: rightsOf(t, right)})
		}
	}
	return l
}

// table is all calls, as the published table tells them.
func table(t *testing.T) []told {
	t.Helper()
	var l []told
	for line := range strings.Lines(published) {
		cells := list(strings.TrimSuffix(line, "\n"), " | ")
		names := list(cells[1], ", ")
		for i, kind := range list(cells[0], ", ") {
			_, n, _ := strings.Cut(kind, " ")
			l = append(l, told{api.CallKind(number(t, n)), names[i], len(list(cells[2], ", ")), needsOf(t, cells[3])})
		}
	}
	if len(l) != int(api.SysDrop) {
		t.Fatalf("%d calls", len(l))
	}
	return l
}

// one is a right, by itself.
type one struct {
	name   string
	right  api.Rights
	letter byte
}

// each is all rights, in the order of their bits.
func each() []one {
	return []one{
		{"RightSpawn", api.RightSpawn, 's'}, {"RightWake", api.RightWake, 'w'}, {"RightKill", api.RightKill, 'k'}, {"RightSuspend", api.RightSuspend, 'u'},
		{"RightAffinity", api.RightAffinity, 'a'}, {"RightDonate", api.RightDonate, 'd'}, {"RightMint", api.RightMint, 'm'}, {"RightRevoke", api.RightRevoke, 'r'},
	}
}

// all calls f with whatever rights there are.
func all(f func(r api.Rights)) {
	for r := range int(api.AllRights) + 1 {
		f(api.Rights(r))
	}
}

// has: is that one among them?
func has(r api.Rights, x one) bool { return r&x.right == x.right }

// among: is each right of the first ones one of the others?
func among(some, others api.Rights) bool {
	for _, x := range each() {
		if has(some, x) && !has(others, x) {
			return false
		}
	}
	return true
}

// spelt is the text of rights, letter by letter.
func spelt(r api.Rights) string {
	var text []byte
	for _, x := range each() {
		if has(r, x) {
			text = append(text, x.letter)
		} else {
			text = append(text, '-')
		}
	}
	return string(text)
}
