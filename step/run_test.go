package step

import (
	"bytes"
	"math"
	"math/rand/v2"
	"testing"

	"helmsman/api"
)

// runs asks what a run of steps answers.
func runs(t *testing.T, b []byte, g api.G, most int, want api.G, call api.Call, how api.Went, many int) {
	t.Helper()
	was := bytes.Clone(b)
	if after, c, went, n := Run(b, g, most); after != want || c != call || went != how || n != many {
		t.Fatalf("%v, %+v, %d:\n%+v, %v, %v, %d; want\n%+v, %v, %v, %d", b, g, most, after, c, went, n, want, call, how, many)
	}
	if !bytes.Equal(b, was) {
		t.Fatalf("%v became %v", was, b)
	}
}

// isRan asks that a run answers what the chapter's words say.
func isRan(t *testing.T, b []byte, g api.G, most int) {
	t.Helper()
	want, call, how, many := ran(b, g, most)
	runs(t, b, g, most, want, call, how, many)
}

// P15.2: of below 1 there are no steps, whatever the program, and wherever in it.
func TestRunNone(t *testing.T) {
	for _, most := range []int{0, -1, -2, math.MinInt + 1, math.MinInt} {
		for _, text := range []string{"", "nop\n", "call 1\n", "raw ffffffff\n", "raw ff\n", "jump -1\n"} {
			for _, pc := range []int{-1, 0, 1, 2} {
				g := api.G{State: api.Running, PC: pc, Regs: regs(1, 2, 3), Code: api.ErrState}
				runs(t, of(t, text), g, most, g, api.Call{}, api.WentOn, 0)
			}
		}
	}
}

// P15.2: a program with a loop, a fault, and a call, step by step.
func TestRun(t *testing.T) {
	b := of(t, "const 1 2\nconst 2 1\nsub 1 1 2\nzero 1 1\njump -3\nsub 1 1 2\ncode 3\ncall 1\nnop\n")
	first := api.G{State: api.Running, Regs: regs(7), Code: api.ErrBusy}
	for _, x := range []struct {
		most, pc int
		r        [api.Registers]uint64
		code     api.Errno
		went     api.Went
	}{
		{1, 1, regs(7, 2), api.ErrBusy, api.WentOn}, {2, 2, regs(7, 2, 1), api.ErrBusy, api.WentOn}, {3, 3, regs(7, 1, 1), api.ErrBusy, api.WentOn}, {4, 4, regs(7, 1, 1), api.ErrBusy, api.WentOn}, {5, 2, regs(7, 1, 1), api.ErrBusy, api.WentOn},
		{6, 3, regs(7, 0, 1), api.ErrBusy, api.WentOn}, {7, 5, regs(7, 0, 1), api.ErrBusy, api.WentOn}, {8, 6, regs(7, 0, 1), api.ErrOver, api.WentBad}, {9, 7, regs(7, 0, 1, 6), api.ErrOver, api.WentOn},
	} {
		want := first
		want.PC, want.Regs, want.Code = x.pc, x.r, x.code
		runs(t, b, first, x.most, want, api.Call{}, x.went, x.most)
	}
	want := first
	want.PC, want.Regs, want.Code = 8, regs(7, 0, 1, 6), api.ErrOver
	call := api.Call{Kind: api.SysYield, Args: [api.Args]uint64{7, 0, 1, 6}}
	for _, most := range []int{10, 11, 1000, math.MaxInt} {
		runs(t, b, first, most, want, call, api.WentCall, 10)
	}
	end := want
	end.PC = 9
	runs(t, b, want, 1, end, api.Call{}, api.WentOn, 1)
	for _, most := range []int{2, 3, math.MaxInt} {
		runs(t, b, want, most, end, api.Call{}, api.WentOver, 2)
	}
	for _, most := range []int{1, 2, math.MaxInt} {
		runs(t, b, end, most, end, api.Call{}, api.WentOver, 1)
	}
}

// P15.2: those that are bad do not end a run, to the end, and to the one behind it where bytes are left.
func TestRunBad(t *testing.T) {
	b := bytes.Repeat([]byte{255}, 22)
	for most := 1; most <= 6; most++ {
		runs(t, b, api.G{}, most, api.G{PC: most, Code: api.ErrOp}, api.Call{}, api.WentBad, most)
	}
	for _, most := range []int{7, 8, math.MaxInt} {
		runs(t, b, api.G{}, most, api.G{PC: 6, Code: api.ErrOp}, api.Call{}, api.WentOver, 7)
		runs(t, b[:20], api.G{}, most, api.G{PC: 5, Code: api.ErrOp}, api.Call{}, api.WentOver, 6)
		runs(t, b[:20], api.G{PC: -1}, most, api.G{PC: 5, Code: api.ErrOp}, api.Call{}, api.WentOver, 7)
	}
	runs(t, b, api.G{PC: -1 << 40}, 100, api.G{PC: 100 - 1<<40, Code: api.ErrOp}, api.Call{}, api.WentBad, 100)
}

// P15.2: what never ends is left behind the last one of its steps.
func TestRunEndless(t *testing.T) {
	for _, most := range []int{1, 2, 3, 10000} {
		runs(t, of(t, "jump -1\n"), api.G{}, most, api.G{}, api.Call{}, api.WentOn, most)
	}
	b := of(t, "const 2 1\nadd 1 1 2\njump -2\n")
	runs(t, b, api.G{}, 20001, api.G{PC: 1, Regs: regs(0, 10000, 1)}, api.Call{}, api.WentOn, 20001)
	runs(t, b, api.G{PC: 1, Regs: regs(0, top-1, 1)}, 3, api.G{PC: 2, Regs: regs(0, top, 1), Code: api.ErrOver}, api.Call{}, api.WentBad, 3)
}

// P15.2: random programs, of so many steps at most.
func TestRunRandom(t *testing.T) {
	rnd := rand.New(rand.NewPCG(157, 158))
	for range 5000 {
		b := program(rnd, rnd.IntN(80))
		g := goroutine(rnd, rnd.IntN(len(b)/4+4)-2)
		for _, most := range []int{-1, 0, 1, 2, 3, 5, 8, 30, 100} {
			isRan(t, b, g, most)
		}
	}
}

// P15.2: a run is steps, one behind the other: what it answers, Do answers, the last time it is called.
func TestRunIsSteps(t *testing.T) {
	rnd := rand.New(rand.NewPCG(159, 160))
	for range 3000 {
		b := program(rnd, rnd.IntN(80))
		first := goroutine(rnd, rnd.IntN(len(b)/4+1))
		g := first
		for n := 1; n <= 40; n++ {
			after, call, went := Do(b, g)
			runs(t, b, first, n, after, call, went, n)
			if went == api.WentCall || went == api.WentOver {
				runs(t, b, first, n+1, after, call, went, n)
				break
			}
			g = after
		}
	}
}

// P15.3: twice run, all is the same, also in parts.
func TestRunInParts(t *testing.T) {
	rnd := rand.New(rand.NewPCG(161, 162))
	for range 3000 {
		b := program(rnd, rnd.IntN(80))
		g := goroutine(rnd, 0)
		one, two := rnd.IntN(20), 1+rnd.IntN(20)
		middle, _, went, n := Run(b, g, one)
		if went != api.WentOn && went != api.WentBad {
			continue
		}
		if n != one {
			t.Fatal(n, one)
		}
		want, call, how, more := Run(b, middle, two)
		runs(t, b, g, one+two, want, call, how, n+more)
	}
}
