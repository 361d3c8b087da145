package step

import (
	"bytes"
	"math"
	"math/rand/v2"
	"slices"
	"strconv"
	"strings"
	"testing"

	"helmsman/api"
	"helmsman/code"
)

const top = math.MaxUint64

// of is a text's program.
func of(t *testing.T, text string) []byte {
	t.Helper()
	b, e := code.Of(text)
	if e != api.OK {
		t.Fatalf("%q: %v", text, e)
	}
	return b
}

// regs are registers that begin with these.
func regs(l ...uint64) [api.Registers]uint64 {
	var r [api.Registers]uint64
	copy(r[:], l)
	return r
}

// steps asks what a step answers.
func steps(t *testing.T, b []byte, g, want api.G, call api.Call, how api.Went) {
	t.Helper()
	was := bytes.Clone(b)
	if after, c, went := Do(b, g); after != want || c != call || went != how {
		t.Fatalf("%v, %+v:\n%+v, %v, %v; want\n%+v, %v, %v", b, g, after, c, went, want, call, how)
	}
	if !bytes.Equal(b, was) {
		t.Fatalf("%v became %v", was, b)
	}
}

// isPlain asks that a step answers what the chapter's words say.
func isPlain(t *testing.T, b []byte, g api.G) {
	t.Helper()
	want, call, how := stepped(b, g)
	steps(t, b, g, want, call, how)
}

// goesOn asks that a step is done, and how the goroutine is behind it.
func goesOn(t *testing.T, b []byte, g api.G, pc int, r [api.Registers]uint64) {
	t.Helper()
	want := g
	want.PC, want.Regs = pc, r
	steps(t, b, g, want, api.Call{}, api.WentOn)
}

// isBad asks that a step is bad, and changes nothing else.
func isBad(t *testing.T, b []byte, g api.G, e api.Errno) {
	t.Helper()
	want := g
	want.PC, want.Code = g.PC+1, e
	steps(t, b, g, want, api.Call{}, api.WentBad)
}

// isOver asks that a program is over, and that nothing is changed.
func isOver(t *testing.T, b []byte, g api.G) {
	t.Helper()
	steps(t, b, g, g, api.Call{}, api.WentOver)
}

// P15.1: the chapter's own examples.
func TestExamples(t *testing.T) {
	isBad(t, of(t, "sub 0 1 2\n"), api.G{Regs: regs(0, 3, 5)}, api.ErrOver)
	g := api.G{Regs: regs(1, 2, 3, 4, 5, 6, 7, 8), Code: api.ErrBusy}
	want := g
	want.PC = 1
	steps(t, of(t, "call 5\n"), g, want, api.Call{Kind: api.SysSpawn, Args: [api.Args]uint64{1, 2, 3, 4, 5}}, api.WentCall)
}

// P15.1: nop, const, code.
func TestPlainOps(t *testing.T) {
	r := regs(10, 11, 12, 13, 14, 15, 16, 17)
	g := api.G{Regs: r, Code: api.ErrLong}
	goesOn(t, of(t, "nop\n"), g, 1, r)
	goesOn(t, []byte{0, 255, 254, 253}, g, 1, r)
	goesOn(t, of(t, "const 0 0\n"), g, 1, regs(0, 11, 12, 13, 14, 15, 16, 17))
	goesOn(t, of(t, "const 7 65535\n"), g, 1, regs(10, 11, 12, 13, 14, 15, 16, 65535))
	goesOn(t, of(t, "const 3 258\n"), g, 1, regs(10, 11, 12, 258, 14, 15, 16, 17))
	goesOn(t, of(t, "code 5\n"), g, 1, regs(10, 11, 12, 13, 14, 17, 16, 17))
	goesOn(t, []byte{7, 0, 255, 255}, g, 1, regs(17, 11, 12, 13, 14, 15, 16, 17))
	g.Code = api.OK
	goesOn(t, of(t, "code 5\n"), g, 1, regs(10, 11, 12, 13, 14, 0, 16, 17))
	for a := range 8 {
		isPlain(t, []byte{1, byte(a), 200, 100}, g)
		isPlain(t, []byte{7, byte(a), 0, 0}, g)
	}
}

// P15.1: a Code is a number of 64 bits, unless it is below 0.
func TestCodeBelow0(t *testing.T) {
	b := of(t, "nop\ncode 1\n")
	for _, c := range []api.Errno{0, 1, 17, 18, 1 << 40, math.MaxInt} {
		goesOn(t, b, api.G{PC: 1, Code: c, Regs: regs(7, 7, 7)}, 2, regs(7, uint64(c), 7))
	}
	for _, c := range []api.Errno{-1, -2, -17, -1 << 40, math.MinInt} {
		isBad(t, b, api.G{PC: 1, Code: c, Regs: regs(7, 7, 7)}, api.ErrOver)
	}
}

// P15.1: sums, differences, products, and those that do not fit.
func TestArithmetic(t *testing.T) {
	for _, x := range []struct {
		text string
		b, c uint64
		n    uint64
		fits bool
	}{
		{"add 0 1 2\n", 3, 5, 8, true}, {"add 0 1 2\n", 0, 0, 0, true}, {"add 0 1 2\n", top, 0, top, true}, {"add 0 1 2\n", top - 1, 1, top, true}, {"add 0 1 2\n", 1 << 63, 1<<63 - 1, top, true},
		{"add 0 1 2\n", top, 1, 0, false}, {"add 0 1 2\n", 1, top, 0, false}, {"add 0 1 2\n", 1 << 63, 1 << 63, 0, false}, {"add 0 1 2\n", top, top, 0, false},
		{"sub 0 1 2\n", 5, 3, 2, true}, {"sub 0 1 2\n", 5, 5, 0, true}, {"sub 0 1 2\n", top, top, 0, true}, {"sub 0 1 2\n", top, 0, top, true},
		{"sub 0 1 2\n", 3, 5, 0, false}, {"sub 0 1 2\n", 0, 1, 0, false}, {"sub 0 1 2\n", 0, top, 0, false}, {"sub 0 1 2\n", top - 1, top, 0, false},
		{"mul 0 1 2\n", 3, 5, 15, true}, {"mul 0 1 2\n", 0, top, 0, true}, {"mul 0 1 2\n", top, 0, 0, true}, {"mul 0 1 2\n", top, 1, top, true}, {"mul 0 1 2\n", 1<<32 + 1, 1<<32 - 1, top, true},
		{"mul 0 1 2\n", 1 << 32, 1 << 32, 0, false}, {"mul 0 1 2\n", top, 2, 0, false}, {"mul 0 1 2\n", 2, 1 << 63, 0, false}, {"mul 0 1 2\n", top, top, 0, false},
	} {
		b := of(t, x.text)
		g := api.G{Regs: regs(99, x.b, x.c, 98), Code: api.ErrSlot}
		if !x.fits {
			isBad(t, b, g, api.ErrOver)
			continue
		}
		goesOn(t, b, g, 1, regs(x.n, x.b, x.c, 98))
	}
	for op := byte(2); op <= 4; op++ {
		for n := range 8 * 8 * 8 {
			b := []byte{op, byte(n / 64), byte(n / 8 % 8), byte(n % 8)}
			isPlain(t, b, api.G{Regs: regs(2, 3, 5, 7, 11, 13, 17, 19)})
			isPlain(t, b, api.G{Regs: regs(top, 1<<63, 1<<32, 7, 0, 1, 1<<32-1, 1<<63-1)})
		}
	}
}

// P15.1: from the first place to the end, and one further, whatever stands where a jump goes.
func TestJumps(t *testing.T) {
	for _, text := range []string{"nop\nnop\njump N\nnop\nraw ffffffff\n", "nop\nnop\nzero 3 N\nnop\nraw ffffffff\n", "nop\nnop\njump N\nnop\nnop\nraw ff\n", "nop\nnop\nzero 3 N\nnop\nnop\nraw 010203\n"} {
		for _, n := range []int{-32768, -300, -256, -5, -4, -3, -2, -1, 0, 1, 2, 3, 4, 255, 256, 300, 32767} {
			b := of(t, strings.ReplaceAll(text, "N", strconv.Itoa(n)))
			g := api.G{PC: 2, Regs: regs(1, 2, 3, 0, 5), Code: api.ErrKind}
			if n < -3 || n > 2 {
				isBad(t, b, g, api.ErrOp)
				continue
			}
			goesOn(t, b, g, 3+n, g.Regs)
		}
	}
}

// P15.1: at the first place, and at the last one, of the longest program too.
func TestJumpEnds(t *testing.T) {
	r := regs(9)
	goesOn(t, of(t, "jump -1\n"), api.G{Regs: r}, 0, r)
	goesOn(t, of(t, "jump 0\n"), api.G{Regs: r}, 1, r)
	isBad(t, of(t, "jump -2\n"), api.G{Regs: r}, api.ErrOp)
	isBad(t, of(t, "jump 1\n"), api.G{Regs: r}, api.ErrOp)
	isBad(t, append(of(t, "jump 1\n"), 0, 0, 0), api.G{Regs: r}, api.ErrOp)
	long := make([]byte, 4*40000)
	copy(long, []byte{5, 0, 127, 255})
	goesOn(t, long, api.G{}, 32768, regs())
	copy(long[4*32767:], []byte{5, 0, 128, 0})
	goesOn(t, long, api.G{PC: 32767}, 0, regs())
	copy(long[4*32766:], []byte{5, 0, 128, 0})
	isBad(t, long, api.G{PC: 32766}, api.ErrOp)
}

// P15.1: what is not 0 does not jump, wherever the jump would go.
func TestZero(t *testing.T) {
	for _, n := range []string{"-32768", "-2", "-1", "0", "1", "2", "32767"} {
		b := of(t, "zero 4 "+n+"\nnop\n")
		for _, x := range []uint64{1, 2, 255, 256, 1 << 32, 1 << 63, top} {
			r := regs(0, 0, 0, 0, x)
			goesOn(t, b, api.G{Regs: r}, 1, r)
		}
		isPlain(t, b, api.G{Regs: regs(1, 1, 1, 1, 0, 1, 1, 1)})
	}
	for a := range byte(8) {
		g := api.G{Regs: regs(1, 1, 1, 1, 1, 1, 1, 1)}
		b := []byte{6, a, 0, 1, 0, 0, 0, 0}
		goesOn(t, b, g, 1, g.Regs)
		g.Regs[a] = 0
		goesOn(t, b, g, 2, g.Regs)
	}
}

// P15.1: all calls, whatever stands in what they do not name; the registers 5 to 7 are no arguments.
func TestCalls(t *testing.T) {
	for k := range byte(30) {
		for _, rest := range [][3]byte{{}, {255, 255, 255}, {8, 0, 1}} {
			b := []byte{0, 0, 0, 0, 16 + k, rest[0], rest[1], rest[2]}
			g := api.G{PC: 1, Regs: regs(top, 1, 2, 3, top-1, 5, 6, 7), Code: api.ErrFull, State: api.Running}
			if k < 1 || k > 22 {
				isBad(t, b, g, api.ErrOp)
				continue
			}
			want := g
			want.PC = 2
			steps(t, b, g, want, api.Call{Kind: api.CallKind(k), Args: [api.Args]uint64{top, 1, 2, 3, top - 1}}, api.WentCall)
		}
	}
}

// P15.1: what is no instruction.
func TestNone(t *testing.T) {
	for _, b := range [][]byte{
		{8, 0, 0, 0}, {15, 0, 0, 0}, {16, 0, 0, 0}, {39, 0, 0, 0}, {255, 255, 255, 255}, {1, 8, 0, 0}, {2, 8, 0, 0}, {2, 0, 8, 0}, {2, 0, 0, 8}, {3, 0, 8, 0}, {4, 0, 0, 255}, {6, 8, 0, 0}, {7, 8, 0, 0},
		{1}, {0, 0}, {0, 0, 0},
	} {
		isBad(t, b, api.G{Regs: regs(1, 2, 3, 4, 5, 6, 7, 8), Code: api.ErrQuota}, api.ErrOp)
		isBad(t, b, api.G{}, api.ErrOp)
	}
}

// P15.1: the end, and places that there are not.
func TestPlaces(t *testing.T) {
	for _, long := range []int{0, 1, 2, 3, 4, 5, 7, 8, 11, 1023, 1024, 1025} {
		b := make([]byte, long)
		end := long / 4
		g := api.G{State: api.Runnable, Regs: regs(1, 2, 3), Code: api.ErrArg}
		for _, pc := range []int{end + 1, end + 2, 1 << 31, 1 << 61, 1 << 62, math.MaxInt/4 + 1, math.MaxInt - 1, math.MaxInt} {
			g.PC = pc
			isOver(t, b, g)
		}
		for _, pc := range []int{-1, -2, -4, -1 << 31, -1 << 61, -1 << 62, math.MinInt + 1, math.MinInt} {
			g.PC = pc
			isBad(t, b, g, api.ErrOp)
		}
		g.PC = end
		if long%4 == 0 {
			isOver(t, b, g)
			continue
		}
		isBad(t, b, g, api.ErrOp)
	}
	isOver(t, nil, api.G{})
	isOver(t, nil, api.G{PC: 1})
	isBad(t, nil, api.G{PC: -1}, api.ErrOp)
}

// P15.1: all ops, with what stands in A, B, C at the edges, of goroutines of all kinds.
func TestEdges(t *testing.T) {
	rnd := rand.New(rand.NewPCG(151, 152))
	at := []byte{0, 1, 2, 6, 7, 8, 9, 127, 128, 255}
	for op := range 256 {
		for _, a := range at {
			for _, b := range at {
				for _, c := range at {
					isPlain(t, []byte{0, 0, 0, 0, byte(op), a, b, c, 0, 0, 0, 0, 255}, goroutine(rnd, 1))
				}
			}
		}
	}
	for n := range 65536 {
		for _, op := range []byte{1, 5, 6} {
			isPlain(t, []byte{op, byte(n % 8), byte(n / 256), byte(n)}, goroutine(rnd, 0))
		}
	}
}

// P15.1, P15.3: random programs, at all places in them, and beside them.
func TestRandom(t *testing.T) {
	rnd := rand.New(rand.NewPCG(153, 154))
	went := map[api.Went]int{}
	for range 3000 {
		b := program(rnd, rnd.IntN(60))
		for pc := -2; pc <= len(b)/4+2; pc++ {
			g := goroutine(rnd, pc)
			isPlain(t, b, g)
			_, _, how := Do(b, g)
			went[how]++
		}
	}
	for _, how := range []api.Went{api.WentOn, api.WentCall, api.WentOver, api.WentBad} {
		if went[how] < 1000 {
			t.Error(went)
		}
	}
}

// P15.3: whatever bytes a program is, a step changes nothing but PC, Regs and Code, and a PC that is one stays one.
func TestWhatFollows(t *testing.T) {
	rnd := rand.New(rand.NewPCG(155, 156))
	for range 20000 {
		b := program(rnd, rnd.IntN(40))
		if rnd.IntN(4) == 0 {
			for i := range b {
				b[i] = byte(rnd.Uint32())
			}
		}
		was, most := slices.Clone(b), len(b)/4+1
		g := goroutine(rnd, rnd.IntN(most+1))
		first := g
		for range 20 {
			after, call, went := Do(b, g)
			if after.PC < 0 || after.PC > most {
				t.Fatalf("%v: from %d to %d", b, g.PC, after.PC)
			}
			if (went == api.WentCall) != (call != api.Call{}) {
				t.Fatalf("%v at %d: %v, %v", b, g.PC, call, went)
			}
			if went != api.WentBad && after.Code != g.Code || went == api.WentOver && after != g || went != api.WentOn && after.Regs != g.Regs {
				t.Fatalf("%v, %v: %+v; was %+v", b, went, after, g)
			}
			g = after
			kept := g
			kept.PC, kept.Regs, kept.Code = first.PC, first.Regs, first.Code
			if kept != first {
				t.Fatalf("%v: %+v; was %+v", b, g, first)
			}
		}
		if !slices.Equal(b, was) {
			t.Fatalf("%v became %v", was, b)
		}
	}
}

// What is no Errno is nobody's bad instruction: it goes on.
func TestOtherPanicsGoOn(t *testing.T) {
	b := of(t, "add 0 1 2\n")
	for _, what := range []any{"a word", 6, error(other{}), new(api.Errno)} {
		all := map[api.Op]operation{api.OpAdd: func(uint64, uint64) (uint64, bool) { panic(what) }}
		if r := panicked(func() { step(all, b, api.G{}) }); r != what {
			t.Errorf("%v: %v", what, r)
		}
	}
	if r := panicked(func() { step(nil, b, api.G{}) }); r == nil {
		t.Error("what has no operation was done")
	}
	all := map[api.Op]operation{api.OpAdd: func(uint64, uint64) (uint64, bool) { panic(api.ErrBusy) }}
	if g, call, went := step(all, b, api.G{}); g != (api.G{PC: 1, Code: api.ErrBusy}) || call != (api.Call{}) || went != api.WentBad {
		t.Error(g, call, went)
	}
}

// other is an error that is no Errno, but has one in it.
type other struct{}

func (other) Error() string { return "other" }

func (other) Unwrap() error { return api.ErrOver }

// panicked is what ended something, or nothing.
func panicked(do func()) (what any) {
	defer func() { what = recover() }()
	do()
	return nil
}
