package code

import (
	"bytes"
	"math"
	"math/rand/v2"
	"slices"
	"testing"

	"helmsman/api"
)

// isDecoded asks that an instruction of a program, or the error, is what it is to be.
func isDecoded(t *testing.T, b []byte, pc int) {
	t.Helper()
	was := slices.Clone(b)
	want, wrong := decoded(b, pc)
	if x, e := Decode(b, pc); x != want || e != wrong {
		t.Fatalf("decode(%v, %d): %v, %v; want %v, %v", b, pc, x, e, want, wrong)
	}
	if !bytes.Equal(b, was) {
		t.Fatalf("decode(%v, %d) made %v of it", was, pc, b)
	}
}

// P14.1: the chapter's own example.
func TestDecodeExample(t *testing.T) {
	b := []byte{1, 2, 1, 0, 6, 3, 255, 254, 21, 0, 0, 0, 9, 9}
	for pc, want := range []api.Instr{{Op: api.OpConst, A: 2, B: 1}, {Op: api.OpZero, A: 3, B: 255, C: 254}, {Op: api.OpCall + 5}} {
		if x, e := Decode(b, pc); x != want || e != api.OK {
			t.Error(pc, x, e)
		}
		if got := Bytes(want); !bytes.Equal(got, b[4*pc:4*pc+4]) {
			t.Error(pc, got)
		}
	}
	if x, e := Decode(b, 3); x != (api.Instr{}) || e != api.ErrOp {
		t.Error(x, e)
	}
	if n := Len(b); n != 3 {
		t.Error(n)
	}
	if n := Number(api.Instr{Op: api.OpConst, A: 2, B: 1}); n != 256 {
		t.Error(n)
	}
	if n := Jump(api.Instr{Op: api.OpZero, A: 3, B: 255, C: 254}); n != -2 {
		t.Error(n)
	}
}

// P14.1: ops, and what they name, and what they let be.
func TestDecode(t *testing.T) {
	for _, x := range []struct {
		b [4]byte
		e api.Errno
	}{
		{[4]byte{0, 0, 0, 0}, api.OK}, {[4]byte{0, 255, 255, 255}, api.OK},
		{[4]byte{1, 7, 255, 255}, api.OK}, {[4]byte{1, 8, 0, 0}, api.ErrOp}, {[4]byte{1, 255, 0, 0}, api.ErrOp},
		{[4]byte{2, 7, 7, 7}, api.OK}, {[4]byte{2, 8, 7, 7}, api.ErrOp}, {[4]byte{2, 7, 8, 7}, api.ErrOp}, {[4]byte{2, 7, 7, 8}, api.ErrOp},
		{[4]byte{3, 7, 7, 7}, api.OK}, {[4]byte{3, 8, 7, 7}, api.ErrOp}, {[4]byte{3, 7, 8, 7}, api.ErrOp}, {[4]byte{3, 7, 7, 8}, api.ErrOp},
		{[4]byte{4, 7, 7, 7}, api.OK}, {[4]byte{4, 8, 7, 7}, api.ErrOp}, {[4]byte{4, 7, 8, 7}, api.ErrOp}, {[4]byte{4, 7, 7, 8}, api.ErrOp},
		{[4]byte{5, 255, 255, 255}, api.OK}, {[4]byte{5, 8, 8, 8}, api.OK},
		{[4]byte{6, 7, 255, 255}, api.OK}, {[4]byte{6, 8, 0, 0}, api.ErrOp},
		{[4]byte{7, 7, 255, 255}, api.OK}, {[4]byte{7, 8, 0, 0}, api.ErrOp},
		{[4]byte{8, 0, 0, 0}, api.ErrOp}, {[4]byte{9, 0, 0, 0}, api.ErrOp}, {[4]byte{15, 0, 0, 0}, api.ErrOp}, {[4]byte{16, 0, 0, 0}, api.ErrOp},
		{[4]byte{17, 255, 255, 255}, api.OK}, {[4]byte{18, 8, 0, 0}, api.OK}, {[4]byte{38, 255, 255, 255}, api.OK}, {[4]byte{39, 0, 0, 0}, api.ErrOp}, {[4]byte{255, 0, 0, 0}, api.ErrOp},
	} {
		want := api.Instr{Op: api.Op(x.b[0]), A: x.b[1], B: x.b[2], C: x.b[3]}
		if x.e != api.OK {
			want = api.Instr{}
		}
		if got, e := Decode(x.b[:], 0); got != want || e != x.e {
			t.Errorf("%v: %v, %v; want %v, %v", x.b, got, e, want, x.e)
		}
	}
	every(func(b []byte) { isDecoded(t, b, 0) })
}

// P14.1: each pc of programs that end with whole instructions, and that do not; ErrNone at the end alone.
func TestDecodePlaces(t *testing.T) {
	far := []int{math.MinInt, math.MinInt + 1, -1 << 62, -1 << 61, -4, -2, -1, 1 << 30, 1 << 31, 1 << 32, 1 << 60, 1 << 61, 1<<61 + 1, 1 << 62, 1<<62 + 1, 1<<62 + 2, 3 << 61, math.MaxInt / 4, math.MaxInt - 1, math.MaxInt}
	rnd := rand.New(rand.NewPCG(141, 142))
	for long := range 30 {
		for range 20 {
			b := program(rnd, long)
			for pc := -3; pc < 12; pc++ {
				isDecoded(t, b, pc)
			}
			for _, pc := range far {
				isDecoded(t, b, pc)
			}
		}
	}
	for _, x := range []struct {
		long, pc int
		e        api.Errno
	}{
		{0, 0, api.ErrNone}, {0, 1, api.ErrOp}, {0, -1, api.ErrOp}, {1, 0, api.ErrOp}, {3, 0, api.ErrOp}, {3, 1, api.ErrOp}, {4, 0, api.OK}, {4, 1, api.ErrNone}, {4, 2, api.ErrOp}, {4, -1, api.ErrOp},
		{5, 0, api.OK}, {5, 1, api.ErrOp}, {5, 2, api.ErrOp}, {7, 1, api.ErrOp}, {8, 1, api.OK}, {8, 2, api.ErrNone}, {8, 3, api.ErrOp}, {1024, 255, api.OK}, {1024, 256, api.ErrNone}, {1 << 20, 1<<18 - 1, api.OK}, {1 << 20, 1 << 18, api.ErrNone},
	} {
		if in, e := Decode(make([]byte, x.long), x.pc); in != (api.Instr{}) || e != x.e {
			t.Errorf("%d bytes, at %d: %v, %v; want %v", x.long, x.pc, in, e, x.e)
		}
	}
	if x, e := Decode(nil, 0); x != (api.Instr{}) || e != api.ErrNone {
		t.Error(x, e)
	}
}

// program is random bytes: many of instructions, some with faults, and some of none.
func program(rnd *rand.Rand, long int) []byte {
	b := make([]byte, long)
	for at := range b {
		if at%4 == 0 {
			b[at] = byte(rnd.IntN(42))
			continue
		}
		switch rnd.IntN(8) {
		case 0:
			b[at] = byte(rnd.IntN(256))
		case 1, 2, 3:
			b[at] = byte(rnd.IntN(9))
		}
	}
	return b
}

// P14.1: bytes of none, of one, and of several; whatever these are.
func TestBytes(t *testing.T) {
	if b := Bytes(); len(b) != 0 {
		t.Error(b)
	}
	if b := Bytes([]api.Instr{}...); len(b) != 0 {
		t.Error(b)
	}
	one, two := api.Instr{Op: api.OpAdd, A: 1, B: 2, C: 3}, api.Instr{Op: 255, A: 254, B: 253, C: 252}
	for _, x := range []struct {
		l []api.Instr
		b []byte
	}{
		{[]api.Instr{{}}, []byte{0, 0, 0, 0}}, {[]api.Instr{one}, []byte{2, 1, 2, 3}}, {[]api.Instr{two}, []byte{255, 254, 253, 252}},
		{[]api.Instr{one, two}, []byte{2, 1, 2, 3, 255, 254, 253, 252}}, {[]api.Instr{two, {}, one}, []byte{255, 254, 253, 252, 0, 0, 0, 0, 2, 1, 2, 3}},
	} {
		was := slices.Clone(x.l)
		if b := Bytes(x.l...); !bytes.Equal(b, x.b) {
			t.Errorf("bytes(%v): %v", x.l, b)
		}
		if !slices.Equal(x.l, was) {
			t.Errorf("bytes(%v) made %v of it", was, x.l)
		}
	}
}

// P14.1: the bytes are the caller's own.
func TestBytesAreNew(t *testing.T) {
	x := api.Instr{Op: api.OpAdd, A: 1, B: 2, C: 3}
	one, two := Bytes(x, x), Bytes(x, x)
	one[0], one[5] = 9, 9
	if !bytes.Equal(two, []byte{2, 1, 2, 3, 2, 1, 2, 3}) || !bytes.Equal(Bytes(x), two[:4]) {
		t.Error(two)
	}
}

// P14.1: whole four bytes alone count, whatever they are.
func TestLen(t *testing.T) {
	for long, want := range []int{0, 0, 0, 0, 1, 1, 1, 1, 2, 2, 2, 2, 3} {
		if n := Len(bytes.Repeat([]byte{255}, long)); n != want {
			t.Errorf("%d bytes: %d", long, n)
		}
	}
	for long, want := range map[int]int{1023: 255, 1024: 256, 1025: 256, 1 << 20: 1 << 18, 1<<20 + 3: 1 << 18} {
		if n := Len(make([]byte, long)); n != want {
			t.Errorf("%d bytes: %d", long, n)
		}
	}
	if n := Len(nil); n != 0 {
		t.Error(n)
	}
}

// P14.1: of all B and C; whatever stands in the rest.
func TestNumberAndJump(t *testing.T) {
	for _, x := range []struct {
		b, c         byte
		number, jump int
	}{
		{0, 0, 0, 0}, {0, 1, 1, 1}, {0, 255, 255, 255}, {1, 0, 256, 256}, {1, 2, 258, 258}, {127, 255, 32767, 32767}, {128, 0, 32768, -32768}, {128, 1, 32769, -32767}, {255, 254, 65534, -2}, {255, 255, 65535, -1}, {255, 0, 65280, -256},
	} {
		in := api.Instr{B: x.b, C: x.c}
		if n, d := Number(in), Jump(in); n != x.number || d != x.jump {
			t.Errorf("%v: %d, %d", in, n, d)
		}
	}
	for n := range 65536 {
		for _, x := range []api.Instr{{}, {Op: api.OpConst, A: 7}, {Op: api.OpJump}, {Op: 255, A: 255}} {
			x.B, x.C = byte(n/256), byte(n%256)
			if Number(x) != n || Jump(x) != wideOf("distance", x.B, x.C) {
				t.Fatalf("%v: %d, %d", x, Number(x), Jump(x))
			}
		}
	}
}

// P14.3: what Bytes made of instructions is decoded as these, or is told to be none; behind them is the end.
func TestBytesAreDecoded(t *testing.T) {
	rnd := rand.New(rand.NewPCG(143, 144))
	for range 2000 {
		var l []api.Instr
		for range rnd.IntN(40) {
			b := program(rnd, 4)
			l = append(l, api.Instr{Op: api.Op(b[0]), A: b[1], B: b[2], C: b[3]})
		}
		b := Bytes(l...)
		if Len(b) != len(l) || len(b) != 4*len(l) {
			t.Fatal(l, b)
		}
		for pc, want := range l {
			x, e := Decode(b, pc)
			switch {
			case e == api.OK && x == want && isOp(b[4*pc:4*pc+4]):
			case e == api.ErrOp && x == (api.Instr{}) && !isOp(b[4*pc:4*pc+4]):
			default:
				t.Fatalf("%v: %v, %v", want, x, e)
			}
		}
		if x, e := Decode(b, len(l)); e != api.ErrNone || x != (api.Instr{}) {
			t.Fatal(x, e)
		}
		if x, e := Decode(b, len(l)+1); e != api.ErrOp || x != (api.Instr{}) {
			t.Fatal(x, e)
		}
	}
}
