package code

import (
	"bytes"
	"math/rand/v2"
	"slices"
	"strconv"
	"strings"
	"testing"

	"helmsman/api"
)

// P14.2: the chapter's own example.
func TestTextExample(t *testing.T) {
	b := []byte{1, 2, 1, 0, 6, 3, 255, 254, 21, 0, 0, 0, 9, 9}
	const want = "const 2 256\nzero 3 -2\ncall 5\nraw 0909\n"
	if s := Text(b); s != want {
		t.Errorf("%q", s)
	}
	if got, e := Of(want); !bytes.Equal(got, b) || e != api.OK {
		t.Error(got, e)
	}
}

// isTold asks that a program's text is what it is to be, and that it is read again, if it is not too long.
func isTold(t *testing.T, b []byte) {
	t.Helper()
	was := slices.Clone(b)
	s := Text(b)
	if want := textOf(b); s != want {
		t.Fatalf("text(%v): %q; want %q", b, s, want)
	}
	if !bytes.Equal(b, was) {
		t.Fatalf("text(%v) made %v of it", was, b)
	}
	want, wrong := b, api.OK
	if len(b) > api.MaxProgram {
		want, wrong = nil, api.ErrLong
	}
	if got, e := Of(s); !bytes.Equal(got, want) || e != wrong {
		t.Fatalf("of %q: %v, %v; want %v, %v", s, got, e, want, wrong)
	}
}

// P14.2: lines of each op, at the edges of what it names; of what is none, or of which something more is not 0.
func TestLines(t *testing.T) {
	for _, x := range []struct {
		b    [4]byte
		line string
	}{
		{[4]byte{0, 0, 0, 0}, "nop"}, {[4]byte{0, 1, 0, 0}, "raw 00010000"}, {[4]byte{0, 0, 1, 0}, "raw 00000100"}, {[4]byte{0, 0, 0, 1}, "raw 00000001"}, {[4]byte{0, 0, 0, 255}, "raw 000000ff"},
		{[4]byte{1, 0, 0, 0}, "const 0 0"}, {[4]byte{1, 7, 255, 255}, "const 7 65535"}, {[4]byte{1, 3, 128, 0}, "const 3 32768"}, {[4]byte{1, 3, 0, 10}, "const 3 10"}, {[4]byte{1, 8, 0, 0}, "raw 01080000"},
		{[4]byte{2, 0, 0, 0}, "add 0 0 0"}, {[4]byte{2, 1, 2, 3}, "add 1 2 3"}, {[4]byte{2, 7, 7, 7}, "add 7 7 7"}, {[4]byte{2, 8, 0, 0}, "raw 02080000"}, {[4]byte{2, 0, 8, 0}, "raw 02000800"}, {[4]byte{2, 0, 0, 8}, "raw 02000008"},
		{[4]byte{3, 4, 5, 6}, "sub 4 5 6"}, {[4]byte{3, 0, 16, 0}, "raw 03001000"}, {[4]byte{4, 7, 0, 1}, "mul 7 0 1"}, {[4]byte{4, 0, 0, 255}, "raw 040000ff"},
		{[4]byte{5, 0, 0, 0}, "jump 0"}, {[4]byte{5, 0, 127, 255}, "jump 32767"}, {[4]byte{5, 0, 128, 0}, "jump -32768"}, {[4]byte{5, 0, 255, 255}, "jump -1"}, {[4]byte{5, 1, 0, 0}, "raw 05010000"}, {[4]byte{5, 1, 255, 255}, "raw 0501ffff"},
		{[4]byte{6, 0, 0, 0}, "zero 0 0"}, {[4]byte{6, 7, 128, 0}, "zero 7 -32768"}, {[4]byte{6, 7, 1, 0}, "zero 7 256"}, {[4]byte{6, 8, 0, 1}, "raw 06080001"},
		{[4]byte{7, 0, 0, 0}, "code 0"}, {[4]byte{7, 7, 0, 0}, "code 7"}, {[4]byte{7, 7, 1, 0}, "raw 07070100"}, {[4]byte{7, 7, 0, 1}, "raw 07070001"}, {[4]byte{7, 8, 0, 0}, "raw 07080000"},
		{[4]byte{8, 0, 0, 0}, "raw 08000000"}, {[4]byte{16, 0, 0, 0}, "raw 10000000"}, {[4]byte{17, 0, 0, 0}, "call 1"}, {[4]byte{26, 0, 0, 0}, "call 10"}, {[4]byte{38, 0, 0, 0}, "call 22"}, {[4]byte{39, 0, 0, 0}, "raw 27000000"},
		{[4]byte{17, 1, 0, 0}, "raw 11010000"}, {[4]byte{18, 0, 1, 0}, "raw 12000100"}, {[4]byte{38, 0, 0, 1}, "raw 26000001"}, {[4]byte{254, 220, 186, 152}, "raw fedcba98"}, {[4]byte{16, 50, 84, 118}, "raw 10325476"},
	} {
		if s := Text(x.b[:]); s != x.line+"\n" {
			t.Errorf("text(%v): %q; want %q", x.b, s, x.line)
		}
		if b, e := Of(x.line + "\n"); !bytes.Equal(b, x.b[:]) || e != api.OK {
			t.Errorf("of %q: %v, %v; want %v", x.line, b, e, x.b)
		}
	}
}

// P14.2, P14.3: whatever four bytes, and fewer.
func TestEachLine(t *testing.T) {
	every(func(b []byte) { isTold(t, b) })
	for x := range 256 {
		isTold(t, []byte{byte(x)})
		isTold(t, []byte{1, 0, 0, 0, byte(x)})
		for _, y := range []byte{0, 1, 9, 10, 15, 16, 127, 128, 255} {
			isTold(t, []byte{byte(x), y})
			isTold(t, []byte{y, byte(x), y})
			isTold(t, []byte{y, y, byte(x)})
		}
	}
	isTold(t, nil)
	isTold(t, []byte{})
}

// P14.2, P14.3: random programs of all lengths, those with more than MaxProgram bytes too: these are told, but not read.
func TestPrograms(t *testing.T) {
	rnd := rand.New(rand.NewPCG(145, 146))
	for long := range api.MaxProgram + 9 {
		isTold(t, program(rnd, long))
	}
	for range 3000 {
		isTold(t, program(rnd, rnd.IntN(60)))
		b := make([]byte, rnd.IntN(30))
		for at := range b {
			b[at] = byte(rnd.IntN(256))
		}
		isTold(t, b)
	}
	isTold(t, program(rnd, 100000))
}

// isRead asks that a text is read, if it is a program's; else that nothing is.
func isRead(t *testing.T, s string) {
	t.Helper()
	want, wrong := programOf(s)
	if b, e := Of(s); !bytes.Equal(b, want) || e != wrong {
		t.Fatalf("of %q: %v, %v; want %v, %v", s, b, e, want, wrong)
	}
}

// P14.2, P14.3: what is no program's text.
func TestNoText(t *testing.T) {
	for _, s := range []string{
		"\n", "\n\n", " ", " \n", "\x00", "\x00\n", "nop", "nop\n\n", "\nnop\n", "nop\nnop", "nop \n", " nop\n", "nop\r\n", "nop\t\n", "nop\v\n", "NOP\n", "Nop\n", "no\n", "nope\n", "nop 0\n", "nop\n \n", "nop;nop\n", "nop nop\n", "op\n", "noр\n", "nop\u00a0\n", "\ufeffnop\n", "halt\n", "0\n",
		"const\n", "const \n", "const 1\n", "const 1 \n", "const 1  2\n", "const  1 2\n", "const 1 2 \n", "const 1 2 3\n", "const 8 0\n", "const -1 0\n", "const 256 0\n", "const 1 -1\n", "const 1 65536\n", "const 1 65537\n", "const 1 131072\n", "const 01 2\n", "const 1 02\n", "const 1 00\n", "const +1 2\n", "const 1 +2\n", "const 1 -0\n", "const 1 0x2\n", "const 1 1_0\n", "const 1 1e1\n", "const 1 1.0\n", "const 1 a\n", "const a 1\n", "const 1,2\n", "const 1\t2\n", "const 1\n2\n", "const1 2\n", "const 12\n",
		"const 1 18446744073709551616\n", "const 1 18446744073709551618\n", "const 1 4294967298\n", "const 18446744073709551617 2\n", "const 1 -18446744073709551614\n", "const 1 99999999999999999999999999999\n", "const 1 9223372036854775807\n", "const 1 9223372036854775808\n", "const 1 -9223372036854775808\n", "const 1 -9223372036854775809\n",
		"const 1 ٢\n", "const 1 ２\n", "cоnst 1 2\n", "const 1 2\u0301\n", "const 1 \xff\n", "\xff 1 2\n", "const \xb1 2\n",
		"add\n", "add 1\n", "add 1 2\n", "add 1 2 \n", "add 1 2 8\n", "add 1 8 2\n", "add 8 1 2\n", "add 1 2 3 4\n", "add 1 2 03\n", "add 1 2 -0\n", "add 1 2 256\n", "add 1 2 257\n", "sub 1 2\n", "sub 1 2 8\n", "sub 1 2 -1\n", "mul 9 9 9\n", "mul 1 2 3 \n", "div 1 2 3\n", "addi 1 2 3\n", "ad 1 2 3\n", "Add 1 2 3\n",
		"jump\n", "jump \n", "jump 32768\n", "jump -32769\n", "jump 65535\n", "jump -0\n", "jump +1\n", "jump 01\n", "jump -01\n", "jump --1\n", "jump - 1\n", "jump -\n", "jump \u22121\n", "jump -65535\n", "jump 65536\n", "jump 0 1\n", "jump 1 2\n", "jump 0 0 0\n", "jump -1 \n",
		"zero\n", "zero 1\n", "zero 8 1\n", "zero -1 1\n", "zero 1 32768\n", "zero 1 -32769\n", "zero 1 65534\n", "zero 1 -0\n", "zero 1 2 3\n",
		"code\n", "code 8\n", "code -1\n", "code 256\n", "code 1 0\n", "code 01\n", "code 0 0 0\n",
		"call\n", "call 0\n", "call -1\n", "call 23\n", "call -16\n", "call 01\n", "call 255\n", "call 256\n", "call 257\n", "call 1 0\n", "call 1 0 0 0\n", "call spawn\n", "call 17\n\n", "call 240\n", "call -9\n", "call -15\n",
		"raw\n", "raw \n", "raw 0\n", "raw 000\n", "raw 00000\n", "raw 0000000\n", "raw 000000000\n", "raw 0000000000\n", "raw 00 \n", "raw  00\n", "raw 00 00\n", "raw 0 0\n", "raw 0x00\n", "raw +0\n", "raw -0\n", "raw +000\n", "raw -001\n", "raw 0_0\n", "raw 0_00\n", "raw 0G\n", "raw 0g\n", "raw gg\n", "raw FF\n", "raw fF\n", "raw Ff\n", "raw 0A0A\n", "raw 8000000A\n", "Raw 00\n", "RAW 00\n", "raw00\n", "raw\t00\n", "raw 00", "raw\x0000\n", "raw 0\xb0\n", "raw é\n", "raw 1\u0301\n", "raw 00000001 \n", "raw fffffffff\n", "raw ffffffffff\n", "raw 0ffffffff\n", "raw 00ffffffff\n", "raw ffffffffffffffffffff\n", "raw 0000000000000000ffffffff\n",
		// bytes of which the line is another one
		"raw 00000000\n", "raw 01020304\n", "raw 02010203\n", "raw 0500ffff\n", "raw 0607fffe\n", "raw 07070000\n", "raw 11000000\n", "raw 26000000\n", "raw 15000000\n",
		// fewer bytes, of which more come behind
		"raw 00\nnop\n", "raw 00\nraw 00\n", "raw 0000\nraw 0000\n", "raw 000000\nraw 00\n", "raw 09\nraw 09090909\n", "nop\nraw 00\nnop\n", "raw 00\n\n", "raw 00\nraw\n", "raw 00\nnop",
		// a line that is none, behind, between and ahead of others
		"nop\nnope\n", "nope\nnop\n", "nop\nnope\nnop\n", "nop\nconst 1 2\nadd 1 2\n", "nop\n\nnop\n", "nop\njump 1", "nop\n\x00", "nop\nraw 00\n ",
	} {
		if _, e := programOf(s); e != api.ErrBytes {
			t.Fatalf("%q is one's", s)
		}
		isRead(t, s)
	}
}

// P14.2: ErrLong of more than MaxProgram bytes, whatever the text's length; ErrBytes comes ahead of it, wherever what is no line stands.
func TestLong(t *testing.T) {
	nops := strings.Repeat("nop\n", 256)
	raws := strings.Repeat("raw ffffffff\n", 256)
	for _, x := range []struct {
		s    string
		e    api.Errno
		long int
	}{
		{nops, api.OK, 1024}, {raws, api.OK, 1024}, {nops[4:], api.OK, 1020}, {nops[4:] + "raw 000000\n", api.OK, 1023}, {nops[4:] + "raw 00\n", api.OK, 1021}, {strings.Repeat("zero 7 -32768\n", 256), api.OK, 1024},
		{nops + "nop\n", api.ErrLong, 0}, {nops + "raw 00\n", api.ErrLong, 0}, {nops + "raw 000000\n", api.ErrLong, 0}, {raws + "raw ffffffff\n", api.ErrLong, 0}, {nops + nops, api.ErrLong, 0}, {nops + nops + raws + "raw 00\n", api.ErrLong, 0},
		{nops + "\n", api.ErrBytes, 0}, {nops + "nop", api.ErrBytes, 0}, {nops + "nop\nno\n", api.ErrBytes, 0}, {nops + nops + "nope\n", api.ErrBytes, 0}, {nops + nops + "nop", api.ErrBytes, 0}, {nops + "raw 00\nraw 00\n", api.ErrBytes, 0}, {nops + "raw 00\nnop\n", api.ErrBytes, 0},
		{"nope\n" + nops + nops, api.ErrBytes, 0}, {nops[4:] + "raw 00\nnop\n", api.ErrBytes, 0}, {nops[4:] + "raw 00\nraw 00\nnop\n", api.ErrBytes, 0}, {nops + "nop\nraw 00000000\n" + nops, api.ErrBytes, 0}, {nops + "nop\n\n", api.ErrBytes, 0},
	} {
		if b, e := Of(x.s); len(b) != x.long || e != x.e {
			t.Errorf("%d bytes of text: %d bytes, %v; want %d, %v", len(x.s), len(b), e, x.long, x.e)
		}
		isRead(t, x.s)
	}
}

// P14.2: texts that are very long end, too.
func TestVeryLong(t *testing.T) {
	for s, want := range map[string]api.Errno{
		strings.Repeat("nop\n", 1<<18): api.ErrLong, strings.Repeat("nop ", 1<<18) + "\n": api.ErrBytes, strings.Repeat("\n", 1<<20): api.ErrBytes, strings.Repeat(" ", 1<<20): api.ErrBytes, "raw " + strings.Repeat("f", 1<<20) + "\n": api.ErrBytes,
		"const 1 " + strings.Repeat("9", 1<<20) + "\n": api.ErrBytes, "const 1 " + strings.Repeat("0", 1<<20) + "\n": api.ErrBytes, strings.Repeat("nop\n", 1<<18) + "x": api.ErrBytes, strings.Repeat("\xff", 1<<20): api.ErrBytes, "raw " + strings.Repeat("0", 1<<20) + "ff\n": api.ErrBytes,
	} {
		if b, e := Of(s); len(b) != 0 || e != want {
			t.Errorf("%.12q and so on: %d bytes, %v; want %v", s, len(b), e, want)
		}
	}
}

// P14.3: texts of programs with a byte left out, put in, twice, or another one, and with lines cut, swapped and joined.
func TestNearlyTexts(t *testing.T) {
	rnd := rand.New(rand.NewPCG(147, 148))
	const known = "0123456789abcdef- \n\r\tNnopcstaduml+x_\x00\xff"
	for range 60000 {
		s := textOf(program(rnd, rnd.IntN(14)))
		for range 1 + rnd.IntN(2) {
			at, to := rnd.IntN(len(s)+1), rnd.IntN(len(s)+1)
			other := known[rnd.IntN(len(known)):][:1]
			switch from, up := min(at, to), max(at, to); rnd.IntN(5) {
			case 0:
				s = s[:at] + other + s[at:]
			case 1:
				s = s[:at] + s[min(at+1, len(s)):]
			case 2:
				s = s[:at] + other + s[min(at+1, len(s)):]
			case 3:
				s = s[:from] + s[up:]
			case 4:
				s = s[:up] + s[from:]
			}
		}
		isRead(t, s)
	}
}

// P14.3: each number behind each word: those that may be are read, and no other one.
func TestNumbers(t *testing.T) {
	for n := -70000; n <= 70000; n++ {
		for _, word := range []string{"const 7", "jump", "zero 0"} {
			isRead(t, numbered(word, n))
		}
	}
	for n := -600; n <= 600; n++ {
		for _, word := range []string{"nop", "const", "add", "add 1", "add 1 2", "add 7 7 7", "sub 0 0", "mul 0 0", "zero", "code", "call", "raw", "raw 0", "raw 00", "raw 0000", "raw ff0000"} {
			isRead(t, numbered(word, n))
			isRead(t, strings.Replace(numbered(word, n), word, word+" 0", 1))
			isRead(t, strings.Replace(numbered(word, n), " ", "", 1))
		}
	}
}

// P14.2: the program is the caller's own.
func TestProgramIsNew(t *testing.T) {
	const s = "const 2 256\nraw 0909\n"
	one, _ := Of(s)
	two, _ := Of(s)
	one[0], one[5] = 8, 8
	if want := []byte{1, 2, 1, 0, 9, 9}; !bytes.Equal(two, want) {
		t.Error(two)
	}
	b := []byte{1, 2, 1, 0}
	text := Text(b)
	b[0] = 255
	if text != "const 2 256\n" {
		t.Error(text)
	}
}

// numbered is a line of a word and a number.
func numbered(word string, n int) string {
	return word + " " + strconv.Itoa(n) + "\n"
}
