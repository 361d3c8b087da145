package code

import (
	"fmt"
	"regexp"
	"strings"
	"sync"
	"testing"

	"helmsman/api"
)

// published is the chapter's table, word by word: the ops; what they name; their lines.
const published = `OpNop 0 | nothing | nop
OpConst 1 | the register A; the number B * 256 + C | const A N
OpAdd 2, OpSub 3, OpMul 4 | the registers A, B, C | add A B C, sub A B C, mul A B C
OpJump 5 | the distance | jump N
OpZero 6 | the register A; the distance | zero A N
OpCode 7 | the register A | code A
OpCall + k (17 to 38) | nothing | call K`

// told is an op as a row of the published table tells it.
type told struct {
	op        int
	registers string // those of A, B, C that name a register
	wide      string // "number" or "distance", or nothing
	line      string
}

// rows are the table's, by ops.
var rows = sync.OnceValue(func() map[int]told {
	m := map[int]told{}
	for _, row := range strings.Split(published, "\n") {
		cells := strings.Split(row, " | ")
		x := told{}
		if _, after, is := strings.Cut(cells[1], "register"); is {
			after, _, _ = strings.Cut(strings.TrimLeft(after, "s "), ";")
			x.registers = strings.ReplaceAll(after, ", ", "")
		}
		for _, word := range []string{"number", "distance"} {
			if strings.Contains(cells[1], word) {
				x.wide = word
			}
		}
		if strings.HasPrefix(cells[0], "OpCall") {
			var first, last int
			fmt.Sscanf(cells[0], "OpCall + k (%d to %d)", &first, &last)
			for x.op = first; x.op <= last; x.op++ {
				x.line = cells[2]
				m[x.op] = x
			}
			continue
		}
		lines := strings.Split(cells[2], ", ")
		for i, op := range strings.Split(cells[0], ", ") {
			fmt.Sscanf(op[strings.Index(op, " "):], "%d", &x.op)
			x.line = lines[i]
			m[x.op] = x
		}
	}
	return m
})

// wideOf is the number B * 256 + C, or the distance.
func wideOf(kind string, b, c byte) int {
	n := int(b)*256 + int(c)
	if kind == "distance" && n > 32767 {
		n -= 65536
	}
	return n
}

// isOp: are four bytes an instruction?
func isOp(b []byte) bool {
	x, is := rows()[int(b[0])]
	for at, letter := range "ABC" {
		if strings.ContainsRune(x.registers, letter) && b[1+at] > 7 {
			return false
		}
	}
	return is
}

// allTold: is nothing but 0 in what an instruction does not name?
func allTold(b []byte) bool {
	x := rows()[int(b[0])]
	for at, letter := range "ABC" {
		names := strings.ContainsRune(x.registers, letter) || x.wide != "" && letter != 'A'
		if !names && b[1+at] != 0 {
			return false
		}
	}
	return true
}

// lineOf is the line of bytes: of an instruction's four, or of those that are none.
func lineOf(b []byte) string {
	if len(b) != 4 || !isOp(b) || !allTold(b) {
		return fmt.Sprintf("raw %x", b)
	}
	x := rows()[int(b[0])]
	var parts []string
	for i, part := range strings.Fields(x.line) {
		switch {
		case i == 0:
		case part == "K":
			part = fmt.Sprint(b[0] - 16)
		case part == "N":
			part = fmt.Sprint(wideOf(x.wide, b[2], b[3]))
		default:
			part = fmt.Sprint(b[1+strings.Index("ABC", part)])
		}
		parts = append(parts, part)
	}
	return strings.Join(parts, " ")
}

// textOf is a program's text.
func textOf(b []byte) string {
	var text strings.Builder
	for ; len(b) > 4; b = b[4:] {
		text.WriteString(lineOf(b[:4]) + "\n")
	}
	if len(b) > 0 {
		text.WriteString(lineOf(b) + "\n")
	}
	return text.String()
}

// decoded is what Decode is to answer.
func decoded(b []byte, pc int) (api.Instr, api.Errno) {
	for at := 0; pc >= 0 && at <= len(b); at, pc = at+4, pc-1 {
		switch {
		case pc > 0:
		case at == len(b):
			return api.Instr{}, api.ErrNone
		case at+4 > len(b) || !isOp(b[at:at+4]):
			return api.Instr{}, api.ErrOp
		default:
			return api.Instr{Op: api.Op(b[at]), A: b[at+1], B: b[at+2], C: b[at+3]}, api.OK
		}
	}
	return api.Instr{}, api.ErrOp
}

// every goes over four bytes of each op, with what stands in A, B, C at the edges, and over all numbers of B and C.
func every(do func(b []byte)) {
	edges := []byte{0, 1, 2, 6, 7, 8, 9, 15, 16, 127, 128, 255}
	for op := range 256 {
		for _, a := range edges {
			for _, b := range edges {
				for _, c := range edges {
					do([]byte{byte(op), a, b, c})
				}
			}
		}
	}
	for _, op := range []byte{1, 5, 6} {
		for a := range byte(9) {
			for n := range 65536 {
				do([]byte{op, a, byte(n / 256), byte(n % 256)})
			}
		}
	}
	for _, op := range []byte{2, 3, 4} {
		for n := range 9 * 9 * 9 {
			do([]byte{op, byte(n / 81), byte(n / 9 % 9), byte(n % 9)})
		}
	}
	for a := range 256 {
		do([]byte{7, byte(a), 0, 0})
	}
}

// lines are those of all instructions that are told by an own line, and their bytes.
var lines = sync.OnceValue(func() map[string][4]byte {
	m := map[string][4]byte{}
	every(func(b []byte) {
		if s := lineOf(b); !strings.HasPrefix(s, "raw") {
			m[s] = [4]byte(b)
		}
	})
	return m
})

var rawLine = regexp.MustCompile(`^raw ([0-9a-f]{2}){1,4}$`)

// bytesOf is the bytes of a line, or none: it is looked up among all those of instructions.
func bytesOf(line string) []byte {
	if b, is := lines()[line]; is {
		return b[:]
	}
	if !rawLine.MatchString(line) {
		return nil
	}
	var b []byte
	fmt.Sscanf(line, "raw %x", &b)
	if len(b) == 4 && isOp(b) && allTold(b) {
		return nil
	}
	return b
}

// programOf is what Of is to answer.
func programOf(s string) ([]byte, api.Errno) {
	if s == "" {
		return nil, api.OK
	}
	if !strings.HasSuffix(s, "\n") {
		return nil, api.ErrBytes
	}
	var program []byte
	all := strings.Split(strings.TrimSuffix(s, "\n"), "\n")
	for i, line := range all {
		b := bytesOf(line)
		if b == nil || len(b) < 4 && i < len(all)-1 {
			return nil, api.ErrBytes
		}
		program = append(program, b...)
	}
	if len(program) > 1024 {
		return nil, api.ErrLong
	}
	return program, api.OK
}

// The table that all is held against is whole.
func TestPublished(t *testing.T) {
	if len(rows()) != 8+22 {
		t.Fatal(rows())
	}
	for op, want := range map[int]told{
		0: {0, "", "", "nop"}, 1: {1, "A", "number", "const A N"}, 2: {2, "ABC", "", "add A B C"}, 3: {3, "ABC", "", "sub A B C"}, 4: {4, "ABC", "", "mul A B C"},
		5: {5, "", "distance", "jump N"}, 6: {6, "A", "distance", "zero A N"}, 7: {7, "A", "", "code A"}, 17: {17, "", "", "call K"}, 38: {38, "", "", "call K"},
	} {
		if rows()[op] != want {
			t.Error(rows()[op])
		}
	}
	// nop; const; add, sub, mul; jump; zero; code; calls
	if want := 1 + 8*65536 + 3*512 + 65536 + 8*65536 + 8 + 22; len(lines()) != want {
		t.Error(len(lines()), want)
	}
}
