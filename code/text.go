package code

import (
	"slices"
	"strconv"
	"strings"

	"helmsman/api"
)

// raw is the word of bytes that are told as they are.
const raw = "raw"

// A line's parts have a blank between them, and the line an end.
const (
	blank = " "
	end   = "\n"
)

// digits are those of bytes that are told as they are, two of each byte.
const digits = "0123456789abcdef"

// bytesLine is the line of bytes that are told as they are.
func bytesLine(b []byte) string {
	line := []byte(raw + blank)
	for _, x := range b {
		line = append(line, digits[x>>4], digits[x&15])
	}
	return string(line)
}

// line is that of an instruction's bytes, or of bytes that are none's.
func line(all map[api.Op]form, b []byte) string {
	if len(b) != size || !isOne(all, four(b)) {
		return bytesLine(b)
	}
	x := four(b)
	f, _ := formOf(all, x.Op)
	text, rest := f.word, x
	for _, letter := range f.names {
		text += blank + strconv.Itoa(named(x, letter))
		rest = with(rest, letter, 0)
	}
	// What the line does not tell could not be read again.
	if rest.A|rest.B|rest.C != 0 {
		return bytesLine(b)
	}
	return text
}

// Text is a program's text.
func Text(b []byte) string {
	all := forms()
	var text strings.Builder
	for chunk := range slices.Chunk(b, size) {
		text.WriteString(line(all, chunk) + end)
	}
	return text.String()
}

// instruction is that of which a line may be: what is no number, or does not fit, is another one, whose line is another.
func instruction(all map[api.Op]form, s string) api.Instr {
	word, rest, _ := strings.Cut(s, blank)
	for op, f := range all {
		if f.word != word {
			continue
		}
		x := api.Instr{Op: op}
		for _, letter := range f.names {
			word, rest, _ = strings.Cut(rest, blank)
			n, _ := strconv.Atoi(word)
			x = with(x, letter, n)
		}
		return x
	}
	return api.Instr{}
}

// unraw is the bytes that digits tell, at most as many as an instruction has; of what is none's there may be any.
func unraw(s string) []byte {
	n, _ := strconv.ParseUint(s, 16, 64)
	b := make([]byte, min(len(s)/2, size))
	for at := len(b) - 1; at >= 0; at-- {
		b[at] = byte(n)
		n >>= 8
	}
	return b
}

// read is the bytes of a line, and is it one's? It is, if they are told by just that line.
func read(all map[api.Op]form, s string) ([]byte, bool) {
	var b []byte
	if told, is := strings.CutPrefix(s, raw+blank); is {
		b = unraw(told)
	} else {
		b = Bytes(instruction(all, s))
	}
	return b, len(b) > 0 && line(all, b) == s
}

// Of is the error, or the program of a text.
func Of(s string) ([]byte, api.Errno) {
	all := forms()
	var program []byte
	e := api.OK
lines:
	for s != "" {
		told, rest, ended := strings.Cut(s, end)
		b, is := read(all, told)
		switch {
		case !ended, !is, len(b) < size && rest != "":
			e = api.ErrBytes
			break lines
		case len(program)+len(b) > api.MaxProgram:
			// What comes behind may still be no line.
			e = api.ErrLong
		default:
			program = append(program, b...)
		}
		s = rest
	}
	if e != api.OK {
		return nil, e
	}
	return program, api.OK
}
