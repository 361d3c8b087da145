package step

import (
	"math/big"
	"math/rand/v2"

	"helmsman/api"
)

// plan is what four bytes ask for, in the chapters' words: of register A a number to be, or a place to go to, or a call.
type plan struct {
	reg  int      // -1: none is to be anything
	be   *big.Int // what the register would be
	to   int      // which place comes next
	call int      // 0: none
}

// distance is B * 256 + C, less 65536 where that is above 32767.
func distance(b, c byte) int {
	n := 256*int(b) + int(c)
	if n > 32767 {
		n -= 65536
	}
	return n
}

func whole(n uint64) *big.Int { return new(big.Int).SetUint64(n) }

// planned is what an instruction asks for; is it one?
func planned(in []byte, g api.G) (plan, bool) {
	op, a, b, c := in[0], in[1], in[2], in[3]
	p := plan{reg: -1, to: g.PC + 1}
	switch op {
	case 1, 2, 3, 4, 6, 7:
		if a > 7 {
			return p, false
		}
	}
	switch op {
	case 2, 3, 4:
		if b > 7 || c > 7 {
			return p, false
		}
		p.reg, p.be = int(a), new(big.Int)
		y, z := whole(g.Regs[b]), whole(g.Regs[c])
		map[byte]func(y, z *big.Int) *big.Int{2: p.be.Add, 3: p.be.Sub, 4: p.be.Mul}[op](y, z)
	case 0:
	case 1:
		p.reg, p.be = int(a), big.NewInt(256*int64(b)+int64(c))
	case 5:
		p.to += distance(b, c)
	case 6:
		if g.Regs[a] == 0 {
			p.to += distance(b, c)
		}
	case 7:
		p.reg, p.be = int(a), big.NewInt(int64(g.Code))
	default:
		p.call = int(op) - 16
		return p, p.call >= 1 && p.call <= 22
	}
	return p, true
}

// stepped is what Do is to answer.
func stepped(b []byte, g api.G) (api.G, api.Call, api.Went) {
	places, rest := len(b)/4, len(b)%4
	if g.PC > places || g.PC == places && rest == 0 {
		return g, api.Call{}, api.WentOver
	}
	wrong := g
	wrong.PC++
	wrong.Code = api.ErrOp
	if g.PC < 0 || g.PC == places {
		return wrong, api.Call{}, api.WentBad
	}
	p, is := planned(b[4*g.PC:4*g.PC+4], g)
	if !is || p.to < 0 || p.to > places {
		return wrong, api.Call{}, api.WentBad
	}
	if p.reg >= 0 && !p.be.IsUint64() {
		wrong.Code = api.ErrOver
		return wrong, api.Call{}, api.WentBad
	}
	g.PC = p.to
	if p.reg >= 0 {
		g.Regs[p.reg] = p.be.Uint64()
	}
	if p.call == 0 {
		return g, api.Call{}, api.WentOn
	}
	r := g.Regs
	return g, api.Call{Kind: api.CallKind(p.call), Args: [api.Args]uint64{r[0], r[1], r[2], r[3], r[4]}}, api.WentCall
}

// ran is what Run is to answer.
func ran(b []byte, g api.G, most int) (api.G, api.Call, api.Went, int) {
	for n := 1; n <= most; n++ {
		after, call, went := stepped(b, g)
		if went == api.WentCall || went == api.WentOver || n == most {
			return after, call, went, n
		}
		g = after
	}
	return g, api.Call{}, api.WentOn, 0
}

// edges are numbers around which something fits, or does not.
var edges = []uint64{0, 1, 2, 3, 255, 1<<32 - 1, 1 << 32, 1<<32 + 1, 1<<63 - 1, 1 << 63, 1<<63 + 1, top - 2, top - 1, top}

// number is a random one: small, or of any length, or an edge.
func number(rnd *rand.Rand) uint64 {
	switch rnd.IntN(4) {
	case 0:
		return uint64(rnd.IntN(4))
	case 1:
		return edges[rnd.IntN(len(edges))]
	}
	return rnd.Uint64() >> rnd.IntN(64)
}

// goroutine is a random one, whose fields are all set, so that none is changed without being seen.
func goroutine(rnd *rand.Rand, pc int) api.G {
	g := api.G{
		State: api.Running, Suspended: rnd.IntN(2) == 0, Domain: api.Ref{Index: 3, Gen: 5}, Context: api.Ref{Index: 4, Gen: 6},
		Affinity: uint8(1 + rnd.IntN(255)), Program: 7, PC: pc, Code: api.Errno(rnd.IntN(20) - 1), Until: 1 + rnd.Uint64N(1<<60),
	}
	for i := range g.Regs {
		g.Regs[i] = number(rnd)
	}
	return g
}

// program is random bytes: many of instructions whose jumps stay near, some with faults, and some of none.
func program(rnd *rand.Rand, long int) []byte {
	b := make([]byte, long)
	for at := 0; at+4 <= long; at += 4 {
		in := b[at : at+4]
		in[0] = byte(rnd.IntN(8))
		for i := range 3 {
			in[1+i] = byte(rnd.IntN(8))
		}
		near := rnd.IntN(9) - 5
		switch {
		case in[0] == 5 || in[0] == 6:
			in[2], in[3] = byte(near>>8), byte(near)
		case rnd.IntN(12) == 0:
			in[0] = byte(16 + rnd.IntN(24))
		}
		if rnd.IntN(12) == 0 {
			in[rnd.IntN(4)] = byte(rnd.IntN(256))
		}
	}
	for at := long / 4 * 4; at < long; at++ {
		b[at] = byte(rnd.IntN(256))
	}
	return b
}
