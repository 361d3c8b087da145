package gtable

import "helmsman/api"

// unknown is the name of what is no state.
const unknown = "?"

// names are those of all states.
var names = [...]string{
	api.Idle:      "idle",
	api.Runnable:  "runnable",
	api.Running:   "running",
	api.Parked:    "parked",
	api.Sleeping:  "sleeping",
	api.Suspended: "suspended",
	api.Throttled: "throttled",
}

// states are a set of them: each one that is in it has its bit.
type states uint8

// setOf is a set of these.
func setOf(l ...api.State) states {
	var x states
	for _, s := range l {
		x |= 1 << s
	}
	return x
}

// has: is it in the set? What is below 0 is no state, and nothing can be shifted by it.
func (x states) has(s api.State) bool { return s >= 0 && x>>s&1 == 1 }

// turns are those that may be: from each state the set of those to which one may turn.
func turns() map[api.State]states {
	return map[api.State]states{
		api.Runnable:  setOf(api.Running, api.Suspended, api.Throttled),
		api.Running:   setOf(api.Runnable, api.Parked, api.Sleeping, api.Suspended, api.Throttled),
		api.Parked:    setOf(api.Runnable, api.Suspended),
		api.Sleeping:  setOf(api.Runnable, api.Suspended),
		api.Suspended: setOf(api.Runnable),
		api.Throttled: setOf(api.Runnable, api.Suspended),
	}
}

// flag is the flag of who is so: as it was, where the state does not demand one.
func flag(s api.State, was bool) bool {
	switch s {
	case api.Suspended:
		return true
	case api.Runnable, api.Running:
		return false
	}
	return was
}

// live: is it a state of somebody who is there?
func live(s api.State) bool { return s >= api.Runnable && s <= api.Throttled }

// timely: may one be so till then? Nobody but a sleeper waits for a time.
func timely(s api.State, until uint64) bool {
	return until == 0 || s == api.Sleeping && until <= api.MaxTime
}

// May a goroutine be?
func May(g api.G) bool {
	return live(g.State) && timely(g.State, g.Until) && g.Program >= 0 && g.PC >= 0 && g.Suspended == flag(g.State, g.Suspended)
}

// Turns: may one turn so?
func Turns(from, to api.State) bool { return turns()[from].has(to) }

// Name is a state's.
func Name(s api.State) string {
	if s < 0 || int(s) >= len(names) {
		return unknown
	}
	return names[s]
}
