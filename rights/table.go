package rights

import "helmsman/api"

// anyKind is demanded where a capability of whichever kind will do.
const anyKind api.Kind = 0

// noRight is demanded where whichever rights will do.
const noRight api.Rights = 0

// call is a call's name, and how many registers it looks at.
type call struct {
	name      string
	registers int
}

// calls are all of them, by their kinds; at 0 is none.
var calls = [...]call{
	api.SysYield:    {"yield", 0},
	api.SysExit:     {"exit", 0},
	api.SysPark:     {"park", 0},
	api.SysSleep:    {"sleep", 1},
	api.SysSpawn:    {"spawn", 4},
	api.SysWake:     {"wake", 1},
	api.SysKill:     {"kill", 1},
	api.SysSuspend:  {"suspend", 1},
	api.SysResume:   {"resume", 1},
	api.SysAffinity: {"affinity", 2},
	api.SysBind:     {"bind", 2},
	api.SysMint:     {"mint", 3},
	api.SysCopy:     {"copy", 2},
	api.SysMove:     {"move", 2},
	api.SysDelete:   {"delete", 1},
	api.SysRevoke:   {"revoke", 1},
	api.SysGive:     {"give", 3},
	api.SysSplit:    {"split", 3},
	api.SysDonate:   {"donate", 3},
	api.SysCarve:    {"carve", 5},
	api.SysMerge:    {"merge", 1},
	api.SysDrop:     {"drop", 1},
}

func need(arg int, kind api.Kind, r api.Rights) api.Need {
	return api.Need{Arg: arg, Kind: kind, Rights: r}
}

// demands are those of all calls that demand something. The map is made anew each time, so that each caller's lists are its own.
func demands() map[api.CallKind][]api.Need {
	return map[api.CallKind][]api.Need{
		api.SysSpawn:    {need(0, api.KindDomain, api.RightSpawn), need(1, api.KindContext, api.RightDonate)},
		api.SysWake:     {need(0, api.KindG, api.RightWake)},
		api.SysKill:     {need(0, api.KindG, api.RightKill)},
		api.SysSuspend:  {need(0, api.KindG, api.RightSuspend)},
		api.SysResume:   {need(0, api.KindG, api.RightSuspend)},
		api.SysAffinity: {need(0, api.KindG, api.RightAffinity)},
		api.SysBind:     {need(0, api.KindG, api.RightDonate), need(1, api.KindContext, api.RightDonate)},
		api.SysMint:     {need(0, anyKind, api.RightMint)},
		api.SysCopy:     {need(0, anyKind, api.RightMint)},
		api.SysMove:     {need(0, anyKind, noRight)},
		api.SysDelete:   {need(0, anyKind, noRight)},
		api.SysRevoke:   {need(0, anyKind, api.RightRevoke)},
		api.SysGive:     {need(0, api.KindG, api.RightDonate), need(1, anyKind, api.RightMint)},
		api.SysSplit:    {need(0, api.KindContext, api.RightDonate)},
		api.SysDonate:   {need(0, api.KindContext, api.RightDonate), need(1, api.KindContext, api.RightDonate)},
		api.SysCarve:    {need(0, api.KindDomain, api.RightSpawn)},
		api.SysMerge:    {need(0, api.KindDomain, api.RightRevoke)},
		api.SysDrop:     {need(0, api.KindContext, api.RightRevoke)},
	}
}

// row is a call's; of what is no call an empty one.
func row(k api.CallKind) call {
	if k < api.SysYield || k > api.SysDrop {
		return call{}
	}
	return calls[k]
}

// Demands is what a call demands.
func Demands(k api.CallKind) []api.Need { return demands()[k] }

// Args is how many registers it looks at.
func Args(k api.CallKind) int { return row(k).registers }

// Name is its name.
func Name(k api.CallKind) string { return row(k).name }

// Of is the call of a name, and is there one?
func Of(name string) (api.CallKind, bool) {
	for k := api.SysYield; k <= api.SysDrop; k++ {
		if calls[k].name == name {
			return k, true
		}
	}
	return 0, false
}
