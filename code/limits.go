package code

import "portolan/api"

// limits has for each count the closure that says whether it may be, so that both ways ask the same ones.
type limits struct {
	funcs, vars, blocks, code, args func(n int) bool
}

// countLimits makes the limits of a program's counts.
func countLimits() limits {
	from := func(least, most int) func(n int) bool {
		return func(n int) bool { return least <= n && n <= most }
	}
	return limits{
		funcs:  from(1, api.MaxFuncs),
		vars:   from(0, api.MaxVars),
		blocks: from(0, api.MaxBlocks),
		code:   from(0, api.MaxCode),
		args:   from(0, api.MaxArgs),
	}
}

// prog tells whether all counts of p may be.
func (may limits) prog(p api.Prog) bool {
	if !may.funcs(len(p.Funcs)) {
		return false
	}
	for _, f := range p.Funcs {
		if !may.function(f) {
			return false
		}
	}
	return true
}

// function tells whether all counts of f may be.
func (may limits) function(f api.Func) bool {
	if !may.vars(len(f.Kinds)) || !may.blocks(len(f.Blocks)) {
		return false
	}
	for _, b := range f.Blocks {
		if !may.block(b) {
			return false
		}
	}
	return true
}

// block tells whether all counts of b may be. Args of what is no call aren't counted: they are a fault of another kind.
func (may limits) block(b api.Block) bool {
	if !may.code(len(b.Code)) {
		return false
	}
	for _, x := range b.Code {
		if x.Op == api.OpCall && !may.args(len(x.Args)) {
			return false
		}
	}
	return true
}
