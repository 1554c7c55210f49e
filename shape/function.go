package shape

import (
	"slices"

	"portolan/api"
)

// noBase stands in the place of a base, of what is no Der.
const noBase = -1

// varsMay tells whether a function's variables may be.
func varsMay(f api.Func) bool {
	if len(f.Base) != len(f.Kinds) || len(f.Kinds) > api.MaxVars {
		return false
	}
	isRef := func(v int) bool {
		return within(v, 0, len(f.Kinds)-1) && f.Kinds[v] == api.Ref
	}
	for v, kind := range f.Kinds {
		if !baseMay(kind, f.Base[v], isRef) {
			return false
		}
	}
	return true
}

// baseMay tells whether a variable may be of that kind, and have that base.
func baseMay(kind, base int, isRef func(v int) bool) bool {
	if kind == api.Der {
		return isRef(base)
	}
	return isValue(kind) && base == noBase
}

// isValue tells whether a function may be handed, or answer, what is of that kind.
func isValue(kind int) bool {
	return kind == api.Int || kind == api.Ref
}

// paramsMay tells whether a function's Params may be.
func paramsMay(f api.Func) bool {
	if !within(f.Params, 0, min(api.MaxArgs, len(f.Kinds))) {
		return false
	}
	other := func(kind int) bool { return !isValue(kind) }
	return !slices.ContainsFunc(f.Kinds[:f.Params], other)
}

// blocksMay tells whether a function's blocks may be, but for their instructions' parts.
func blocksMay(l []api.Block) bool {
	if !within(len(l), 1, api.MaxBlocks) {
		return false
	}
	for _, b := range l {
		if !within(len(b.Code), 1, api.MaxCode) || !endsOnce(b.Code) {
			return false
		}
	}
	return true
}

// endsOnce tells whether the last instruction ends the block, and no other one does.
func endsOnce(l []api.Ins) bool {
	end := slices.IndexFunc(l, func(x api.Ins) bool { return Last(x.Op) })
	return end == len(l)-1
}
