package sample

import (
	"slices"

	"portolan/api"
	"portolan/kind"
	"portolan/point"
)

// Laid is programs that may be run, as layer 14 lays them: those of Programs and of Runs that may be laid.
func Laid() []api.Prog {
	var all []api.Prog
	for _, p := range slices.Concat(Programs(), Runs()) {
		if kind.Check(p) != api.OK {
			continue
		}
		if p, e := point.Whole(p); e == api.OK {
			all = append(all, p)
		}
	}
	return all
}
