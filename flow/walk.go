package flow

import "portolan/api"

// walk is a walk under way. It keeps a list of what isn't left yet, so that no call waits within another one, however many blocks there are.
type walk struct {
	f    api.Func
	met  []bool
	open []visit
	left []int
}

// visit is a block that isn't left yet, and those next to it that weren't tried yet.
type visit struct {
	block int
	next  []int
}

// walked is the blocks of a walk from the first block on, which is there, as they are left.
func walked(f api.Func) []int {
	w := walk{f: f, met: make([]bool, len(f.Blocks))}
	w.enter(0)
	for len(w.open) > 0 {
		w.step()
	}
	return w.left
}

// enter meets a block.
func (w *walk) enter(b int) {
	w.met[b] = true
	w.open = append(w.open, visit{b, Next(w.f, b)})
}

// step tries what comes next to the block that was met last, or leaves it.
func (w *walk) step() {
	top := &w.open[len(w.open)-1]
	if len(top.next) == 0 {
		w.left = append(w.left, top.block)
		w.open = w.open[:len(w.open)-1]
		return
	}
	b := top.next[0]
	top.next = top.next[1:]
	if !w.met[b] {
		w.enter(b)
	}
}
