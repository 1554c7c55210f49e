package run

import (
	"portolan/api"
	"portolan/kind"
)

// act is a function under way: where its next instruction is, what its variables have, and which of them what it has called is to set.
type act struct {
	f    api.Func
	next api.Place
	vars []api.Val
	want int
}

// course is a run under way. The last one of its acts runs.
type course struct {
	p     api.Prog
	acts  []act
	heap  api.Heap
	trace api.Trace
	steps int
}

// after is the run of p behind so many steps, or as it ended. What may not be run takes no step, so that none finds less than it asks for.
func after(p api.Prog, fuel int) course {
	if kind.Check(p) != api.OK {
		return course{}
	}
	c := course{p: p}
	c.begin(0, nil)
	for c.steps < min(fuel, api.MaxFuel) && c.trace.End == api.EndFuel {
		c.step()
	}
	return c
}

// step is one more step.
func (c *course) step() {
	c.steps++
	if e := c.do(c.fetch()); e != api.OK {
		c.trace.End, c.trace.Code = api.EndTrap, e
	}
}

// fetch is the next instruction of the function that runs, which goes on behind it.
func (c *course) fetch() api.Ins {
	a := c.last()
	x := a.f.Blocks[a.next.Block].Code[a.next.At]
	a.next.At++
	return x
}

// do does what an instruction says. Where there is an error, nothing is done.
func (c *course) do(x api.Ins) api.Errno {
	a := c.last()
	switch x.Op {
	case api.OpStoreInt, api.OpStoreRef, api.OpStoreDer:
		return c.store(a.vars, x)
	case api.OpCall:
		return c.call(x)
	case api.OpPrint:
		c.trace.Events = append(c.trace.Events, a.vars[x.A].N)
	case api.OpJump:
		a.next = api.Place{Block: x.N}
	case api.OpBranch:
		a.next = api.Place{Block: branch(a.vars[x.A].N, x)}
	case api.OpReturn:
		c.answer(a.vars[x.A])
	default:
		v, e := c.value(a.vars, x)
		if e != api.OK {
			return e
		}
		a.vars[x.D] = v
	}
	return api.OK
}

// branch is the block that a branch on n leads to.
func branch(n int, x api.Ins) int {
	if n != 0 {
		return x.N
	}
	return x.M
}

// last is the function that runs.
func (c *course) last() *act {
	return &c.acts[len(c.acts)-1]
}

// begin has the function n run, beside a frame of its own.
func (c *course) begin(n int, args []api.Val) {
	f := c.p.Funcs[n]
	vars := make([]api.Val, len(f.Kinds))
	copy(vars, args)
	c.acts = append(c.acts, act{f: f, vars: vars})
}

// call begins the function that x calls.
func (c *course) call(x api.Ins) api.Errno {
	if len(c.acts) >= api.MaxDepth {
		return api.ErrDeep
	}
	a := c.last()
	a.want = x.D
	args := make([]api.Val, len(x.Args))
	for i, v := range x.Args {
		args[i] = a.vars[v]
	}
	c.begin(x.N, args)
	return api.OK
}

// answer ends the function that runs: v is what it answers to the one below it, or to all the world.
func (c *course) answer(v api.Val) {
	c.acts = c.acts[:len(c.acts)-1]
	if len(c.acts) == 0 {
		c.trace.End, c.trace.Value = api.EndHalt, v.N
		return
	}
	a := c.last()
	a.vars[a.want] = v
}
