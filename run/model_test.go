package run_test

import (
	"fmt"
	"math/big"
	"slices"
	"testing"

	"portolan/api"
	"portolan/kind"
	"portolan/run"
	"portolan/sample"
)

// thing is an object of the model: it has no name, but is where it is.
type thing struct {
	refs []*thing
	ints []int
}

// held is what a variable has in the model: a number, or an object, or a place in one.
type held struct {
	n, at int
	to    *thing
}

// model is a run apart from the package: a function that is called is a call of the model's own.
type model struct {
	p           api.Prog
	left, steps int
	deep        int
	told        []int
	things      []*thing
}

// stop is thrown where a run ends, or has no more steps.
type stop struct {
	end, value int
	code       api.Errno
}

// modelled is what the model says of a run.
func modelled(p api.Prog, fuel int) (m *model, tr api.Trace) {
	m = &model{p: p, left: min(max(fuel, 0), 4000)}
	defer func() {
		s := recover().(stop)
		tr = api.Trace{Events: m.told, End: s.end, Value: s.value, Code: s.code}
	}()
	panic(stop{end: 1, value: m.function(0, nil).n})
}

// function is what a function answers.
func (m *model) function(n int, args []held) held {
	m.deep++
	defer func() { m.deep-- }()
	vars := map[int]held{}
	for v, x := range args {
		vars[v] = x
	}
	code := m.p.Funcs[n].Blocks[0].Code
	for {
		if m.left == 0 {
			panic(stop{})
		}
		m.left, m.steps = m.left-1, m.steps+1
		x := code[0]
		code = code[1:]
		switch x.Op {
		case 20:
			m.told = append(m.told, vars[x.A].n)
		case 21:
			code = m.p.Funcs[n].Blocks[x.N].Code
		case 22:
			to := x.N
			if vars[x.A].n == 0 {
				to = x.M
			}
			code = m.p.Funcs[n].Blocks[to].Code
		case 23:
			return vars[x.A]
		case 12, 14, 18:
			m.put(x, vars[x.A], vars[x.B])
		case 19:
			vars[x.D] = m.called(x, vars)
		default:
			vars[x.D] = m.made(x, vars[x.A], vars[x.B])
		}
	}
}

// called is what a call answers.
func (m *model) called(x api.Ins, vars map[int]held) held {
	m.must(m.deep < 60, 18)
	var args []held
	for _, v := range x.Args {
		args = append(args, vars[v])
	}
	return m.function(x.N, args)
}

// must ends the run by an error, unless something holds.
func (m *model) must(holds bool, e api.Errno) {
	if !holds {
		panic(stop{end: 2, code: e})
	}
}

// put puts b where x says.
func (m *model) put(x api.Ins, a, b held) {
	m.must(a.to != nil, 14)
	n := x.N
	if x.Op == 18 {
		n = a.at
	}
	if x.Op == 14 {
		m.must(n < len(a.to.refs), 15)
		a.to.refs[n] = b.to
		return
	}
	m.must(n >= 0 && n < len(a.to.ints), 15)
	a.to.ints[n] = b.n
}

// made is what D is.
func (m *model) made(x api.Ins, a, b held) held {
	if x.Op == 11 || x.Op == 13 || x.Op == 15 || x.Op == 17 {
		m.must(a.to != nil, 14)
	}
	switch x.Op {
	case 2:
		return a
	case 7:
		return held{}
	case 10:
		m.things = append(m.things, &thing{make([]*thing, x.N), make([]int, x.M)})
		return held{to: m.things[len(m.things)-1]}
	case 11:
		m.must(x.N < len(a.to.ints), 15)
		return held{n: a.to.ints[x.N]}
	case 13:
		m.must(x.N < len(a.to.refs), 15)
		return held{to: a.to.refs[x.N]}
	case 15:
		return held{at: x.N, to: a.to}
	case 16:
		return held{at: a.at + x.N, to: a.to}
	case 17:
		m.must(a.at >= 0 && a.at < len(a.to.ints), 15)
		return held{n: a.to.ints[a.at]}
	}
	return held{n: numbered(x, a, b)}
}

// numbered is the number that an instruction makes: of sums and the like, the one of 64 bits that goes round to it.
func numbered(x api.Ins, a, b held) int {
	p, q, z := big.NewInt(int64(a.n)), big.NewInt(int64(b.n)), new(big.Int)
	is := false
	switch x.Op {
	case 1:
		return x.N
	case 3:
		z.Add(p, q)
	case 4:
		z.Sub(p, q)
	case 5:
		z.Mul(p, q)
	case 6:
		is = p.Cmp(q) < 0
	case 8:
		is = a.to == nil
	case 9:
		is = a.to == b.to
	}
	if is {
		z.SetInt64(1)
	}
	round := new(big.Int).Lsh(big.NewInt(1), 64)
	z.Mod(z, round)
	if z.Bit(63) == 1 {
		z.Sub(z, round)
	}
	return int(z.Int64())
}

// heap is the model's objects, by their names.
func (m *model) heap() api.Heap {
	names := map[*thing]int{}
	for i, o := range m.things {
		names[o] = i + 1
	}
	var h api.Heap
	for _, o := range m.things {
		x := api.Obj{Ints: o.ints}
		for _, to := range o.refs {
			x.Refs = append(x.Refs, names[to])
		}
		h.Objs = append(h.Objs, x)
	}
	return h
}

// wild is programs that may be run, and go anywhere: most of them end soon, or never.
func wild() []api.Prog {
	return slices.DeleteFunc(sample.Programs(), func(p api.Prog) bool { return kind.Check(p) != api.OK })
}

// runnable is programs that may be run: such as go on for long, and wild ones.
func runnable() []api.Prog {
	return append(sample.Runs(), wild()[:500]...)
}

// shown is the beginning of what is told of a fault.
func shown(x any) string {
	s := fmt.Sprint(x)
	return s[:min(len(s), 1500)]
}

// asModel asks whether a run is as the model's, and tells how it ended, behind how many steps.
func asModel(t *testing.T, p api.Prog, fuel int) (api.Trace, int) {
	t.Helper()
	m, want := modelled(p, fuel)
	if got := run.Run(p, fuel); !sameTrace(got, want) {
		t.Fatalf("with %d steps: %v; want %v: %s", fuel, got, want, shown(p))
	}
	if n := run.Steps(p, fuel); n != m.steps {
		t.Fatalf("with %d steps it took %d; want %d: %s", fuel, n, m.steps, shown(p))
	}
	if h := run.Heap(p, fuel); !sameHeap(h, m.heap()) {
		t.Fatalf("with %d steps: %s; want %s: %s", fuel, shown(h), shown(m.heap()), shown(p))
	}
	return want, m.steps
}

// P10.1: all calls, of all samples, with all the steps that there are, and at some places on the way.
func TestAsModel(t *testing.T) {
	ends := map[end]int{}
	for _, p := range runnable() {
		if e := kind.Check(p); e != api.OK {
			t.Fatalf("it may not be run, %d: %s", e, shown(p))
		}
		tr, steps := asModel(t, p, 4000)
		ends[end{tr.End, tr.Code}]++
		for fuel := steps - 1; fuel > 0; fuel /= 2 {
			asModel(t, p, fuel)
		}
		asModel(t, p, steps)
		asModel(t, p, steps+1)
	}
	for _, e := range []end{{0, 0}, {1, 0}, {2, 14}, {2, 15}, {2, 18}} {
		if ends[e] < 10 {
			t.Errorf("%d of the samples end by %v", ends[e], e)
		}
	}
}

// end is how a run ends.
type end struct {
	end  int
	code api.Errno
}

// P10.2: what is told with less is a beginning of what is told with more; a run that has ended ends alike with any more.
func TestBeginning(t *testing.T) {
	for i, p := range runnable() {
		whole, steps := run.Run(p, 4000), run.Steps(p, 4000)
		for fuel := 0; fuel <= steps; fuel += 1 + steps/(4+i%5) {
			less := run.Run(p, fuel)
			if n := len(less.Events); n > len(whole.Events) || !slices.Equal(less.Events, whole.Events[:n]) {
				t.Fatalf("with %d steps %v is told, with all %v: %s", fuel, less.Events, whole.Events, shown(p))
			}
			if fuel < steps && (less.End != api.EndFuel || run.Steps(p, fuel) != fuel) {
				t.Fatalf("with %d steps of %d it ends so: %v, behind %d: %s", fuel, steps, less, run.Steps(p, fuel), shown(p))
			}
		}
		for _, fuel := range []int{steps, steps + 1, steps + 2, 2*steps + 1, 4000, 4001, 1 << 40} {
			if more := run.Run(p, fuel); whole.End != api.EndFuel && !sameTrace(more, whole) {
				t.Fatalf("with %d steps of %d: %v; with 4000: %v: %s", fuel, steps, more, whole, shown(p))
			}
		}
	}
}

// P10.1, P10.2: one step more tells one number more at most, and takes one step more.
func TestEachStep(t *testing.T) {
	for _, p := range sample.Runs()[:90] {
		before, steps := run.Run(p, 0), run.Steps(p, 4000)
		for fuel := range min(steps, 200) {
			next := run.Run(p, fuel+1)
			n := len(before.Events)
			if len(next.Events) < n || len(next.Events) > n+1 || !slices.Equal(next.Events[:n], before.Events) || run.Steps(p, fuel+1) != fuel+1 {
				t.Fatalf("with %d steps: %v; with one more: %v, behind %d: %s", fuel, before, next, run.Steps(p, fuel+1), shown(p))
			}
			before = next
		}
	}
}
