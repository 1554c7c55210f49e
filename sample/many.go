package sample

import "slices"

// Many is all functions of up to four blocks, and many of more, of up to as many as there may be.
func Many() []Ends {
	var all []Ends
	for n := 1; n <= 4; n++ {
		all = append(all, Every(n)...)
	}
	return append(all, Great()...)
}

// Every is all functions of so many blocks: each block ends in each way.
func Every(n int) []Ends {
	choices := [][]int{nil}
	for a := 1; a < n; a++ {
		choices = append(choices, []int{a})
		for b := 1; b < n; b++ {
			choices = append(choices, []int{a, b})
		}
	}
	all := []Ends{nil}
	for range n {
		var longer []Ends
		for _, l := range all {
			for _, to := range choices {
				longer = append(longer, append(slices.Clone(l), to))
			}
		}
		all = longer
	}
	return all
}

// Great is functions of two to as many blocks as there may be: they lead anywhere, onward alone, or not far.
func Great() []Ends {
	var all []Ends
	d := dice(5)
	for range 600 {
		all = append(all, d.anywhere(d.to(5, 9)), d.anywhere(d.to(10, 40)), d.onward(d.to(2, 40)))
		all = append(all, d.near(d.to(5, 40), 2), d.near(d.to(5, 40), 4))
	}
	return append(all, Most()...)
}

// Most is functions of as many blocks as there may be.
func Most() []Ends {
	d := dice(6)
	return []Ends{d.anywhere(40), d.onward(40), d.near(40, 2), d.near(40, 4), Chain(40), Round(40), Rungs(40), Nest(40)}
}

// Chain is blocks of which each one leads to the one behind it.
func Chain(n int) Ends {
	l := make(Ends, n)
	for b := range n - 1 {
		l[b] = []int{b + 1}
	}
	return l
}

// Round is a chain whose last block leads to the second one.
func Round(n int) Ends {
	l := Chain(n)
	l[n-1] = []int{1}
	return l
}

// Rungs is blocks of which each one leads to the two behind it.
func Rungs(n int) Ends {
	l := Chain(n)
	for b := range n - 2 {
		l[b] = []int{b + 1, b + 2}
	}
	return l
}

// Nest is ways round within one another: the blocks of the first half but 0 are their heads, those of the second one lead back to them, the innermost one first. n is even.
func Nest(n int) Ends {
	l := Chain(n)
	for b := n / 2; b < n-1; b++ {
		l[b] = []int{n - 1 - b, b + 1}
	}
	return l
}

// dice makes numbers that are the same in each run.
type dice uint64

// to is a number from least to most.
func (d *dice) to(least, most int) int {
	*d = *d*6364136223846793005 + 1442695040888963407
	return least + int(*d>>33)%(most-least+1)
}

// anywhere is blocks that lead anywhere, most of them to two.
func (d *dice) anywhere(n int) Ends {
	l := make(Ends, n)
	for b := range l {
		for range min(d.to(0, 5), 2) {
			l[b] = append(l[b], d.to(1, n-1))
		}
	}
	return l
}

// line is so many blocks, 0 first, and the others in any order.
func (d *dice) line(n int) []int {
	line := []int{0}
	for b := 1; b < n; b++ {
		line = slices.Insert(line, d.to(1, len(line)), b)
	}
	return line
}

// onward is blocks without a way round: each one leads to such as stand behind it in a line.
func (d *dice) onward(n int) Ends {
	l, line := make(Ends, n), d.line(n)
	for i, b := range line[:n-1] {
		for range min(d.to(0, 5), 2) {
			l[b] = append(l[b], line[d.to(i+1, n-1)])
		}
	}
	return l
}

// near is blocks that lead to such as stand at most so far from them in a line, onward more often than back: one lies on all ways to another, but many ways turn back, and into what they go round.
func (d *dice) near(n, far int) Ends {
	l, line := make(Ends, n), d.line(n)
	for i, b := range line {
		for range min(d.to(0, 9), 2) {
			at := i + d.to(-far/2, far)
			l[b] = append(l[b], line[min(max(at, 1), n-1)])
		}
	}
	return l
}
