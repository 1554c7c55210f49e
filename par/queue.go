package par

import (
	"slices"

	"portolan/api"
)

// queue is moves that are right: those that are left, how many of them ask for what a location has, and those that came, one behind the other.
type queue struct {
	left  []api.Move
	asked map[api.Loc]int
	done  []api.Move
}

// wait is the moves of which none came yet; those that bring a location into itself are left out.
func wait(l []api.Move) queue {
	q := queue{asked: map[api.Loc]int{}}
	q.left = slices.DeleteFunc(slices.Clone(l), func(m api.Move) bool { return m.To == m.From })
	for _, m := range q.left {
		q.asked[m.From]++
	}
	return q
}

// next has one move come. Where each one's To is asked for yet, the moves that are left go round, so that none of them has spare as its From.
func (q *queue) next(spare api.Loc) {
	i := slices.IndexFunc(q.left, func(m api.Move) bool { return q.asked[m.To] == 0 })
	if i < 0 {
		q.save(q.left[0].To, spare)
		return
	}
	q.asked[q.left[i].From]--
	q.done = append(q.done, q.left[i])
	q.left = slices.Delete(q.left, i, i+1)
}

// save has x go to spare, where all that ask for x find it from then on.
func (q *queue) save(x, spare api.Loc) {
	q.done = append(q.done, api.Move{To: spare, From: x})
	q.asked[spare], q.asked[x] = q.asked[x], 0
	for i, m := range q.left {
		if m.From == x {
			q.left[i].From = spare
		}
	}
}
