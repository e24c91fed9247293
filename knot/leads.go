package knot

import "slices"

// leads is of each one those to which its edges lead.
type leads map[int][]int

// forth is where edges lead.
func forth(list []Edge) leads {
	l := make(leads)
	for _, e := range list {
		l[e.From] = append(l[e.From], e.To)
	}
	return l
}

// back is where they come from: where they lead when each is turned.
func back(list []Edge) leads {
	l := make(leads)
	for _, e := range list {
		l[e.To] = append(l[e.To], e.From)
	}
	return l
}

// far is of each one to which a way leads from one how many edges that has at least; 0 of the one itself.
func (l leads) far(id int) map[int]int {
	far := map[int]int{id: 0}
	for row := []int{id}; len(row) > 0; row = row[1:] {
		for _, to := range l[row[0]] {
			if _, seen := far[to]; !seen {
				far[to] = far[row[0]] + 1
				row = append(row, to)
			}
		}
	}
	return far
}

// nearest is of some the one that is least far, the least of several such; false, if none of them has a way.
func nearest(list []int, far map[int]int) (int, bool) {
	best, found := 0, false
	for _, id := range list {
		n, ok := far[id]
		if ok && (!found || n < far[best] || n == far[best] && id < best) {
			best, found = id, true
		}
	}
	return best, found
}

// tied is of each one that an edge names its knot: all those from which ways lead to it, and to which ways lead from it, have the same, nobody else has it.
func tied(list []Edge) map[int]int {
	turned, knots := back(list), make(map[int]int)
	// Of those without a knot who leads to the one that was left last is led to from it, too: else it would have been left later.
	for _, id := range slices.Backward(forth(list).left(list)) {
		turned.tie(id, knots)
	}
	return knots
}

// left is all that some edges name, in the order in which a walk leaves them that goes on from each one to all it leads to, but those it has been at, and leaves it then.
func (l leads) left(list []Edge) []int {
	var order, todo []int
	for _, e := range list {
		todo = append(todo, e.From)
	}
	// A list of what is to do, since calls within calls, one for each edge of a way, could be too deep.
	looks := make(map[int]int)
	for len(todo) > 0 {
		at := todo[len(todo)-1]
		looks[at]++
		if looks[at] == 1 {
			for _, to := range l[at] {
				if looks[to] == 0 {
					todo = append(todo, to)
				}
			}
			continue
		}
		todo = todo[:len(todo)-1]
		if looks[at] == 2 {
			order = append(order, at)
		}
	}
	return order
}

// tie gives one that has no knot yet a knot of its own, with all to which ways lead from it past such as have none either.
func (l leads) tie(id int, knots map[int]int) {
	if _, has := knots[id]; has {
		return
	}
	knots[id] = id
	for todo := []int{id}; len(todo) > 0; {
		at := todo[len(todo)-1]
		todo = todo[:len(todo)-1]
		for _, to := range l[at] {
			if _, has := knots[to]; !has {
				knots[to] = id
				todo = append(todo, to)
			}
		}
	}
}
