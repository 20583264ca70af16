package loops

import "slices"

// deepest is how many calls of a search stand in one another at most: a row of numbers may be longer than the stack has room for.
const deepest = 1000

// searcher answers the function that goes depth first from a place on, to all that no call of it has come to. Each place is handed to leave when it leaves the path, behind all that it leads to, but for cycles. Where an edge leads back to the path, the piece of it that is a cycle is handed to closed; if that answers false, so does the search, at once, and is over for good.
func searcher(rows [][]int, leave func(place int), closed func(cycle []int) bool) func(from int) bool {
	var path, followed []int // followed: of each place on the path, how many of its edges
	height := map[int]int{}  // what stands on the path, and how high
	left := make([]bool, len(rows))
	over := false
	enter := func(place int) {
		height[place] = len(path)
		path, followed = append(path, place), append(followed, 0)
	}
	var search func(deep int)
	// It goes on from the end of the path, till that has left it. If it must end ahead of that, the path stays, and the next call goes on there.
	search = func(deep int) {
		last := len(path) - 1
		place := path[last]
		for followed[last] < len(rows[place]) {
			to := rows[place][followed[last]]
			followed[last]++
			if begin, onPath := height[to]; onPath {
				if over = !closed(path[begin:]); over {
					return
				}
				continue
			}
			if left[to] {
				continue
			}
			enter(to)
			if deep == deepest {
				return
			}
			search(deep + 1)
			if len(path) > last+1 {
				return
			}
		}
		path, followed = path[:last], followed[:last]
		delete(height, place)
		left[place] = true
		leave(place)
	}
	return func(from int) bool {
		if !left[from] {
			enter(from)
		}
		for len(path) > 0 && !over {
			search(0)
		}
		return !over
	}
}

// untangle answers the places, each behind all that it leads to, and no cycle; or the first cycle that is met.
func untangle(rows [][]int) (order, cycle []int) {
	search := searcher(rows, func(place int) { order = append(order, place) }, func(met []int) bool {
		cycle = met
		return false
	})
	for from := range rows {
		if !search(from) {
			return nil, cycle
		}
	}
	return order, nil
}

// eachPart hands on the places of each part; the list holds till the next one comes. It goes along the edges first: who left the path last, of those that are in no part yet, leads to all that lead to it. So what it comes to against the edges is its part.
func eachPart(w net, visit func(part []int)) {
	goOn := func([]int) bool { return true }
	var order, part []int
	ahead := searcher(w.rows, func(place int) { order = append(order, place) }, goOn)
	for from := range w.rows {
		ahead(from)
	}
	back := searcher(w.turned(), func(place int) { part = append(part, place) }, goOn)
	for _, from := range slices.Backward(order) {
		part = part[:0]
		if back(from); len(part) > 0 {
			visit(part)
		}
	}
}
