package loops

import (
	"slices"

	"caliper/api"
)

// net is the edges that count. Its numbers go by their places in a rising list, and of each place rows has those that its edges lead to.
type net struct {
	numbers []int
	rows    [][]int
}

func netOf(n int, edges []api.Edge) net {
	w := net{numbers: named(n, edges)}
	w.rows = make([][]int, len(w.numbers))
	eachCounting(n, edges, func(from, to int) {
		place := w.place(from)
		w.rows[place] = append(w.rows[place], w.place(to))
	})
	return w
}

// named are the numbers that a net is made of, rising: all; or, if they are more than the edges can name, those that are named alone. So a net is never greater than its edges make it, whatever n is.
func named(n int, edges []api.Edge) []int {
	if n/2 <= len(edges) {
		return upTo(n)
	}
	var numbers []int
	eachCounting(n, edges, func(from, to int) { numbers = append(numbers, from, to) })
	slices.Sort(numbers)
	return slices.Compact(numbers)
}

// place is where a number of the net stands in its list. It is found at once where the list has all that are below it.
func (w net) place(number int) int {
	if number < len(w.numbers) && w.numbers[number] == number {
		return number
	}
	place, _ := slices.BinarySearch(w.numbers, number)
	return place
}

// namesOf are the numbers at some places.
func (w net) namesOf(places []int) []int {
	numbers := make([]int, len(places))
	for i, place := range places {
		numbers[i] = w.numbers[place]
	}
	return numbers
}

// turned are the rows of the edges turned round.
func (w net) turned() [][]int {
	rows := make([][]int, len(w.rows))
	for from, row := range w.rows {
		for _, to := range row {
			rows[to] = append(rows[to], from)
		}
	}
	return rows
}

// eachCounting hands on the two numbers of each edge that counts.
func eachCounting(n int, edges []api.Edge, visit func(from, to int)) {
	for _, e := range edges {
		if e.Same && within(n, e.From) && within(n, e.To) {
			visit(e.From, e.To)
		}
	}
}

func within(n, number int) bool {
	return number >= 0 && number < n
}

// upTo are the numbers from 0 below n.
func upTo(n int) []int {
	numbers := make([]int, max(n, 0))
	for number := range numbers {
		numbers[number] = number
	}
	return numbers
}
