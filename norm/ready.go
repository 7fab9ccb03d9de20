package norm

import "assize/api"

// ready is the heap of the events that may come next in a least form, by their numbers: that of the least thread on top. No two of them are of one thread, as one of those would happen ahead of the other.
type ready struct {
	l       []api.Event
	numbers []int
}

// Len tells how many there are.
func (r *ready) Len() int { return len(r.numbers) }

// Less tells whether the thread of one is below that of another one.
func (r *ready) Less(i, j int) bool {
	return r.l[r.numbers[i]].Thread < r.l[r.numbers[j]].Thread
}

// Swap changes two about.
func (r *ready) Swap(i, j int) {
	r.numbers[i], r.numbers[j] = r.numbers[j], r.numbers[i]
}

// Push puts an event's number at the end.
func (r *ready) Push(number any) { r.numbers = append(r.numbers, number.(int)) }

// Pop takes the last one away.
func (r *ready) Pop() any {
	last := len(r.numbers) - 1
	number := r.numbers[last]
	r.numbers = r.numbers[:last]
	return number
}
