package search

import (
	"iter"

	"assize/api"
	"assize/clock"
	"assize/dep"
)

// kinds is how many kinds of events there are.
const kinds = api.Unlocks + 1

// path has the steps that are over. A step's number is that of the level from which it was taken.
type path struct {
	threads int
	objects int
	events  []api.Event
	clocks  [][]int
	own     [][]int // of each thread its events' numbers, rising
	alike   [][]int // of all events that are the same their numbers, rising; by the event's place
	open    [][]int // of these the ones that were in no race yet
}

// newPath makes a path without steps, of a code.
func newPath(c api.Code) path {
	p := path{threads: len(c.Bodies), objects: max(len(c.Shared), c.Mutexes, 1)}
	p.own = make([][]int, p.threads)
	p.alike = make([][]int, p.threads*kinds*p.objects)
	p.open = make([][]int, len(p.alike))
	return p
}

// place tells an event's place among all that there may be.
func (p *path) place(e api.Event) int {
	return (e.Thread*kinds+e.Kind)*p.objects + e.Object
}

// foes goes through the places of the events of other threads on which an event depends.
func (p *path) foes(e api.Event) iter.Seq[int] {
	return func(yield func(int) bool) {
		for kind := range kinds {
			// Events of unlike threads depend on one another or not, whichever threads these are: one is asked about for all.
			foe := api.Event{Thread: e.Thread + 1, Kind: kind, Object: e.Object}
			if !dep.Depends(foe, e) {
				continue
			}
			for t := range p.threads {
				foe.Thread = t
				if t != e.Thread && !yield(p.place(foe)) {
					return
				}
			}
		}
	}
}

// push puts a step's event behind the others.
func (p *path) push(e api.Event) {
	number, place := len(p.events), p.place(e)
	p.clocks = append(p.clocks, p.clockOf(e))
	p.events = append(p.events, e)
	p.own[e.Thread] = append(p.own[e.Thread], number)
	p.alike[place] = append(p.alike[place], number)
	p.open[place] = append(p.open[place], number)
}

// pop takes the last step back.
func (p *path) pop() {
	number := len(p.events) - 1
	e := p.events[number]
	place := p.place(e)
	cut(&p.own[e.Thread])
	cut(&p.alike[place])
	if at, found := last(p.open[place]); found && at == number {
		cut(&p.open[place])
	}
	p.clocks[number] = nil
	p.events, p.clocks = p.events[:number], p.clocks[:number]
}

// clockOf tells the clock of a next event. As a path may be longer than a trace of clock's, few events are handed over: of those that are the same, and of those of the event's own thread, the last one's clock has all that the others' have.
func (p *path) clockOf(e api.Event) []int {
	var near []api.Event
	var clocks [][]int
	take := func(numbers []int) {
		if number, found := last(numbers); found {
			near = append(near, p.events[number])
			clocks = append(clocks, p.clocks[number])
		}
	}
	take(p.own[e.Thread])
	for place := range p.foes(e) {
		take(p.alike[place])
	}
	// Events of a code are never refused, and there are far fewer than a trace may have.
	c, _ := clock.Next(clocks, near, p.threads, e)
	c[e.Thread] = len(p.own[e.Thread]) + 1
	return c
}

// races tells the numbers of the events of other threads on which a next event depends, and that do not happen ahead of any event of its thread; but for those that it told before: where these were taken nothing is left to be added.
func (p *path) races(next api.Event) []int {
	var numbers []int
	for place := range p.foes(next) {
		open := &p.open[place]
		// What happens ahead of a thread's event are the first ones of another thread.
		for number, found := last(*open); found && !p.isPast(number, next.Thread); number, found = last(*open) {
			numbers = append(numbers, number)
			cut(open)
		}
	}
	return numbers
}

// isPast tells whether an event happens ahead of some event of another thread: if so, then of its last one.
func (p *path) isPast(number, t int) bool {
	latest, found := last(p.own[t])
	if !found {
		return false
	}
	is, _ := clock.Ahead(p.clocks, p.events, number, latest)
	return is
}

// last tells the last number of a list, and whether there is any.
func last(list []int) (int, bool) {
	if len(list) == 0 {
		return 0, false
	}
	return list[len(list)-1], true
}

// cut takes the last number off a list.
func cut(list *[]int) { *list = (*list)[:len(*list)-1] }
