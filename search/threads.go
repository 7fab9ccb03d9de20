package search

import (
	"iter"
	"math/bits"
)

// threads is a set of threads: the bit 1 << t is the thread t's.
type threads uint32

// only tells the set of one thread.
func only(t int) threads { return 1 << t }

// which tells those of n threads of which something is so.
func which(n int, is func(t int) bool) threads {
	var set threads
	for t := range n {
		if is(t) {
			set |= only(t)
		}
	}
	return set
}

// has tells whether a thread is in the set.
func (set threads) has(t int) bool { return set&only(t) != 0 }

// least tells the least thread of a set that is not empty.
func (set threads) least() int { return bits.TrailingZeros32(uint32(set)) }

// all goes through the threads of the set, rising.
func (set threads) all() iter.Seq[int] {
	return func(yield func(int) bool) {
		for rest := set; rest != 0; rest &= rest - 1 {
			if !yield(rest.least()) {
				return
			}
		}
	}
}
