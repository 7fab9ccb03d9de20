package frontier

import (
	"slices"

	"assize/api"
)

// The greatest numbers that may be written.
const (
	mostCounted = 1 << 62
	lastThread  = api.MaxThreads - 1
	allThreads  = 1<<api.MaxThreads - 1
)

// isFrom tells whether a number is from one to another.
func isFrom(n, least, most int) bool { return least <= n && n <= most }

// areUpTo tells whether all numbers of a list are from 0 to another.
func areUpTo(list []int, most int) bool {
	isStrange := func(n int) bool { return !isFrom(n, 0, most) }
	return !slices.ContainsFunc(list, isStrange)
}

// mayBeVerdict tells whether a verdict may be written.
func mayBeVerdict(v api.Verdict) bool {
	if v.Kind == api.Fails {
		return isFrom(v.How, api.Failed, api.Overrun) && mayBeWho(v.How, v.Who) &&
			len(v.Schedule) <= api.MaxSteps && areUpTo(v.Schedule, lastThread)
	}
	return isFrom(v.Kind, api.Open, api.Spent) && v.How == 0 && v.Who == 0 && len(v.Schedule) == 0
}

// mayBeWho tells whether a failure of some kind may be by whose step it is.
func mayBeWho(how, who int) bool {
	if how == api.Deadlock {
		return who == -1
	}
	return isFrom(who, 0, lastThread)
}

// mayBeFrontier tells whether a frontier may be written.
func mayBeFrontier(f api.Frontier) bool {
	return mayBeVerdict(f.Verdict) && isFrom(f.Played, 0, mostCounted) && isFrom(f.Charged, 0, mostCounted) && mayBeLevels(f)
}

// mayBeLevels tells whether a frontier's levels, and how far its last step is, may be beside its verdict.
func mayBeLevels(f api.Frontier) bool {
	n := len(f.Path)
	if len(f.Back) != n || len(f.Asleep) != n {
		return false
	}
	if f.Verdict.Kind != api.Open {
		return n == 0 && f.Done == 0
	}
	return isFrom(n, 1, api.MaxSteps) && isFrom(f.Done, 0, api.MaxInstrs) &&
		areUpTo(f.Path, lastThread) && areUpTo(f.Back, allThreads) && areUpTo(f.Asleep, allThreads)
}
