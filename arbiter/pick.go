package arbiter

import (
	"slices"

	"capsule/api"
)

// Pick returns the queue and the number of commands of a pick.
func (a *Arbiter) Pick(loads ...api.Load) (int, int, api.Errno) {
	if a.missing() {
		return 0, 0, api.ErrNil
	}
	if !a.accepts(loads) {
		return 0, 0, api.ErrArg
	}
	if !slices.ContainsFunc(loads, waits) {
		return 0, 0, api.ErrNone
	}
	waiting := a.byClass(loads)
	class := a.choose(&waiting)
	next := a.next(class, waiting[class])
	a.last[class] = next.Queue
	return next.Queue, a.take(class, next.Waiting), api.OK
}

func waits(l api.Load) bool {
	return l.Waiting > 0
}

// accepts reports whether the loads are those of different queues of the arbiter, none of them negative.
func (a *Arbiter) accepts(loads []api.Load) bool {
	seen := map[int]bool{}
	for _, l := range loads {
		if _, found := a.queues[l.Queue]; !found || l.Waiting < 0 || seen[l.Queue] {
			return false
		}
		seen[l.Queue] = true
	}
	return true
}

// byClass returns, for each class, the loads of its queues that have waiting commands.
func (a *Arbiter) byClass(loads []api.Load) [classes][]api.Load {
	var waiting [classes][]api.Load
	for _, l := range loads {
		if waits(l) {
			class := a.class(l.Queue)
			waiting[class] = append(waiting[class], l)
		}
	}
	return waiting
}

// class returns the class that a queue counts as.
func (a *Arbiter) class(queue int) api.Class {
	if !a.config.Weighted {
		return api.Urgent
	}
	return a.queues[queue]
}

// choose returns the class of a pick. If the classes that wait have used up their credits, a new round begins.
func (a *Arbiter) choose(waiting *[classes][]api.Load) api.Class {
	if len(waiting[api.Urgent]) > 0 {
		return api.Urgent
	}
	class, found := a.credited(waiting)
	if !found {
		a.credits = weights(a.config)
		class, _ = a.credited(waiting)
	}
	return class
}

// credited returns the first of High, Medium and Low that waits and has a credit.
func (a *Arbiter) credited(waiting *[classes][]api.Load) (api.Class, bool) {
	for class := api.High; class <= api.Low; class++ {
		if len(waiting[class]) > 0 && a.credits[class] > 0 {
			return class, true
		}
	}
	return 0, false
}

// next returns the load of the next queue of a class: numbers are counted in a circle, from the one above that of the queue picked last.
func (a *Arbiter) next(class api.Class, waiting []api.Load) api.Load {
	last := a.last[class]
	return lowest(waiting, func(l api.Load) int {
		return (l.Queue - last + MaxQueue) % (MaxQueue + 1)
	})
}

// lowest returns the first item of the lowest rank.
func lowest[T any](items []T, rank func(T) int) T {
	var best T
	for i, item := range items {
		if i == 0 || rank(item) < rank(best) {
			best = item
		}
	}
	return best
}

// take returns how many of the waiting commands a class is given, and charges its credit with them.
func (a *Arbiter) take(class api.Class, waiting int) int {
	n := waiting
	if a.config.Burst != 0 {
		n = min(n, a.config.Burst)
	}
	if class != api.Urgent { // without Weighted, all queues count as urgent
		n = min(n, a.credits[class])
		a.credits[class] -= n
	}
	return n
}
