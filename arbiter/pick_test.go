package arbiter_test

import (
	"maps"
	"math"
	"slices"
	"testing"

	"capsule/api"
	"capsule/arbiter"
)

// P3.3: the examples of the chapter.
func TestExamples(t *testing.T) {
	a := made(t, api.Arbitration{Burst: 2}, entry{1, api.Urgent}, entry{5, api.Urgent})
	l := []api.Load{{Queue: 1, Waiting: 9}, {Queue: 5, Waiting: 1}}
	picks(t, a, 1, 2, l...)
	picks(t, a, 5, 1, l...)
	picks(t, a, 1, 2, l...)
	c := api.Arbitration{Weighted: true, High: 3, Medium: 2, Low: 1}
	a = made(t, c, entry{1, api.High}, entry{2, api.Low})
	l = []api.Load{{Queue: 1, Waiting: 9}, {Queue: 2, Waiting: 9}}
	for range 2 {
		picks(t, a, 1, 3, l...)
		picks(t, a, 2, 1, l...)
	}
	a = made(t, c, entry{1, api.High}, entry{2, api.Low})
	l[0].Waiting = 2
	picks(t, a, 1, 2, l...)
	picks(t, a, 1, 1, l...)
	picks(t, a, 2, 1, l...)
}

// P3.3: loads that are not valid, also behind valid ones, and no waiting commands; nothing is changed.
func TestPickErrors(t *testing.T) {
	good := api.Load{Queue: 1, Waiting: 4}
	for _, c := range []api.Arbitration{{Burst: 2}, {Weighted: true, Burst: 2, High: 3, Medium: 2, Low: 1}} {
		a := made(t, c, entry{1, api.High}, entry{2, api.Low}, entry{3, api.Urgent}, entry{65535, api.Low})
		picks(t, a, 1, 2, good)
		before := a.Copy()
		for _, l := range [][]api.Load{
			{{Queue: 4, Waiting: 1}}, {good, {Queue: 4, Waiting: 1}}, {{Queue: 4}}, {good, {Queue: 0}},
			{{Queue: -1, Waiting: 1}}, {{Queue: 65536, Waiting: 1}}, {{Queue: 65537, Waiting: 1}, good},
			{{Queue: math.MinInt}}, {{Queue: math.MaxInt, Waiting: math.MaxInt}},
			{{Queue: 2, Waiting: -1}}, {good, {Queue: 2, Waiting: -1}}, {good, {Queue: 2, Waiting: math.MinInt}},
			{good, good}, {{Queue: 2}, {Queue: 2}}, {{Queue: 2}, good, {Queue: 2, Waiting: 1}}, {good, {Queue: 2, Waiting: 1}, {Queue: 1}},
		} {
			pickFails(t, a, api.ErrArg, l...)
		}
		pickFails(t, a, api.ErrNone)
		pickFails(t, a, api.ErrNone, []api.Load{}...)
		pickFails(t, a, api.ErrNone, api.Load{Queue: 1})
		pickFails(t, a, api.ErrNone, api.Load{Queue: 2}, api.Load{Queue: 1}, api.Load{Queue: 65535})
		sameFuture(t, a, before)
		a.Remove(1)
		pickFails(t, a, api.ErrArg, good)
	}
}

// P3.3: without queues there is nothing to pick, and every load is one of an unknown queue.
func TestPickWithoutQueues(t *testing.T) {
	for _, c := range validConfigs {
		a := made(t, c)
		pickFails(t, a, api.ErrNone)
		pickFails(t, a, api.ErrArg, api.Load{})
	}
}

// P3.3: a pick without waiting commands does not begin a new round of credits.
func TestNoneKeepsCredits(t *testing.T) {
	a := made(t, api.Arbitration{Weighted: true, High: 2, Medium: 1, Low: 1}, entry{1, api.High}, entry{2, api.Low})
	high, low := api.Load{Queue: 1, Waiting: 5}, api.Load{Queue: 2, Waiting: 5}
	picks(t, a, 1, 2, high, low)
	pickFails(t, a, api.ErrNone, api.Load{Queue: 1}, api.Load{Queue: 2})
	pickFails(t, a, api.ErrNone)
	pickFails(t, a, api.ErrArg, high, high)
	picks(t, a, 2, 1, high, low)
}

// P3.3: the next queue is the lowest one above that picked last, or else the lowest one; queues that do not wait are passed over.
func TestNextQueue(t *testing.T) {
	a := made(t, api.Arbitration{}, entry{0, api.Low}, entry{3, api.High}, entry{4, api.Medium}, entry{65534, api.Urgent}, entry{65535, api.Low})
	for _, c := range []struct {
		waiting []int
		want    int
	}{
		{[]int{65535, 4, 3}, 3},
		{[]int{65535, 4, 3}, 4},
		{[]int{0, 3, 4}, 0}, // none above 4
		{[]int{65535, 0}, 65535},
		{[]int{65535, 65534}, 65534}, // none above 65535
		{[]int{65534}, 65534},        // only the one picked last
		{[]int{3, 65535}, 65535},
		{[]int{4, 3, 0, 65534, 65535}, 0},
		{[]int{0}, 0},
		{[]int{65534, 0, 65535}, 65534},
		{[]int{3, 0, 65534}, 0},
		{[]int{0, 65535}, 65535},
		{[]int{65535, 4}, 4},
	} {
		loads := []api.Load{{Queue: 0}, {Queue: 3}, {Queue: 4}, {Queue: 65534}, {Queue: 65535}}
		for i := range loads {
			if slices.Contains(c.waiting, loads[i].Queue) {
				loads[i].Waiting = 2
			}
		}
		slices.Reverse(loads)
		picks(t, a, c.want, 2, loads...)
	}
}

// P3.3: the first pick takes the lowest number, even if that is 0, and the order of the loads does not matter.
func TestFirstPick(t *testing.T) {
	for _, first := range []int{0, 1, 65534} {
		a := made(t, api.Arbitration{}, entry{65535, api.Urgent}, entry{first, api.Urgent})
		low, high := api.Load{Queue: first, Waiting: 1}, api.Load{Queue: 65535, Waiting: 1}
		picks(t, a.Copy(), first, 1, low, high)
		picks(t, a, first, 1, high, low)
		picks(t, a, 65535, 1, high, low)
		picks(t, a, first, 1, high, low)
	}
}

// P3.3: without Weighted the classes do not matter, and there are no credits.
func TestUnweighted(t *testing.T) {
	a := made(t, api.Arbitration{High: 1, Medium: 1, Low: 1}, entry{1, api.Low}, entry{2, api.Urgent}, entry{3, api.High}, entry{4, api.Medium})
	l := []api.Load{{Queue: 1, Waiting: 500}, {Queue: 2, Waiting: math.MaxInt}, {Queue: 3, Waiting: 2}, {Queue: 4, Waiting: 7}}
	for range 3 {
		for _, x := range l {
			picks(t, a, x.Queue, x.Waiting, l...)
		}
	}
}

// P3.3: the number of commands is the minimum of those that wait, the burst and the credit.
func TestCount(t *testing.T) {
	for _, c := range []struct {
		class                        api.Class
		weighted                     bool
		burst, weight, waiting, want int
	}{
		{api.Urgent, false, 0, 0, 1000, 1000},
		{api.Urgent, false, 128, 0, 1000, 128},
		{api.Urgent, false, 128, 0, 127, 127},
		{api.Low, false, 8, 2, 9, 8},
		{api.Low, false, 0, 2, math.MaxInt, math.MaxInt},
		{api.Urgent, true, 0, 2, 1000, 1000},
		{api.Urgent, true, 4, 2, 1000, 4},
		{api.Urgent, true, 4, 2, 3, 3},
		{api.High, true, 0, 256, math.MaxInt, 256},
		{api.High, true, 1, 256, 9, 1},
		{api.Medium, true, 8, 3, 9, 3},
		{api.Medium, true, 8, 9, 10, 8},
		{api.Low, true, 8, 9, 7, 7},
		{api.Low, true, 0, 1, 7, 1},
	} {
		x := api.Arbitration{Weighted: c.weighted, Burst: c.burst, High: c.weight, Medium: c.weight, Low: c.weight}
		picks(t, made(t, x, entry{6, c.class}), 6, c.want, api.Load{Queue: 6, Waiting: c.waiting})
	}
}

// P3.3: the weight of each class is its own.
func TestWeightsOfClasses(t *testing.T) {
	a := made(t, api.Arbitration{Weighted: true, High: 5, Medium: 6, Low: 7}, entry{1, api.Low}, entry{2, api.Medium}, entry{3, api.High})
	l := []api.Load{{Queue: 1, Waiting: 99}, {Queue: 2, Waiting: 99}, {Queue: 3, Waiting: 99}}
	for range 3 {
		picks(t, a, 3, 5, l...)
		picks(t, a, 2, 6, l...)
		picks(t, a, 1, 7, l...)
	}
}

// P3.3: each class has its own queue picked last, and Urgent comes first without using credits.
func TestClassesApart(t *testing.T) {
	a := made(t, api.Arbitration{Weighted: true, Burst: 1, High: 2, Medium: 2, Low: 2},
		entry{1, api.Urgent}, entry{2, api.High}, entry{3, api.Low}, entry{4, api.Medium}, entry{5, api.Low}, entry{6, api.High}, entry{7, api.Medium}, entry{8, api.Urgent})
	l := []api.Load{{Queue: 2, Waiting: 9}, {Queue: 3, Waiting: 9}, {Queue: 4, Waiting: 9}, {Queue: 5, Waiting: 9}, {Queue: 6, Waiting: 9}, {Queue: 7, Waiting: 9}}
	urgent := append(slices.Clone(l), api.Load{Queue: 8, Waiting: 9}, api.Load{Queue: 1, Waiting: 9})
	for range 2 {
		for _, want := range []int{2, 6, 4, 7, 3, 5} {
			picks(t, a, 1, 1, urgent...)
			picks(t, a, want, 1, l...)
			picks(t, a, 8, 1, urgent...)
		}
	}
}

// P3.3: a class that has used up its credit waits for the others, but only for those that wait themselves.
func TestCreditsUsedUp(t *testing.T) {
	a := made(t, api.Arbitration{Weighted: true, High: 2, Medium: 3, Low: 1}, entry{1, api.High}, entry{2, api.Medium}, entry{3, api.Low})
	high, medium, low := api.Load{Queue: 1, Waiting: 9}, api.Load{Queue: 2, Waiting: 1}, api.Load{Queue: 3, Waiting: 9}
	picks(t, a, 1, 2, high, medium, low)
	picks(t, a, 2, 1, high, medium, low)
	picks(t, a, 3, 1, high, low)
	picks(t, a, 2, 1, high, medium, low) // Medium still has a credit
	picks(t, a, 1, 2, high, low)         // that credit does not count while Medium does not wait
	picks(t, a, 3, 1, low)
	medium.Waiting = 9
	picks(t, a, 2, 3, high, medium, low) // the credit of Medium was set to its weight, too, not increased by it
	picks(t, a, 1, 2, high, medium, low)
}

// P3.3: a class without waiting commands gets a new credit with the others, whether it had used up its credit or not.
func TestCreditsOfIdleClass(t *testing.T) {
	a := made(t, api.Arbitration{Weighted: true, High: 2, Medium: 5, Low: 1}, entry{1, api.High}, entry{2, api.Medium}, entry{3, api.Low})
	high, medium, low := api.Load{Queue: 1, Waiting: 9}, api.Load{Queue: 2, Waiting: 3}, api.Load{Queue: 3, Waiting: 9}
	picks(t, a, 1, 2, high) // used up
	picks(t, a, 2, 3, medium)
	picks(t, a, 3, 1, low)
	picks(t, a, 3, 1, api.Load{Queue: 1}, low) // a new round, with High and Medium idle
	picks(t, a, 1, 2, high, medium, low)
	picks(t, a, 2, 3, high, medium, low)
	picks(t, a, 2, 2, high, medium, low)
	picks(t, a, 1, 2, high, medium, low)
}

// P3.3: urgent commands neither use credits nor begin a new round.
func TestUrgentKeepsCredits(t *testing.T) {
	a := made(t, api.Arbitration{Weighted: true, High: 1, Medium: 1, Low: 1}, entry{0, api.Urgent}, entry{1, api.High}, entry{2, api.Low})
	urgent, high, low := api.Load{Queue: 0, Waiting: 300}, api.Load{Queue: 1, Waiting: 9}, api.Load{Queue: 2, Waiting: 9}
	picks(t, a, 1, 1, high, low)
	picks(t, a, 0, 300, urgent, high)
	picks(t, a, 2, 1, high, low)
	picks(t, a, 0, 300, high, low, urgent)
	picks(t, a, 1, 1, high, low)
}

// The document's rules: the loads are neither modified nor kept.
func TestLoadsStay(t *testing.T) {
	a := made(t, api.Arbitration{Burst: 2}, entry{1, api.Urgent}, entry{2, api.Urgent}, entry{3, api.Urgent})
	whole := []api.Load{{Queue: 3, Waiting: 5}, {Queue: 2}, {Queue: 1, Waiting: 7}, {Queue: 9, Waiting: 9}}
	before := slices.Clone(whole)
	picks(t, a, 1, 2, whole[:3]...)
	if !slices.Equal(whole, before) {
		t.Errorf("the loads became %v", whole)
	}
	clear(whole)
	picks(t, a, 3, 2, before[:3]...)
}

// P3.5: a pick has at least one command, at most Burst, and at most as many as wait.
func TestCountBounds(t *testing.T) {
	n := uint64(1)
	for _, c := range validConfigs {
		a := made(t, c, entry{1, api.Urgent}, entry{2, api.High}, entry{3, api.Medium}, entry{4, api.Low}, entry{5, api.Low})
		for range 500 {
			var loads []api.Load
			waiting := map[int]int{}
			for queue := 1; queue <= 5; queue++ {
				n = following(n)
				waiting[queue] = int(n>>40) % 400 * int(n>>33&1)
				loads = append(loads, api.Load{Queue: queue, Waiting: waiting[queue]})
			}
			q, m, e := a.Pick(loads...)
			if e == api.ErrNone && slices.Max(loadsOf(loads)) == 0 {
				continue
			}
			if e != api.OK || m < 1 || m > waiting[q] || c.Burst > 0 && m > c.Burst {
				t.Fatalf("%v, Pick(%v): %d, %d, %v", c, loads, q, m, e)
			}
		}
	}
}

// following returns the next number of a fixed sequence.
func following(n uint64) uint64 {
	return n*6364136223846793005 + 1442695040888963407
}

func loadsOf(loads []api.Load) []int {
	var l []int
	for _, x := range loads {
		l = append(l, x.Waiting)
	}
	return l
}

// P3.5: as long as commands wait in an urgent queue, no other queue is picked.
func TestUrgentFirst(t *testing.T) {
	a := made(t, api.Arbitration{Weighted: true, Burst: 4, High: 256, Medium: 256, Low: 256}, entry{1, api.High}, entry{2, api.Medium}, entry{3, api.Low}, entry{30, api.Urgent}, entry{40, api.Urgent})
	waiting := map[int]int{1: 10, 2: 10, 3: 10, 30: 1001, 40: 1002}
	for waiting[30]+waiting[40] > 0 {
		q, n := serve(t, a, waiting)
		if q != 30 && q != 40 {
			t.Fatalf("queue %d, %d commands, with %v left", q, n, waiting)
		}
	}
	if q, _ := serve(t, a, waiting); q != 1 {
		t.Error(q)
	}
}

// serve picks once and takes the picked commands away from those that wait.
func serve(t *testing.T, a *arbiter.Arbiter, waiting map[int]int) (int, int) {
	t.Helper()
	var loads []api.Load
	for _, queue := range slices.Sorted(maps.Keys(waiting)) {
		loads = append(loads, api.Load{Queue: queue, Waiting: waiting[queue]})
	}
	q, n, e := a.Pick(loads...)
	if e != api.OK || n < 1 || n > waiting[q] {
		t.Fatalf("Pick(%v): %d, %d, %v", loads, q, n, e)
	}
	waiting[q] -= n
	return q, n
}

// P3.5: after k rounds every class that has queues has been given exactly k times its weight, for all sets of classes.
func TestShares(t *testing.T) {
	for _, c := range []api.Arbitration{
		{Weighted: true, High: 1, Medium: 1, Low: 1},
		{Weighted: true, Burst: 4, High: 9, Medium: 6, Low: 3},
		{Weighted: true, Burst: 1, High: 3, Medium: 256, Low: 17},
		{Weighted: true, Burst: 128, High: 255, Medium: 2, Low: 256},
	} {
		weight := map[api.Class]int{api.High: c.High, api.Medium: c.Medium, api.Low: c.Low}
		for set := 1; set < 8; set++ {
			a := made(t, c)
			classOf, waiting, sum := map[int]api.Class{}, map[int]int{}, 0
			for class := api.High; class <= api.Low; class++ {
				if set>>(class-1)&1 == 0 {
					continue
				}
				sum += weight[class]
				for i := range int(class) { // one, two or three queues
					queue := 10*i + int(class)
					a.Add(queue, class)
					classOf[queue], waiting[queue] = class, 100000
				}
			}
			given, total := map[api.Class]int{}, 0
			for k := 1; k <= 5; k++ {
				for total < k*sum {
					q, n := serve(t, a, waiting)
					given[classOf[q]] += n
					total += n
				}
				for class, n := range given {
					if n != k*weight[class] {
						t.Errorf("%v, classes %03b, round %d: class %d has been given %d", c, set, k, class, n)
					}
				}
				if total != k*sum {
					t.Errorf("%v, classes %03b, round %d: %d commands", c, set, k, total)
				}
			}
		}
	}
}

// P3.5: without Weighted, queues that always wait are picked in turn, each once in n consecutive picks.
func TestInTurn(t *testing.T) {
	for n := 1; n <= 9; n++ {
		a := made(t, api.Arbitration{Burst: 2})
		var loads []api.Load
		for i := range n {
			queue := (i*11 + 3) % n * 7000 // all of 0..n-1, out of order, times 7000
			if e := a.Add(queue, api.Class(i%4)); e != api.OK {
				t.Fatal(queue, e)
			}
			loads = append(loads, api.Load{Queue: queue, Waiting: 1 + i})
		}
		var order []int
		for range 4 * n {
			q, _, _ := a.Pick(loads...)
			order = append(order, q)
		}
		for i := range order[n-1:] {
			window := slices.Sorted(slices.Values(order[i : i+n]))
			if len(slices.Compact(window)) != n {
				t.Errorf("%d queues: picked %v", n, order)
			}
		}
	}
}
