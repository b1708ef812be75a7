package arbiter_test

import (
	"math"
	"slices"
	"testing"

	"capsule/api"
	"capsule/arbiter"
)

// entry is a queue as Queues yields it.
type entry struct {
	queue int
	class api.Class
}

// entries returns what the iterator yields, and fails the test if the iterator is nil.
func entries(t *testing.T, a *arbiter.Arbiter) []entry {
	t.Helper()
	seq := a.Queues()
	if seq == nil {
		t.Fatal("Queues returned nil")
	}
	var l []entry
	for queue, class := range seq {
		l = append(l, entry{queue, class})
	}
	return l
}

// made returns an arbiter with these queues.
func made(t *testing.T, c api.Arbitration, l ...entry) *arbiter.Arbiter {
	t.Helper()
	a, e := arbiter.New(c)
	if e != api.OK || a == nil {
		t.Fatalf("New(%v): %v %v", c, a, e)
	}
	for _, x := range l {
		if e := a.Add(x.queue, x.class); e != api.OK {
			t.Fatalf("Add(%d, %d): %v", x.queue, x.class, e)
		}
	}
	return a
}

// has fails the test unless the arbiter has exactly these queues.
func has(t *testing.T, a *arbiter.Arbiter, l ...entry) {
	t.Helper()
	if got := entries(t, a); !slices.Equal(got, l) {
		t.Errorf("the queues are %v, not %v", got, l)
	}
}

// picks fails the test unless the next pick is this one.
func picks(t *testing.T, a *arbiter.Arbiter, queue, n int, loads ...api.Load) {
	t.Helper()
	if q, m, e := a.Pick(loads...); q != queue || m != n || e != api.OK {
		t.Errorf("Pick(%v): %d, %d, %v, not %d, %d", loads, q, m, e, queue, n)
	}
}

// pickFails fails the test unless a pick has this error and zero results.
func pickFails(t *testing.T, a *arbiter.Arbiter, want api.Errno, loads ...api.Load) {
	t.Helper()
	if q, n, e := a.Pick(loads...); q != 0 || n != 0 || e != want {
		t.Errorf("Pick(%v): %d, %d, %v, not the error %v", loads, q, n, e, want)
	}
}

// sameFuture fails the test unless both arbiters have the same queues and pick alike for a while: with commands in all queues, and then in each queue alone.
func sameFuture(t *testing.T, a, b *arbiter.Arbiter) {
	t.Helper()
	has(t, a, entries(t, b)...)
	a, b = a.Copy(), b.Copy()
	var all []api.Load
	for _, x := range entries(t, b) {
		all = append(all, api.Load{Queue: x.queue, Waiting: 3})
	}
	rounds := [][]api.Load{all, all, all, all, all, all}
	for i := range all {
		rounds = append(rounds, all[i:i+1], all[i:], all)
	}
	for _, loads := range rounds {
		q, n, e := a.Pick(loads...)
		if r, m, f := b.Pick(loads...); q != r || n != m || e != f {
			t.Errorf("Pick(%v): %d, %d, %v and %d, %d, %v", loads, q, n, e, r, m, f)
		}
	}
}

var validConfigs = []api.Arbitration{
	{},
	{Burst: 1}, {Burst: 2}, {Burst: 4}, {Burst: 8}, {Burst: 16}, {Burst: 32}, {Burst: 64}, {Burst: 128},
	{High: -1, Medium: 257, Low: math.MinInt}, // weights are ignored without Weighted
	{Burst: 8, High: 0, Medium: math.MaxInt, Low: -7},
	{Weighted: true, High: 1, Medium: 1, Low: 1},
	{Weighted: true, High: 256, Medium: 256, Low: 256},
	{Weighted: true, Burst: 128, High: 1, Medium: 256, Low: 128},
}

var invalidConfigs = []api.Arbitration{
	{Burst: -1}, {Burst: 3}, {Burst: 5}, {Burst: 6}, {Burst: 7}, {Burst: 12}, {Burst: 127}, {Burst: 129}, {Burst: 192}, {Burst: 256},
	{Burst: -128}, {Burst: math.MinInt}, {Burst: math.MaxInt}, {Burst: 1 << 62},
	{Weighted: true},
	{Weighted: true, High: 0, Medium: 1, Low: 1},
	{Weighted: true, High: 1, Medium: 0, Low: 1},
	{Weighted: true, High: 1, Medium: 1, Low: 0},
	{Weighted: true, High: 257, Medium: 1, Low: 1},
	{Weighted: true, High: 1, Medium: 257, Low: 1},
	{Weighted: true, High: 1, Medium: 1, Low: 257},
	{Weighted: true, High: -1, Medium: 1, Low: 1},
	{Weighted: true, High: 1, Medium: math.MinInt, Low: 1},
	{Weighted: true, High: 1, Medium: 1, Low: math.MaxInt},
	{Weighted: true, Burst: 3, High: 1, Medium: 1, Low: 1},
}

// P3.1: New and Configure take every valid configuration.
func TestValidConfigurations(t *testing.T) {
	for _, c := range validConfigs {
		has(t, made(t, c))
		a := made(t, api.Arbitration{Burst: 2}, entry{3, api.Low})
		if e := a.Configure(c); e != api.OK {
			t.Errorf("Configure(%v): %v", c, e)
		}
		has(t, a, entry{3, api.Low})
	}
}

// P3.1: New and Configure reject what is not valid; Configure then changes nothing.
func TestInvalidConfigurations(t *testing.T) {
	a := made(t, api.Arbitration{Weighted: true, Burst: 4, High: 5, Medium: 2, Low: 1}, entry{1, api.High}, entry{2, api.Medium}, entry{3, api.Low})
	picks(t, a, 1, 4, api.Load{Queue: 1, Waiting: 9})
	before := a.Copy()
	for _, c := range invalidConfigs {
		if x, e := arbiter.New(c); x != nil || e != api.ErrArg {
			t.Errorf("New(%v): %v %v", c, x, e)
		}
		if e := a.Configure(c); e != api.ErrArg {
			t.Errorf("Configure(%v): %v", c, e)
		}
		sameFuture(t, a, before)
	}
	picks(t, a, 1, 1, api.Load{Queue: 1, Waiting: 9})
}

// P3.1: every burst from -2 to 300.
func TestBursts(t *testing.T) {
	for burst := -2; burst <= 300; burst++ {
		want := api.ErrArg
		if slices.Contains([]int{0, 1, 2, 4, 8, 16, 32, 64, 128}, burst) {
			want = api.OK
		}
		if _, e := arbiter.New(api.Arbitration{Burst: burst}); e != want {
			t.Errorf("burst %d: %v", burst, e)
		}
	}
}

// P3.1: Configure sets the credits to the new weights, even if the weights stay.
func TestConfigureCredits(t *testing.T) {
	c := api.Arbitration{Weighted: true, High: 4, Medium: 1, Low: 2}
	a := made(t, c, entry{1, api.High}, entry{2, api.Low})
	high, low := api.Load{Queue: 1, Waiting: 3}, api.Load{Queue: 2, Waiting: 1}
	picks(t, a, 1, 3, high, low)
	picks(t, a, 2, 1, low)
	if e := a.Configure(c); e != api.OK {
		t.Error(e)
	}
	picks(t, a, 1, 3, high, low)
	picks(t, a, 1, 1, high, low)
	c.High, c.Low = 1, 3
	if e := a.Configure(c); e != api.OK {
		t.Error(e)
	}
	low.Waiting = 9
	picks(t, a, 1, 1, high, low)
	picks(t, a, 2, 3, high, low)
	if a.Configure(api.Arbitration{}) != api.OK || a.Configure(c) != api.OK {
		t.Error("Configure failed")
	}
	picks(t, a, 1, 1, high, low)
	picks(t, a, 2, 3, high, low)
}

// P3.1: the queue picked last of each class is kept by Configure; without Weighted it is that of Urgent, with or without queues of that class.
func TestConfigureLast(t *testing.T) {
	weighted := api.Arbitration{Weighted: true, High: 9, Medium: 9, Low: 9}
	a := made(t, weighted, entry{1, api.Urgent}, entry{2, api.Urgent}, entry{3, api.High}, entry{4, api.High}, entry{5, api.Low}, entry{6, api.Low})
	one := func(l ...int) []api.Load {
		var loads []api.Load
		for _, queue := range l {
			loads = append(loads, api.Load{Queue: queue, Waiting: 1})
		}
		return loads
	}
	picks(t, a, 1, 1, one(1, 2, 3, 4, 5, 6)...)
	picks(t, a, 3, 1, one(3, 4, 5, 6)...)
	picks(t, a, 5, 1, one(5, 6)...)
	if e := a.Configure(weighted); e != api.OK {
		t.Error(e)
	}
	picks(t, a, 4, 1, one(3, 4, 5, 6)...)
	picks(t, a, 6, 1, one(5, 6)...)
	if e := a.Configure(api.Arbitration{}); e != api.OK {
		t.Error(e)
	}
	picks(t, a, 2, 1, one(1, 2, 3, 4, 5, 6)...) // above 1, the last one of Urgent
	picks(t, a, 3, 1, one(1, 2, 3, 4, 5, 6)...)
	picks(t, a, 4, 1, one(6, 5, 4, 2, 1)...)
	if e := a.Configure(weighted); e != api.OK {
		t.Error(e)
	}
	picks(t, a, 1, 1, one(1, 2, 3, 4, 5, 6)...) // none above 4
	picks(t, a, 3, 1, one(3, 4, 5, 6)...)       // High was picked last at 4
	picks(t, a, 5, 1, one(5, 6)...)
}

// P3.2: numbers and classes at their limits and beyond them.
func TestLimits(t *testing.T) {
	for _, c := range []api.Arbitration{{}, {Weighted: true, High: 1, Medium: 1, Low: 1}} {
		a := made(t, c)
		for _, queue := range []int{-1, 65536, math.MinInt, math.MaxInt} {
			if e := a.Add(queue, api.Urgent); e != api.ErrArg {
				t.Errorf("Add(%d): %v", queue, e)
			}
			if e := a.Remove(queue); e != api.ErrArg {
				t.Errorf("Remove(%d): %v", queue, e)
			}
		}
		for _, class := range []api.Class{-1, 4, 13, math.MinInt, math.MaxInt} {
			if e := a.Add(1, class); e != api.ErrArg {
				t.Errorf("class %d: %v", class, e)
			}
		}
		has(t, a)
		for _, x := range []entry{{65535, api.Low}, {0, api.Urgent}, {65534, api.High}, {1, api.Medium}} {
			if e := a.Add(x.queue, x.class); e != api.OK {
				t.Errorf("Add(%v): %v", x, e)
			}
		}
		has(t, a, entry{0, api.Urgent}, entry{1, api.Medium}, entry{65534, api.High}, entry{65535, api.Low})
		if a.Remove(65535) != api.OK || a.Remove(0) != api.OK {
			t.Error("Remove failed")
		}
		has(t, a, entry{1, api.Medium}, entry{65534, api.High})
	}
	if arbiter.MaxQueue != 65535 {
		t.Error(arbiter.MaxQueue)
	}
}

// P3.2: a queue is added once and removed once, and may be added again with another class.
func TestAddRemove(t *testing.T) {
	a := made(t, api.Arbitration{}, entry{4, api.High}, entry{2, api.Low})
	for class := api.Urgent; class <= api.Low; class++ {
		if e := a.Add(4, class); e != api.ErrBusy {
			t.Errorf("Add(4, %d): %v", class, e)
		}
	}
	if e := a.Remove(3); e != api.ErrNone {
		t.Error(e)
	}
	has(t, a, entry{2, api.Low}, entry{4, api.High})
	if e := a.Remove(4); e != api.OK {
		t.Error(e)
	}
	if e := a.Remove(4); e != api.ErrNone {
		t.Error(e)
	}
	has(t, a, entry{2, api.Low})
	if e := a.Add(4, api.Medium); e != api.OK {
		t.Error(e)
	}
	has(t, a, entry{2, api.Low}, entry{4, api.Medium})
	if a.Remove(2) != api.OK || a.Remove(4) != api.OK {
		t.Error("Remove failed")
	}
	has(t, a)
}

// P3.2: errors of Add and Remove in their order, and nothing is changed by them.
func TestAddRemoveErrors(t *testing.T) {
	a := made(t, api.Arbitration{Weighted: true, Burst: 2, High: 3, Medium: 2, Low: 1}, entry{1, api.High}, entry{2, api.Low})
	picks(t, a, 1, 2, api.Load{Queue: 1, Waiting: 2})
	before := a.Copy()
	for i, c := range []struct{ got, want api.Errno }{
		{a.Add(1, 4), api.ErrArg}, // a class that is none comes before a queue that is there
		{a.Add(1, -1), api.ErrArg},
		{a.Add(-1, -1), api.ErrArg},
		{a.Add(1, api.Urgent), api.ErrBusy},
		{a.Remove(-1), api.ErrArg}, // not in 0..MaxQueue comes before not there
		{a.Remove(65536), api.ErrArg},
		{a.Remove(0), api.ErrNone},
		{a.Remove(65535), api.ErrNone},
	} {
		if c.got != c.want {
			t.Errorf("call %d: %v, not %v", i, c.got, c.want)
		}
	}
	sameFuture(t, a, before)
}

// P3.2: the queues are yielded by increasing number, whatever the order in which they were added.
func TestQueuesSorted(t *testing.T) {
	a := made(t, api.Arbitration{})
	for i := range 1000 {
		queue := i * 7919 % 65536
		if e := a.Add(queue, api.Class(queue%4)); e != api.OK {
			t.Fatal(queue, e)
		}
	}
	l := entries(t, a)
	if len(l) != 1000 {
		t.Error(len(l))
	}
	for i, x := range l {
		if x.class != api.Class(x.queue%4) || i > 0 && x.queue <= l[i-1].queue {
			t.Errorf("entry %d: %v", i, x)
		}
	}
}

// P3.2: an iterator may be left early and used again, also within its own loop.
func TestQueuesLeftEarly(t *testing.T) {
	seq := made(t, api.Arbitration{}, entry{9, api.Low}, entry{5, api.High}, entry{7, api.Medium}).Queues()
	for n := range 5 {
		var l []int
		for queue := range seq {
			if len(l) == n {
				break
			}
			l = append(l, queue)
		}
		if want := []int{5, 7, 9}[:min(n, 3)]; !slices.Equal(l, want) {
			t.Errorf("%v, not %v", l, want)
		}
	}
	pairs := 0
	for range seq {
		for range seq {
			pairs++
		}
	}
	if pairs != 9 {
		t.Error(pairs)
	}
}

// P3.2: an iterator yields the queues as they were when Queues was called, even if the loop changes them.
func TestQueuesAtTheCall(t *testing.T) {
	a := made(t, api.Arbitration{}, entry{1, api.Low}, entry{2, api.High})
	seq := a.Queues()
	a.Remove(1)
	a.Add(3, api.Urgent)
	a.Remove(2)
	a.Add(2, api.Medium)
	for range 2 {
		var l []entry
		for queue, class := range seq {
			l = append(l, entry{queue, class})
			a.Remove(queue)
		}
		if want := []entry{{1, api.Low}, {2, api.High}}; !slices.Equal(l, want) {
			t.Errorf("%v, not %v", l, want)
		}
	}
	has(t, a, entry{3, api.Urgent})
}

// P3.2: removing a queue does not change which number was picked last, and adding it again does not, either.
func TestRemoveKeepsLast(t *testing.T) {
	a := made(t, api.Arbitration{Burst: 1}, entry{1, api.Urgent}, entry{4, api.Urgent}, entry{8, api.Urgent})
	one, four, eight := api.Load{Queue: 1, Waiting: 5}, api.Load{Queue: 4, Waiting: 5}, api.Load{Queue: 8, Waiting: 5}
	picks(t, a, 1, 1, one, four, eight)
	picks(t, a, 4, 1, one, four, eight)
	a.Remove(4)
	picks(t, a.Copy(), 8, 1, one, eight)
	a.Add(6, api.Urgent)
	picks(t, a.Copy(), 6, 1, one, eight, api.Load{Queue: 6, Waiting: 1})
	a.Add(4, api.Urgent)
	picks(t, a, 8, 1, one, four, eight)
	picks(t, a, 1, 1, one, four, eight)
	for queue := range a.Queues() {
		a.Remove(queue)
	}
	a.Add(1, api.Urgent)
	a.Add(4, api.Urgent)
	picks(t, a, 4, 1, one, four)
}

// P3.2: a class keeps the number picked last when its only queue comes back in another class.
func TestRemoveKeepsLastOfClass(t *testing.T) {
	a := made(t, api.Arbitration{Weighted: true, High: 9, Medium: 9, Low: 9}, entry{1, api.High}, entry{2, api.High})
	one, two := api.Load{Queue: 1, Waiting: 1}, api.Load{Queue: 2, Waiting: 1}
	picks(t, a, 1, 1, one, two)
	a.Remove(1)
	a.Add(1, api.Low)
	a.Remove(2)
	a.Add(2, api.Low)
	picks(t, a, 1, 1, one, two) // Low was not picked yet
	picks(t, a, 2, 1, one, two)
	for queue := 1; queue <= 2; queue++ {
		a.Remove(queue)
		a.Add(queue, api.High)
	}
	picks(t, a, 2, 1, one, two)
}

// P3.1 to P3.4, P1: a nil and a zero arbiter are no arbiter, whatever the arguments.
func TestNoArbiter(t *testing.T) {
	for _, a := range []*arbiter.Arbiter{nil, {}} {
		for i, e := range []api.Errno{
			a.Configure(api.Arbitration{}), a.Configure(api.Arbitration{Burst: 3}),
			a.Add(1, api.Low), a.Add(-1, api.Low), a.Add(1, 4),
			a.Remove(1), a.Remove(65536),
		} {
			if e != api.ErrNil {
				t.Errorf("call %d: %v", i, e)
			}
		}
		pickFails(t, a, api.ErrNil)
		pickFails(t, a, api.ErrNil, api.Load{Queue: 1, Waiting: 1})
		pickFails(t, a, api.ErrNil, api.Load{Queue: -1, Waiting: -1})
		has(t, a)
		if c := a.Copy(); c != nil {
			t.Errorf("Copy: %v", c)
		}
	}
}

// P3.4: a copy is in the same state: configuration, queues, credits, and the queues picked last.
func TestCopyState(t *testing.T) {
	a := made(t, api.Arbitration{Weighted: true, Burst: 2, High: 3, Medium: 1, Low: 2}, entry{1, api.High}, entry{2, api.High}, entry{3, api.Low}, entry{4, api.Urgent}, entry{5, api.Urgent})
	all := []api.Load{{Queue: 1, Waiting: 7}, {Queue: 2, Waiting: 7}, {Queue: 3, Waiting: 7}}
	picks(t, a, 4, 2, append(all, api.Load{Queue: 4, Waiting: 2}, api.Load{Queue: 5, Waiting: 2})...)
	picks(t, a, 1, 2, all...)
	for range 12 {
		c := a.Copy()
		has(t, c, entries(t, a)...)
		sameFuture(t, a, c)
		q, n, e := a.Pick(all...)
		if r, m, f := c.Copy().Pick(all...); q != r || n != m || e != f {
			t.Errorf("%d, %d, %v and %d, %d, %v", q, n, e, r, m, f)
		}
	}
	picks(t, a.Copy(), 5, 1, api.Load{Queue: 4, Waiting: 1}, api.Load{Queue: 5, Waiting: 1})
}

// P3.4: neither the original nor the copy sees changes of the other.
func TestCopyIndependent(t *testing.T) {
	c := api.Arbitration{Weighted: true, High: 2, Medium: 1, Low: 1}
	a := made(t, c, entry{1, api.High}, entry{2, api.High}, entry{3, api.Low})
	loads := []api.Load{{Queue: 1, Waiting: 1}, {Queue: 2, Waiting: 1}, {Queue: 3, Waiting: 1}}
	change := func(x *arbiter.Arbiter) {
		picks(t, x, 1, 1, loads...)
		picks(t, x, 2, 1, loads...)
		picks(t, x, 3, 1, loads...)
		x.Remove(2)
		x.Remove(3)
		x.Add(3, api.Urgent)
		x.Add(7, api.Medium)
		x.Configure(api.Arbitration{Burst: 8})
	}
	untouched := made(t, c, entry{1, api.High}, entry{2, api.High}, entry{3, api.Low})
	b := a.Copy()
	change(b)
	sameFuture(t, a, untouched)
	has(t, b, entry{1, api.High}, entry{3, api.Urgent}, entry{7, api.Medium})
	b = a.Copy()
	change(a)
	sameFuture(t, b, untouched)
	has(t, b, entry{1, api.High}, entry{2, api.High}, entry{3, api.Low})
}

// P3.4: a copy of an arbiter without queues is an arbiter.
func TestCopyEmpty(t *testing.T) {
	c := made(t, api.Arbitration{}).Copy()
	if c == nil {
		t.Fatal("no copy")
	}
	has(t, c)
	pickFails(t, c, api.ErrNone)
	if e := c.Add(1, api.Low); e != api.OK {
		t.Error(e)
	}
	picks(t, c, 1, 3, api.Load{Queue: 1, Waiting: 3})
}
