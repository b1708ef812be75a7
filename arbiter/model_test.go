package arbiter_test

import (
	"testing"

	"capsule/api"
	"capsule/arbiter"
)

// numbers are the numbers of queues that the model uses: few, so that queues come and go, with both limits.
var numbers = []int{0, 1, 2, 3, 4, 700, 701, 65534, 65535}

// model is an arbiter as the chapter words it, with tables that are searched from the lowest number on.
type model struct {
	c      api.Arbitration
	class  map[int]api.Class
	last   map[api.Class]int
	credit map[api.Class]int
}

func (m *model) configure(c api.Arbitration) {
	m.c = c
	m.fill()
}

func (m *model) fill() {
	m.credit = map[api.Class]int{api.High: m.c.High, api.Medium: m.c.Medium, api.Low: m.c.Low}
}

// waits reports whether a queue of this class has waiting commands.
func (m *model) waits(class api.Class, waiting map[int]int) bool {
	for queue, n := range waiting {
		if n > 0 && m.class[queue] == class {
			return true
		}
	}
	return false
}

func (m *model) first(waiting map[int]int) api.Class {
	for _, class := range []api.Class{api.High, api.Medium, api.Low} {
		if m.waits(class, waiting) && m.credit[class] > 0 {
			return class
		}
	}
	return -1
}

// pick returns the pick for commands that wait; at least one must.
func (m *model) pick(waiting map[int]int) (int, int) {
	class := api.Urgent
	if m.c.Weighted && !m.waits(api.Urgent, waiting) {
		if class = m.first(waiting); class < 0 {
			m.fill()
			class = m.first(waiting)
		}
	}
	last, picked := m.last[class]
	lowest, above := -1, -1
	for _, queue := range numbers {
		if waiting[queue] == 0 || m.c.Weighted && m.class[queue] != class {
			continue
		}
		if lowest < 0 {
			lowest = queue
		}
		if above < 0 && picked && queue > last {
			above = queue
		}
	}
	queue := above
	if queue < 0 {
		queue = lowest
	}
	n := waiting[queue]
	if m.c.Burst > 0 && n > m.c.Burst {
		n = m.c.Burst
	}
	if m.c.Weighted && class != api.Urgent {
		if n > m.credit[class] {
			n = m.credit[class]
		}
		m.credit[class] -= n
	}
	m.last[class] = queue
	return queue, n
}

// TestModel compares long sequences of calls with the model (P3.1 to P3.4).
func TestModel(t *testing.T) {
	seed := uint64(42)
	below := func(n int) int {
		seed = following(seed)
		return int(seed>>33) % n
	}
	for run := range 60 {
		c := validConfigs[run%len(validConfigs)]
		a := made(t, c)
		m := &model{class: map[int]api.Class{}, last: map[api.Class]int{}}
		m.configure(c)
		for range 400 {
			step(t, a, m, below)
			if below(50) == 0 {
				a = a.Copy()
			}
		}
	}
}

// step makes one call, mostly a pick.
func step(t *testing.T, a *arbiter.Arbiter, m *model, below func(int) int) {
	t.Helper()
	queue := numbers[below(len(numbers))]
	_, there := m.class[queue]
	switch below(12) {
	case 0, 1:
		class, want := api.Class(below(4)), api.OK
		if there {
			want = api.ErrBusy
		} else {
			m.class[queue] = class
		}
		if e := a.Add(queue, class); e != want {
			t.Fatalf("Add(%d, %d): %v, not %v", queue, class, e, want)
		}
	case 2:
		want := api.ErrNone
		if there {
			want = api.OK
			delete(m.class, queue)
		}
		if e := a.Remove(queue); e != want {
			t.Fatalf("Remove(%d): %v, not %v", queue, e, want)
		}
	case 3:
		if below(4) == 0 {
			c := api.Arbitration{Weighted: below(4) > 0, Burst: []int{0, 1, 2, 4, 128}[below(5)], High: 1 + below(6), Medium: 1 + below(6), Low: 1 + below(6)}
			m.configure(c)
			if e := a.Configure(c); e != api.OK {
				t.Fatalf("Configure(%v): %v", c, e)
			}
		}
		var l []entry
		for _, queue := range numbers {
			if class, there := m.class[queue]; there {
				l = append(l, entry{queue, class})
			}
		}
		has(t, a, l...)
	default:
		comparePicks(t, a, m, below)
	}
}

func comparePicks(t *testing.T, a *arbiter.Arbiter, m *model, below func(int) int) {
	t.Helper()
	waiting, total := map[int]int{}, 0
	var loads []api.Load
	for i := range numbers {
		queue := numbers[len(numbers)-1-i]
		if _, there := m.class[queue]; there && below(3) > 0 {
			waiting[queue] = below(3) * (1 + below(5))
			total += waiting[queue]
			loads = append(loads, api.Load{Queue: queue, Waiting: waiting[queue]})
		}
	}
	if total == 0 {
		pickFails(t, a, api.ErrNone, loads...)
		return
	}
	queue, n := m.pick(waiting)
	if q, k, e := a.Pick(loads...); q != queue || k != n || e != api.OK {
		t.Fatalf("%v, Pick(%v): %d, %d, %v, not %d, %d", m, loads, q, k, e, queue, n)
	}
}
