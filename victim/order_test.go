package victim_test

import (
	"slices"
	"testing"

	"capsule/api"
	"capsule/victim"
)

// picked returns the candidates of a list with these indices.
func picked(l []api.Candidate, indices ...int) []placed {
	var p []placed
	for _, i := range indices {
		p = append(p, placed{i, l[i]})
	}
	return p
}

// orders fails the test unless Order yields the candidates with these indices.
func orders(t *testing.T, l []api.Candidate, indices ...int) {
	t.Helper()
	if p := listed(victim.Order(l...)); !slices.Equal(p, picked(l, indices...)) {
		t.Errorf("Order(%v): %v, not %v", l, p, indices)
	}
}

// P9.3: few candidates, and such ones that are not useful.
func TestOrderFew(t *testing.T) {
	full := of(7, 4, 4, 9)
	orders(t, nil)
	orders(t, []api.Candidate{})
	orders(t, []api.Candidate{full})
	orders(t, []api.Candidate{full, full, of(0, 1, 1, 0)})
	orders(t, []api.Candidate{of(7, 3, 4, 9)}, 0)
	orders(t, []api.Candidate{full, of(7, 3, 4, 9), full}, 1)
	orders(t, []api.Candidate{full, of(7, 3, 4, 9), full, of(7, 2, 4, 9)}, 3, 1)
	orders(t, []api.Candidate{of(0, 1, 4, 6), of(1, 2, 4, 20), full, of(2, 3, 4, 50), of(3, 0, 4, 0)}, 4, 1, 0, 3)
}

// P9.3: any order of candidates that differ by score, by age, and by block.
func TestOrderPermutations(t *testing.T) {
	sorted := []api.Candidate{
		of(9, 0, 4, 1), of(7, 0, 4, 0), of(8, 0, 9, 0), // infinite
		of(9, 2, 4, 18), of(5, 1, 4, 6), of(6, 1, 4, 6), // 9
		of(0, 3, 4, 5), // 5/6
	}
	for p := range permutations(sorted) {
		var indices []int
		for _, c := range sorted {
			indices = append(indices, slices.Index(p, c))
		}
		orders(t, p, indices...)
		if t.Failed() {
			return
		}
	}
}

// P9.3: candidates of which none is preferred keep their order, also if there are many of them.
func TestOrderEqual(t *testing.T) {
	c, better, worse := of(5, 1, 4, 6), of(5, 1, 4, 7), of(5, 1, 4, 5)
	orders(t, []api.Candidate{c, c, c}, 0, 1, 2)
	orders(t, []api.Candidate{c, worse, c, better, c, worse, better}, 3, 6, 0, 2, 4, 1, 5)
	// 4/2, 8/4 and 16/8 with the same age and block.
	orders(t, []api.Candidate{of(3, 1, 2, 4), of(3, 4, 8, 4), of(3, 2, 4, 4)}, 0, 1, 2)
	orders(t, []api.Candidate{of(3, 2, 4, 4), of(3, 1, 2, 4), of(2, 4, 8, 4)}, 2, 0, 1)
	var l []api.Candidate
	var first, second []int
	for i := range 500 {
		l = append(l, []api.Candidate{of(3, 1, 2, 4), of(4, 1, 2, 4), of(3, 2, 4, 4)}[i%3])
		if i%3 == 1 {
			second = append(second, i)
		} else {
			first = append(first, i)
		}
	}
	orders(t, l, append(first, second...)...)
}

// P9.3: nothing is yielded if a candidate is not valid, at any place.
func TestOrderNotValid(t *testing.T) {
	for _, c := range notValid() {
		for place := range 4 {
			l := []api.Candidate{of(1, 0, 4, 6), of(2, 1, 4, 6), of(3, 2, 4, 6), of(4, 4, 4, 6)}
			l[place] = c
			orders(t, l)
		}
		orders(t, []api.Candidate{c})
	}
}

// P9.3: an iterator that is left after each number of candidates, and used again: it begins at the beginning.
func TestOrderLeftEarly(t *testing.T) {
	l := spare()
	want := picked(l, 4, 2, 3, 0)
	s := victim.Order(l...)
	for n := 1; n <= len(want); n++ {
		var p []placed
		for i, c := range s {
			p = append(p, placed{i, c})
			if len(p) == n {
				break
			}
		}
		if !slices.Equal(p, want[:n]) {
			t.Errorf("left after %d: %v", n, p)
		}
	}
	for range 2 {
		if p := listed(s); !slices.Equal(p, want) {
			t.Errorf("used again: %v", p)
		}
	}
	calls := 0
	s(func(int, api.Candidate) bool {
		calls++
		return false
	})
	if calls != 1 {
		t.Errorf("left at once: %d calls", calls)
	}
}

// P9.3: an iterator that is used within itself, and two of them in turn.
func TestOrderWithin(t *testing.T) {
	l := spare()
	want := picked(l, 4, 2, 3, 0)
	s := victim.Order(l...)
	var p []placed
	for i, c := range s {
		p = append(p, placed{i, c})
		if q := listed(s); !slices.Equal(q, want) {
			t.Errorf("within itself: %v", q)
		}
		orders(t, l[:3], 2, 0)
	}
	if !slices.Equal(p, want) {
		t.Errorf("%v", p)
	}
}

// P9.3: an iterator yields the candidates as they were at the time of the call, whatever happens to the arguments before it is used, while it is used, and between its uses.
func TestOrderAtTheTimeOfTheCall(t *testing.T) {
	l := spare()
	want := picked(spare(), 4, 2, 3, 0)
	s := victim.Order(l...)
	changes := []api.Candidate{of(0, 0, 4, 9), of(1, 4, 4, 9), of(2, 9, 4, 9), {}}
	for _, c := range changes {
		for i := range l {
			l[i] = c
		}
		var p []placed
		for i, d := range s {
			p = append(p, placed{i, d})
			l[len(p)] = of(8, len(p), 4, 1)
		}
		if !slices.Equal(p, want) {
			t.Errorf("%v, not %v", p, want)
		}
	}
	l = []api.Candidate{of(0, 5, 4, 6), of(1, 1, 4, 6)}
	s = victim.Order(l...)
	l[0].Valid = 1
	if p := listed(s); p != nil {
		t.Errorf("a candidate that was not valid: %v", p)
	}
	orders(t, l, 0, 1)
}

// P9.3: iterators of the same arguments have nothing to do with each other, nor with the candidates that they yield.
func TestOrderApart(t *testing.T) {
	l := spare()
	a, b := victim.Order(l...), victim.Order(l...)
	for _, c := range a {
		c.Valid, c.Age = 99, -1
		if p := listed(b); !slices.Equal(p, picked(l, 4, 2, 3, 0)) {
			t.Errorf("%v", p)
		}
	}
	if p := listed(a); !slices.Equal(p, picked(l, 4, 2, 3, 0)) {
		t.Errorf("%v", p)
	}
}
