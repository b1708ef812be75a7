package prp_test

import (
	"math"
	"slices"
	"testing"

	"capsule/api"
	"capsule/memory"
	"capsule/prp"
)

// listing returns a memory with a transfer of so many pages, and its first and second address, its length and its spans.
func listing(t *testing.T, pages int) (m *memory.Memory, first, second uint64, n int, want []api.Span) {
	t.Helper()
	further := turns(pages-1, 5)
	second = 7*pageBytes - 8*50
	m = filled(t, laid(t, 8, []uint64{second, 5 * pageBytes}, further))
	n = lengthOf(4, pages, 3)
	return m, 4, second, n, spansOf(4, further, n)
}

// P14.2: the spans are numbered from 0, and the iterator may be used again.
func TestEach(t *testing.T) {
	for _, pages := range []int{3, 4, 50, 51, 52, 53, 200, 257} {
		m, first, second, n, want := listing(t, pages)
		all := prp.Each(m, first, second, n)
		for range 3 {
			if l := collected(t, all); !slices.Equal(l, want) {
				t.Errorf("%d pages: %v, not %v", pages, brief(l), brief(want))
			}
		}
	}
	m := made(t, 2)
	for n, want := range map[int][]api.Span{0: nil, 9: {at(4, 9)}, 5000: {at(4, 4092), at(4096, 908)}} {
		if l := collected(t, prp.Each(m, 4, 4096, n)); !slices.Equal(l, want) {
			t.Errorf("%d bytes: %v, not %v", n, l, want)
		}
	}
}

// P14.2: an iterator over nothing where Spans returns an error, also where only the last address is wrong.
func TestEachOfErrors(t *testing.T) {
	m, first, second, n, _ := listing(t, 60)
	put(t, m, 5*pageBytes+8*9, 1)
	for _, c := range []struct {
		m             *memory.Memory
		first, second uint64
		n             int
		e             api.Errno
	}{
		{nil, 0, 0, 4, api.ErrNil}, {&memory.Memory{}, 0, 0, 4, api.ErrNil}, {m, 0, 0, -1, api.ErrArg}, {m, 0, 0, mostBytes + 1, api.ErrArg},
		{m, 2, 0, 4, api.ErrOffset}, {m, math.MaxUint64 - 3, 0, 4, api.ErrRange}, {m, 0, 8, 8192, api.ErrOffset}, {m, 0, farAway, 8192, api.ErrRange},
		{m, first, second, n, api.ErrOffset},
	} {
		if l, e := prp.Spans(c.m, c.first, c.second, c.n); len(l) != 0 || e != c.e {
			t.Errorf("Spans(%d, %d, %d): %v %v, not %v", c.first, c.second, c.n, l, e, c.e)
		}
		all := prp.Each(c.m, c.first, c.second, c.n)
		if all == nil {
			t.Fatal("no iterator")
		}
		for range 2 {
			for number, s := range all {
				t.Errorf("Each(%d, %d, %d): %d %v", c.first, c.second, c.n, number, s)
			}
		}
	}
}

// P14.2: a loop that is left after each number of spans; the iterator begins at the beginning when it is used again.
func TestEachLeftEarly(t *testing.T) {
	m, first, second, n, want := listing(t, 60)
	all := prp.Each(m, first, second, n)
	for leave := 1; leave <= len(want); leave++ {
		var l []api.Span
		for _, s := range all {
			l = append(l, s)
			if len(l) == leave {
				break
			}
		}
		if !slices.Equal(l, want[:leave]) {
			t.Errorf("left after %d: %v", leave, brief(l))
		}
	}
	calls := 0
	all(func(int, api.Span) bool {
		calls++
		return false
	})
	if calls != 1 {
		t.Errorf("left at once: %d calls", calls)
	}
	if l := collected(t, all); !slices.Equal(l, want) {
		t.Errorf("used again: %v", brief(l))
	}
}

// P14.2: an iterator that is used within itself.
func TestEachWithinItself(t *testing.T) {
	m, first, second, n, _ := listing(t, 3)
	all := prp.Each(m, first, second, n)
	var l [][2]int
	for a := range all {
		for b := range all {
			l = append(l, [2]int{a, b})
			if b == a {
				break
			}
		}
	}
	if !slices.Equal(l, [][2]int{{0, 0}, {1, 0}, {1, 1}, {2, 0}, {2, 1}, {2, 2}}) {
		t.Errorf("%v", l)
	}
}

// P14.2: an iterator yields the spans as the memory was at the time of the call, after the lists have been changed, also within the loop, and whether they are right or wrong then.
func TestEachAfterChanges(t *testing.T) {
	for _, value := range []byte{0, 0x10, 0xFF} {
		for _, pages := range []int{3, 52, 257} {
			m, first, second, n, want := listing(t, pages)
			unused, used, within := prp.Each(m, first, second, n), prp.Each(m, first, second, n), prp.Each(m, first, second, n)
			if l := collected(t, used); !slices.Equal(l, want) {
				t.Errorf("%d pages: %v", pages, brief(l))
			}
			var l []api.Span
			for _, s := range within {
				l = append(l, s)
				gives(t, "Fill", m.Fill(0, m.Size(), value), api.OK)
			}
			if !slices.Equal(l, want) {
				t.Errorf("%d pages, changed within the loop: %v", pages, brief(l))
			}
			for _, all := range []func(func(int, api.Span) bool){unused, used} {
				if l := collected(t, all); !slices.Equal(l, want) {
					t.Errorf("%d pages, changed to %d: %v", pages, value, brief(l))
				}
			}
		}
	}
}

// P14.2: an iterator over nothing stays one when the lists have become right.
func TestEachOfErrorsAfterChanges(t *testing.T) {
	m := made(t, 4)
	put(t, m, 12288, 4096, 4)
	all := prp.Each(m, 0, 12288, 9000)
	put(t, m, 12288, 4096, 8192)
	for number, s := range all {
		t.Errorf("%d %v", number, s)
	}
	yields(t, m, 0, 12288, 9000, at(0, 4096), at(4096, 4096), at(8192, 808))
}
