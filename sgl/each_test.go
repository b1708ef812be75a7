package sgl_test

import (
	"math"
	"slices"
	"testing"

	"capsule/api"
	"capsule/memory"
	"capsule/sgl"
)

// listing returns a memory with a list of so many data descriptors in two segments, its first descriptor, the number of its bytes and its spans.
func listing(t *testing.T, count int) (m *memory.Memory, first api.Descriptor, n int, want []api.Span) {
	t.Helper()
	var l []api.Descriptor
	for i := range count {
		d := block(uint64(i), 1+i%5)
		if i%3 == 1 {
			d = bucket(2 + i%7)
		}
		l = append(l, d)
		want = append(want, api.Span{Addr: d.Addr, Len: d.Len, Bucket: i%3 == 1})
		n += d.Len
	}
	m, first = divided(t, 6, api.SGLLast, l, count/2, count-count/2)
	return m, first, n, want
}

// P15.3: the spans are numbered from 0, and the iterator may be used again.
func TestEach(t *testing.T) {
	for _, count := range []int{2, 3, 10, 500, 1022} {
		m, first, n, want := listing(t, count)
		all := sgl.Each(m, first, n, true)
		for range 3 {
			if l := collected(t, all); !slices.Equal(l, want) {
				t.Errorf("%d descriptors: %v, not %v", count, brief(l), brief(want))
			}
		}
	}
	m := made(t, 1)
	put(t, m, 1000, block(4, 9), bucket(3), block(20, 2))
	for n, want := range map[int][]api.Span{0: nil, 5: {at(4, 5)}, 9: {at(4, 9)}, 13: {at(4, 9), hole(3), at(20, 1)}} {
		if l := collected(t, sgl.Each(m, last(1000, 3), n, true)); !slices.Equal(l, want) {
			t.Errorf("%d bytes: %v, not %v", n, l, want)
		}
	}
	if l := collected(t, sgl.Each(m, last(1000, 3), 11, false)); !slices.Equal(l, []api.Span{at(4, 9), at(20, 2)}) {
		t.Errorf("from the host: %v", l)
	}
}

// P15.3: an iterator over nothing where Spans returns an error, whichever it is, also where only the last descriptor is wrong.
func TestEachOfErrors(t *testing.T) {
	m, first, n, _ := listing(t, 60)
	wrong := m.Copy()
	put(t, wrong, 6*pageBytes-itemBytes, block(farAway, 5))
	put(t, m, 0, more(0, 1))
	put(t, m, 100, api.Descriptor{Kind: api.SGLBucket, Addr: 1, Len: 5}, api.Descriptor{})
	gives(t, "Write", m.Write(131, []byte{9}), api.OK)
	for _, c := range []struct {
		m     *memory.Memory
		first api.Descriptor
		n     int
		e     api.Errno
	}{
		{nil, first, n, api.ErrNil}, {&memory.Memory{}, first, n, api.ErrNil}, {m, api.Descriptor{}, 4, api.ErrArg}, {m, first, -1, api.ErrArg}, {m, first, mostBytes + 1, api.ErrArg},
		{m, last(100, 1), 5, api.ErrArg}, {m, last(116, 1), 5, api.ErrType}, {m, more(0, 1), 1, api.ErrLong}, {m, last(0, 1), 1, api.ErrSegment}, {m, last(0, 0), 1, api.ErrSegment},
		{m, last(math.MaxUint64, 1), 1, api.ErrRange}, {m, block(math.MaxUint64, 1), 1, api.ErrRange}, {m, first, n + 1, api.ErrLength}, {wrong, first, n, api.ErrRange},
	} {
		if l, e := sgl.Spans(c.m, c.first, c.n, true); len(l) != 0 || e != c.e {
			t.Errorf("Spans(%v, %d): %v %v, not %v", c.first, c.n, brief(l), e, c.e)
		}
		all := sgl.Each(c.m, c.first, c.n, true)
		if all == nil {
			t.Fatal("no iterator")
		}
		for range 2 {
			for number, s := range all {
				t.Errorf("Each(%v, %d): %d %v", c.first, c.n, number, s)
			}
		}
	}
}

// P15.3: a loop that is left after each number of spans; the iterator begins at the beginning when it is used again.
func TestEachLeftEarly(t *testing.T) {
	m, first, n, want := listing(t, 60)
	all := sgl.Each(m, first, n, true)
	for leave := 1; leave <= len(want); leave++ {
		var l []api.Span
		for _, s := range all {
			l = append(l, s)
			if len(l) == leave {
				break
			}
		}
		if !slices.Equal(l, want[:leave]) {
			t.Errorf("left after %d: %v", leave, brief(l))
		}
	}
	calls := 0
	all(func(int, api.Span) bool {
		calls++
		return false
	})
	if calls != 1 {
		t.Errorf("left at once: %d calls", calls)
	}
	if l := collected(t, all); !slices.Equal(l, want) {
		t.Errorf("used again: %v", brief(l))
	}
}

// P15.3: an iterator that is used within itself.
func TestEachWithinItself(t *testing.T) {
	m, first, n, _ := listing(t, 3)
	all := sgl.Each(m, first, n, true)
	var l [][2]int
	for a := range all {
		for b := range all {
			l = append(l, [2]int{a, b})
			if b == a {
				break
			}
		}
	}
	if !slices.Equal(l, [][2]int{{0, 0}, {1, 0}, {1, 1}, {2, 0}, {2, 1}, {2, 2}}) {
		t.Errorf("%v", l)
	}
}

// P15.3: an iterator yields the spans as the memory was at the time of the call, after the list has been changed, also within the loop, and whether it is right or wrong then.
func TestEachAfterChanges(t *testing.T) {
	for _, value := range []byte{0, 0x10, 0xFF} {
		for _, count := range []int{3, 52, 1022} {
			m, first, n, want := listing(t, count)
			unused, used, within := sgl.Each(m, first, n, true), sgl.Each(m, first, n, true), sgl.Each(m, first, n, true)
			if l := collected(t, used); !slices.Equal(l, want) {
				t.Errorf("%d descriptors: %v", count, brief(l))
			}
			var l []api.Span
			for _, s := range within {
				l = append(l, s)
				gives(t, "Fill", m.Fill(0, m.Size(), value), api.OK)
			}
			if !slices.Equal(l, want) {
				t.Errorf("%d descriptors, changed within the loop: %v", count, brief(l))
			}
			for _, all := range []func(func(int, api.Span) bool){unused, used} {
				if l := collected(t, all); !slices.Equal(l, want) {
					t.Errorf("%d descriptors, changed to %d: %v", count, value, brief(l))
				}
			}
		}
	}
}

// P15.3: an iterator over nothing stays one when the list has become right.
func TestEachOfErrorsAfterChanges(t *testing.T) {
	m := made(t, 1)
	put(t, m, 0, block(100, 5), block(farAway, 5))
	all := sgl.Each(m, last(0, 2), 10, true)
	put(t, m, 16, block(200, 5))
	for number, s := range all {
		t.Errorf("%d %v", number, s)
	}
	yields(t, m, last(0, 2), 10, at(100, 5), at(200, 5))
}
