package memory_test

import (
	"slices"
	"testing"

	"capsule/api"
	"capsule/memory"
)

// after returns a memory of one page after so many writes.
func after(t *testing.T, n int) pair {
	t.Helper()
	p := newPair(t, 1)
	p.more(t, n)
	return p
}

// more makes so many writes, of one and of two bytes, by Write and by Fill, each at an address of its own as long as there are not too many.
func (p pair) more(t *testing.T, n int) {
	t.Helper()
	for range n {
		i := len(p.want.writes)
		addr := uint64(i * 7 % 4000)
		if i%3 == 0 {
			p.fill(t, addr, 1+i%2, byte(i))
		} else {
			p.write(t, addr, make([]byte, 1+i%2))
		}
	}
}

// P13.3: after no write, one write, fewer than MaxLog, MaxLog, one more and several times as many: the last ones, oldest first, with their numbers.
func TestLog(t *testing.T) {
	for _, n := range []int{0, 1, 2, 3, 100, 254, 255, 256, 257, 258, 300, 511, 512, 513, 767, 768, 769, 1000, 2560, 5000} {
		p := after(t, n)
		l := listed(p.m)
		if !slices.Equal(l, p.want.last()) {
			t.Errorf("after %d writes: %v", n, l)
		}
		if len(l) != min(n, 256) {
			t.Errorf("after %d writes: %d logged", n, len(l))
		}
		for i, w := range l {
			if w.number != n-len(l)+i || w.span.Bucket {
				t.Errorf("after %d writes: %v at %d", n, w, i)
			}
		}
	}
}

// P13.3: the log after each one of many writes.
func TestLogAfterEachWrite(t *testing.T) {
	p := newPair(t, 1)
	for n := range 800 {
		if l := listed(p.m); !slices.Equal(l, p.want.last()) {
			t.Fatalf("after %d writes: %v", n, l)
		}
		p.more(t, 1)
	}
}

// P13.3: equal writes are logged each time, and one that does not change a byte, too.
func TestEqualWrites(t *testing.T) {
	m := made(t, 1)
	for range 3 {
		writes(t, m, 4, 0, 0)
		gives(t, "Fill", m.Fill(4, 2, 0), api.OK)
	}
	logs(t, m, of(0, 4, 2), of(1, 4, 2), of(2, 4, 2), of(3, 4, 2), of(4, 4, 2), of(5, 4, 2))
}

// P13.3: the longest spans and those that end with the memory are logged as one write.
func TestLogLongSpans(t *testing.T) {
	m := made(t, mostPages)
	const size = mostPages * pageBytes
	gives(t, "Fill", m.Fill(0, size, 1), api.OK)
	writes(t, m, 0, make([]byte, size)...)
	gives(t, "Fill", m.Fill(size-1, 1, 1), api.OK)
	writes(t, m, 1, make([]byte, size-1)...)
	writes(t, m, 4095, 1, 2)
	logs(t, m, of(0, 0, size), of(1, 0, size), of(2, size-1, 1), of(3, 1, size-1), of(4, 4095, 2))
}

// P13.3: a loop that is left after each number of writes; the iterator begins at the beginning when it is used again.
func TestWritesLeftEarly(t *testing.T) {
	for _, n := range []int{1, 5, 256, 300} {
		p := after(t, n)
		all, whole := p.m.Writes(), p.want.last()
		for leave := 1; leave <= len(whole); leave++ {
			var l []logged
			for number, s := range all {
				l = append(l, logged{number, s})
				if len(l) == leave {
					break
				}
			}
			if !slices.Equal(l, whole[:leave]) {
				t.Errorf("%d writes, left after %d: %v", n, leave, l)
			}
		}
		calls := 0
		all(func(int, api.Span) bool {
			calls++
			return false
		})
		if calls != 1 {
			t.Errorf("%d writes, left at once: %d calls", n, calls)
		}
		for range 2 {
			var l []logged
			all(func(number int, s api.Span) bool {
				l = append(l, logged{number, s})
				return true
			})
			if !slices.Equal(l, whole) {
				t.Errorf("%d writes, used again: %v", n, l)
			}
		}
		p.is(t)
	}
}

// P13.3: an iterator that is used within itself.
func TestWritesWithinItself(t *testing.T) {
	p := after(t, 3)
	all := p.m.Writes()
	var l [][2]int
	for a := range all {
		for b := range all {
			l = append(l, [2]int{a, b})
			if b == a {
				break
			}
		}
	}
	if !slices.Equal(l, [][2]int{{0, 0}, {1, 0}, {1, 1}, {2, 0}, {2, 1}, {2, 2}}) {
		t.Errorf("%v", l)
	}
}

// P13.3: an iterator yields the writes as they were at the time of the call, after further writes, after enough of them to fill the log again, after Clear, and while the memory is written.
func TestWritesAfterChanges(t *testing.T) {
	for _, n := range []int{0, 1, 5, 255, 256, 257, 600} {
		for _, further := range []int{0, 1, 200, 256, 300} {
			p := after(t, n)
			unused, used, want := p.m.Writes(), p.m.Writes(), slices.Clone(p.want.last())
			yields := func(all func(func(int, api.Span) bool), when string) {
				t.Helper()
				var l []logged
				for number, s := range all {
					l = append(l, logged{number, s})
				}
				if !slices.Equal(l, want) {
					t.Errorf("%d writes, %d further ones, %s: %v", n, further, when, l)
				}
			}
			yields(used, "at once")
			p.more(t, further)
			yields(used, "after them")
			p.clear(t)
			yields(used, "after Clear")
			p.more(t, 3)
			yields(used, "after Clear and writes")
			yields(unused, "used late")
			p.is(t)
		}
	}
}

// P13.3: a memory that is written and cleared while its writes are yielded.
func TestChangesWithinLoop(t *testing.T) {
	for _, n := range []int{1, 10, 256, 300} {
		p := after(t, n)
		want := slices.Clone(p.want.last())
		var l []logged
		for number, s := range p.m.Writes() {
			l = append(l, logged{number, s})
			p.more(t, 2)
			if len(l)%100 == 0 {
				p.clear(t)
			}
		}
		if !slices.Equal(l, want) {
			t.Errorf("%d writes: %v", n, l)
		}
		p.is(t)
	}
}

// P13.3: Clear empties the log, whatever it contains, leaves the bytes as they are, and the next writes have the numbers from 0 on.
func TestClear(t *testing.T) {
	for _, n := range []int{0, 1, 5, 255, 256, 257, 700} {
		p := after(t, n)
		for _, further := range []int{1, 2, 0, 255, 256, 257, 600} {
			for range 2 {
				p.clear(t)
				logs(t, p.m)
				p.is(t)
			}
			p.more(t, 1)
			if further > 0 {
				logs(t, p.m, of(0, 0, 1))
				p.more(t, further-1)
			}
			p.is(t)
		}
	}
}

// P13.3: writes of no byte and calls that fail do not count after Clear either.
func TestNumbersAfterClear(t *testing.T) {
	m := made(t, 1)
	writes(t, m, 0, 1, 2)
	gives(t, "Clear", m.Clear(), api.OK)
	gives(t, "Write", m.Write(0, nil), api.OK)
	gives(t, "Fill", m.Fill(4096, 1, 1), api.ErrRange)
	gives(t, "Fill", m.Fill(0, -1, 1), api.ErrArg)
	logs(t, m)
	writes(t, m, 9, 1)
	writes(t, m, 8, 1, 2)
	logs(t, m, of(0, 9, 1), of(1, 8, 2))
	reads(t, m, 0, 1, 2, 0)
}

// P13.3: the iterator over nothing of a nil and of a zero memory, also used again.
func TestWritesOfNothing(t *testing.T) {
	for _, m := range []*memory.Memory{nil, {}, made(t, 1)} {
		all := m.Writes()
		if all == nil {
			t.Fatal("no iterator")
		}
		for range 2 {
			for number, s := range all {
				t.Errorf("%d %v", number, s)
			}
		}
	}
}
