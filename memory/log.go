package memory

import (
	"iter"

	"capsule/api"
)

// log is the last writes. The one with a number is at that number modulo MaxLog.
type log struct {
	spans [MaxLog]api.Span
	next  int // the number of the next write
}

// add logs a write, unless it has no bytes.
func (l *log) add(s api.Span) {
	if s.Len == 0 {
		return
	}
	l.spans[l.next%MaxLog] = s
	l.next++
}

func (l *log) forget() {
	*l = log{}
}

// writes yields the logged writes, oldest first. It takes the log as a value, so that the iterator does not see later writes.
func (l log) writes() iter.Seq2[int, api.Span] {
	return func(yield func(int, api.Span) bool) {
	writes:
		for number := max(0, l.next-MaxLog); number < l.next; number++ {
			if !yield(number, l.spans[number%MaxLog]) {
				break writes
			}
		}
	}
}
