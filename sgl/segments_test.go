package sgl_test

import (
	"math"
	"slices"
	"testing"

	"capsule/api"
	"capsule/memory"
	"capsule/sgl"
)

// P15.2: one segment, which the first descriptor names as any or as the last one, at any address.
func TestSpansOneSegment(t *testing.T) {
	for _, addr := range []uint64{0, 1, 7, 16, 100, 4090, 4096, 8192 - 48} {
		p := someBytes(2)
		p.set(addr, block(3000, 10), keyed(8000, 20, 5), bucket(7))
		m := filled(t, p)
		for _, first := range []api.Descriptor{more(addr, 3), last(addr, 3)} {
			yields(t, m, first, 37, at(3000, 10), at(8000, 20), hole(7))
			yields(t, m, first, 36, at(3000, 10), at(8000, 20), hole(6))
			yields(t, m, first, 30, at(3000, 10), at(8000, 20))
			yields(t, m, first, 11, at(3000, 10), at(8000, 1))
			spansAre(t, m, first, 30, false, []api.Span{at(3000, 10), at(8000, 20)}, api.OK)
			spansAre(t, m, first, 31, false, nil, api.ErrLength)
			fails(t, m, first, 38, api.ErrLength)
			for n := range 40 {
				asModel(t, p, first, n)
			}
		}
	}
}

// P15.2: two and three segments that lie in any order, one behind the other, in each other and over the data.
func TestSpansSegments(t *testing.T) {
	m := made(t, 2)
	put(t, m, 4096, block(10, 5), more(0, 2))
	put(t, m, 0, bucket(6), last(5000, 2))
	put(t, m, 5000, keyed(20, 7, 1), block(0, 48))
	yields(t, m, more(4096, 2), 66, at(10, 5), hole(6), at(20, 7), at(0, 48))
	yields(t, m, more(4096, 2), 5, at(10, 5))
	yields(t, m, more(4096, 2), 6, at(10, 5), hole(1))
	yields(t, m, more(4096, 2), 12, at(10, 5), hole(6), at(20, 1))
	fails(t, m, more(4096, 2), 67, api.ErrLength)
	spansAre(t, m, more(4096, 2), 60, false, []api.Span{at(10, 5), at(20, 7), at(0, 48)}, api.OK)
	spansAre(t, m, more(4096, 2), 61, false, nil, api.ErrLength)

	put(t, m, 100, block(1, 1), more(100, 1)) // the next segment lies in this one
	yields(t, m, more(100, 2), 2, at(1, 1), at(1, 1))
	fails(t, m, more(100, 2), 3, api.ErrLength)
}

// P15.2: the segment that a descriptor of SGLSegment names may end with data, with a segment or with the last one; that is the end, or the way to it.
func TestSpansEnds(t *testing.T) {
	m := made(t, 1)
	put(t, m, 500, block(7, 7))
	for _, next := range []api.Descriptor{more(500, 1), last(500, 1)} {
		put(t, m, 0, block(1, 3), next)
		yields(t, m, more(0, 2), 10, at(1, 3), at(7, 7))
		fails(t, m, more(0, 2), 11, api.ErrLength)
		fails(t, m, last(0, 2), 4, api.ErrSegment)
		yields(t, m, last(0, 2), 3, at(1, 3))
		fails(t, m, more(0, 1), 4, api.ErrLength)
		fails(t, m, last(0, 1), 4, api.ErrLength)
	}
}

// P15.2: lengths of a segment that are 0 or no multiple of a descriptor's, of the first and of a further one; whether it lies in the memory is examined later.
func TestSpansSegmentLength(t *testing.T) {
	m := made(t, 1)
	for _, kind := range []api.SGLKind{api.SGLSegment, api.SGLLast} {
		for _, addr := range []uint64{0, 4080, 4096, 4097, farAway, math.MaxUint64} {
			for n := range 100 {
				if n > 0 && n%16 == 0 {
					continue
				}
				first := api.Descriptor{Kind: kind, Addr: addr, Len: n}
				fails(t, m, first, 1, api.ErrSegment)
				fails(t, m, first, mostBytes, api.ErrSegment)
				yields(t, m, first, 0)
				put(t, m, 2000, block(5, 6), first)
				fails(t, m, more(2000, 2), 7, api.ErrSegment)
				yields(t, m, more(2000, 2), 6, at(5, 6))
			}
			for _, n := range []int{1<<32 - 1, 1<<32 - 8, 1<<31 + 1, 4095, 4097, 65535} {
				fails(t, m, api.Descriptor{Kind: kind, Addr: addr, Len: n}, 1, api.ErrSegment)
			}
		}
	}
	put(t, m, 0, block(5, 6), block(7, 8))
	for _, kind := range []api.SGLKind{api.SGLSegment, api.SGLLast} {
		yields(t, m, api.Descriptor{Kind: kind, Len: 16}, 6, at(5, 6))
		fails(t, m, api.Descriptor{Kind: kind, Len: 16}, 7, api.ErrLength)
		fails(t, m, api.Descriptor{Kind: kind, Len: 17}, 6, api.ErrSegment)
		fails(t, m, api.Descriptor{Kind: kind, Len: 24}, 6, api.ErrSegment)
		fails(t, m, api.Descriptor{Kind: kind, Len: 15}, 6, api.ErrSegment)
		fails(t, m, api.Descriptor{Kind: kind, Len: 8}, 6, api.ErrSegment)
		fails(t, m, api.Descriptor{Kind: kind, Len: 0}, 6, api.ErrSegment)
		yields(t, m, api.Descriptor{Kind: kind, Len: 32}, 14, at(5, 6), at(7, 8))
	}
}

// P15.2: a descriptor of a segment at each place of a segment: it is allowed only as the final one of a segment that is not the last one.
func TestSpansSegmentPlaces(t *testing.T) {
	m := made(t, 1)
	put(t, m, 3000, block(900, 9))
	for count := 1; count < 6; count++ {
		for place := range count {
			for _, next := range []api.Descriptor{more(3000, 1), last(3000, 1)} {
				l := slices.Repeat([]api.Descriptor{block(10, 2)}, count)
				l[place] = next
				put(t, m, 0, l...)
				spans := slices.Repeat([]api.Span{at(10, 2)}, place)
				yields(t, m, more(0, count), 2*place, spans...)
				yields(t, m, last(0, count), 2*place, spans...)
				fails(t, m, last(0, count), 2*place+1, api.ErrSegment)
				if place < count-1 {
					fails(t, m, more(0, count), 2*place+1, api.ErrSegment)
					continue
				}
				yields(t, m, more(0, count), 2*place+9, append(spans, at(900, 9))...)
				fails(t, m, more(0, count), 2*place+10, api.ErrLength)
			}
		}
	}
}

// P15.2: the same in the second segment, which is the last one or not; a segment behind the last one stays forbidden.
func TestSpansSegmentPlacesFurther(t *testing.T) {
	m := made(t, 1)
	put(t, m, 3000, block(900, 9))
	for _, next := range []api.Descriptor{more(3000, 1), last(3000, 1)} {
		put(t, m, 1000, block(20, 3), next)
		put(t, m, 0, block(10, 2), more(1000, 2))
		yields(t, m, more(0, 2), 14, at(10, 2), at(20, 3), at(900, 9))
		put(t, m, 0, block(10, 2), last(1000, 2))
		yields(t, m, more(0, 2), 5, at(10, 2), at(20, 3))
		fails(t, m, more(0, 2), 6, api.ErrSegment)
		put(t, m, 1000, next, block(20, 3))
		fails(t, m, more(0, 2), 3, api.ErrSegment)
		put(t, m, 0, block(10, 2), more(1000, 2))
		fails(t, m, more(0, 2), 3, api.ErrSegment)
		yields(t, m, more(0, 2), 2, at(10, 2))
	}
}

// P15.2: segments at the memory's end, one byte beyond it, and at the largest addresses.
func TestSpansSegmentRange(t *testing.T) {
	for _, pages := range []int{1, 2, memory.MaxPages} {
		m := made(t, pages)
		size := uint64(pages * pageBytes)
		put(t, m, size-32, block(5, 6), block(7, 8))
		for _, kind := range []api.SGLKind{api.SGLSegment, api.SGLLast} {
			d := func(addr uint64, items int) api.Descriptor {
				return api.Descriptor{Kind: kind, Addr: addr, Len: items * itemBytes}
			}
			yields(t, m, d(size-32, 2), 14, at(5, 6), at(7, 8))
			yields(t, m, d(size-16, 1), 8, at(7, 8))
			beyond := []api.Descriptor{
				d(size-32, 3), d(size-31, 2), d(size-15, 1), d(size-1, 1), d(size, 1), d(size+1, 1), d(0, int(size)/16+1), d(1, int(size)/16), d(0, 1<<28-1), d(size-32, 1<<28-1),
				d(1<<32, 1), d(farAway, 1), d(1<<63, 1), d(math.MaxUint64, 1), d(math.MaxUint64-15, 1), d(math.MaxUint64-15, 2), d(math.MaxUint64-16, 1), d(1<<64-1<<20, 1<<16),
			}
			for _, first := range beyond {
				fails(t, m, first, 1, api.ErrRange)
				fails(t, m, first, mostBytes, api.ErrRange)
				put(t, m, 0, block(9, 3), first)
				yields(t, m, more(0, 2), 3, at(9, 3))
				fails(t, m, more(0, 2), 4, api.ErrRange)
				fails(t, m, last(0, 2), 4, api.ErrSegment)
			}
		}
	}
}

// P15.2: a segment of the largest memory has more descriptors than are examined, but lies in the memory.
func TestSpansLongestSegment(t *testing.T) {
	m := made(t, memory.MaxPages)
	first := last(0, m.Size()/itemBytes)
	put(t, m, 1022*itemBytes, block(8, 5))
	yields(t, m, first, 5, at(8, 5))
	fails(t, m, first, 6, api.ErrLong)
	put(t, m, 1022*itemBytes, block(8, 0), block(8, 5))
	fails(t, m, first, 1, api.ErrLong)
}

// P15.2, P1: segments that name themselves and each other.
func TestSpansCircles(t *testing.T) {
	m := made(t, 1)
	put(t, m, 0, more(0, 1))
	fails(t, m, more(0, 1), 1, api.ErrLong)
	fails(t, m, last(0, 1), 1, api.ErrSegment)
	yields(t, m, more(0, 1), 0)

	put(t, m, 0, block(100, 3), more(0, 2))
	// Of the 1024 descriptors the second one and each second one after it is data: 512 of them.
	yields(t, m, more(0, 2), 512*3, slices.Repeat([]api.Span{at(100, 3)}, 512)...)
	fails(t, m, more(0, 2), 512*3+1, api.ErrLong)
	fails(t, m, last(0, 2), 4, api.ErrSegment)

	put(t, m, 0, bucket(2), more(1000, 3))
	put(t, m, 1000, block(100, 3), keyed(200, 4, 7), more(0, 2))
	round := []api.Span{hole(2), at(100, 3), at(200, 4)}
	// The first descriptor is followed by 204 rounds of five and by three of the next round.
	spans := append(slices.Repeat(round, 204), hole(2), at(100, 3))
	yields(t, m, more(0, 2), 204*9+5, spans...)
	fails(t, m, more(0, 2), 204*9+6, api.ErrLong)
	spansAre(t, m, more(0, 2), 204*7+3, false, slices.DeleteFunc(spans, func(s api.Span) bool { return s.Bucket }), api.OK)
	spansAre(t, m, more(0, 2), 204*7+4, false, nil, api.ErrLong)

	put(t, m, 1000, block(100, 3), keyed(200, 4, 7), last(0, 2))
	yields(t, m, more(0, 2), 11, hole(2), at(100, 3), at(200, 4), hole(2))
	fails(t, m, more(0, 2), 12, api.ErrSegment)
}

// divided returns a memory with a list whose descriptors stand in segments of these numbers of descriptors, without those of segments, and the first descriptor.
func divided(t *testing.T, pages int, lastKind api.SGLKind, l []api.Descriptor, counts ...int) (*memory.Memory, api.Descriptor) {
	t.Helper()
	p := someBytes(pages)
	first := api.Descriptor{Kind: lastKind}
	// The segments are laid from the last one on, from the memory's end on.
	at := uint64(pages * pageBytes)
	for i, count := range slices.Backward(counts) {
		items := slices.Clone(l[len(l)-count:])
		l = l[:len(l)-count]
		if i < len(counts)-1 {
			items = append(items, first)
			first.Kind = api.SGLSegment
		}
		first.Len = len(items) * itemBytes
		at -= uint64(first.Len)
		p.set(at, items...)
		first.Addr = at
		at -= uint64(i % 3)
	}
	return filled(t, p), first
}

// P15.5: a list of six descriptors that is divided into segments in every way, also into some of no descriptors but that of the next segment, has the spans of the list in one segment.
func TestSpansDivided(t *testing.T) {
	l := []api.Descriptor{block(10, 4), bucket(3), keyed(20, 5, 1), block(0, 0), bucket(2), block(40, 6)}
	one, whole := divided(t, 1, api.SGLLast, l, len(l))
	for cuts := range 1 << 5 {
		counts := []int{1}
		for i := range 5 {
			if cuts>>i&1 == 0 {
				counts[len(counts)-1]++
			} else {
				counts = append(counts, 1)
			}
		}
		for _, kind := range []api.SGLKind{api.SGLSegment, api.SGLLast} {
			for empty := -1; empty < len(counts); empty++ {
				parts := counts
				if empty >= 0 {
					parts = slices.Insert(slices.Clone(counts), empty, 0)
				}
				m, first := divided(t, 1, kind, l, parts...)
				for n := range 22 {
					for _, toHost := range []bool{true, false} {
						want, e := sgl.Spans(one, whole, n, toHost)
						spansAre(t, m, first, n, toHost, want, e)
					}
				}
			}
		}
	}
}

// within returns how many data descriptors of a divided list are among the first ones.
func within(counts []int, items int) int {
	data := 0
	for _, count := range counts {
		items-- // the descriptor of the segment
		data += max(0, min(count, items))
		items -= count
	}
	return data
}

// limited fails the test unless a divided list, each data descriptor of which has one byte, is examined as far as is allowed.
func limited(t *testing.T, m *memory.Memory, first api.Descriptor, all int, counts []int) {
	t.Helper()
	bytes := within(counts, mostItems)
	for _, n := range []int{0, 1, bytes - 1, bytes} {
		if l, e := sgl.Spans(m, first, n, true); len(l) != n || e != api.OK {
			t.Errorf("%v, %d bytes: %d spans, %v", counts, n, len(l), e)
		}
	}
	want := api.ErrLength
	if all > mostItems {
		want = api.ErrLong
	}
	fails(t, m, first, bytes+1, want)
	fails(t, m, first, mostBytes, want)
}

// P15.2: as many descriptors as are examined, one less, one more and more, in one segment and in several.
func TestSpansMaxDescriptors(t *testing.T) {
	if sgl.MaxDescriptors != mostItems {
		t.Fatal(sgl.MaxDescriptors)
	}
	for _, data := range []int{1000, 1013, 1014, 1015, 1018, 1019, 1020, 1021, 1022, 1023, 1024, 1025, 1100} {
		l := slices.Repeat([]api.Descriptor{block(5, 1)}, data)
		for _, counts := range [][]int{
			{data}, {data - 1, 1}, {1, data - 1}, {500, data - 500}, {500, 0, data - 500}, {500, 300, data - 800}, {0, data}, {0, 0, 0, 0, data}, {1, 1, 1, 1, 1, data - 5}, {100, 200, 300, 50, 50, 100, 50, 50, data - 900},
		} {
			for _, kind := range []api.SGLKind{api.SGLSegment, api.SGLLast} {
				m, first := divided(t, 6, kind, l, counts...)
				limited(t, m, first, data+len(counts), counts)
			}
		}
	}
}

// P15.2: the descriptors that contribute nothing count, too: those of segments, of no bytes, and skipped bit buckets.
func TestSpansMaxDescriptorsOfNothing(t *testing.T) {
	for _, empty := range []int{1000, 1021, 1022, 1023, 1024, 1100} {
		counts := append(make([]int, empty-1), 1)
		m, first := divided(t, 6, api.SGLLast, []api.Descriptor{block(5, 1)}, counts...)
		// There is a descriptor for each segment, and then there is the data.
		want := api.OK
		if empty+1 > mostItems {
			want = api.ErrLong
		}
		_, e := sgl.Spans(m, first, 1, true)
		gives(t, "after segments", e, want)
		for _, d := range []api.Descriptor{block(0, 0), keyed(0, 0, 1), bucket(0), bucket(9)} {
			l := append(slices.Repeat([]api.Descriptor{d}, empty-1), block(5, 1))
			m, first := divided(t, 6, api.SGLLast, l, empty)
			_, e := sgl.Spans(m, first, 1, false)
			gives(t, "after descriptors of nothing", e, want)
			if d.Len == 0 {
				_, e = sgl.Spans(m, first, 1, true)
				gives(t, "after descriptors of no bytes", e, want)
			}
			m, first = divided(t, 6, api.SGLLast, l[:empty-1], empty-1)
			want := api.ErrLength
			if empty > mostItems {
				want = api.ErrLong
			}
			_, e = sgl.Spans(m, first, 1, false)
			gives(t, "descriptors of nothing", e, want)
		}
	}
}
