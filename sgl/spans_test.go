package sgl_test

import (
	"math"
	"slices"
	"testing"

	"capsule/api"
	"capsule/memory"
	"capsule/sgl"
)

// P15.2: the chapter's examples.
func TestSpansExamples(t *testing.T) {
	m := made(t, 1)
	yields(t, m, block(100, 50), 40, at(100, 40))
	fails(t, m, block(100, 50), 51, api.ErrLength)
	fails(t, m, block(4090, 7), 1, api.ErrRange)
}

// P15.2: one data block, also with a key, with every number of bytes up to its end, and beyond it.
func TestSpansOneBlock(t *testing.T) {
	m := made(t, 1)
	for _, first := range []api.Descriptor{block(100, 50), keyed(100, 50, 0), keyed(100, 50, 0xDEADBEEF)} {
		for _, toHost := range []bool{true, false} {
			spansAre(t, m, first, 0, toHost, nil, api.OK)
			for n := 1; n <= 50; n++ {
				spansAre(t, m, first, n, toHost, []api.Span{at(100, n)}, api.OK)
			}
		}
		for _, n := range []int{51, 52, 100, 4096, mostBytes} {
			fails(t, m, first, n, api.ErrLength)
		}
	}
	for _, first := range []api.Descriptor{block(100, 0), keyed(100, 0, 1)} {
		yields(t, m, first, 0)
		fails(t, m, first, 1, api.ErrLength)
		fails(t, m, first, mostBytes, api.ErrLength)
	}
}

// P15.2: one bit bucket: it is skipped if the transfer is not to the host.
func TestSpansOneBucket(t *testing.T) {
	m := made(t, 1)
	for _, size := range []int{1, 2, 50, mostBytes, mostBytes + 1, 1<<32 - 1} {
		for _, n := range []int{1, 2, 49, 50, 51, mostBytes - 1, mostBytes} {
			if n <= size {
				yields(t, m, bucket(size), n, hole(n))
			} else {
				spansAre(t, m, bucket(size), n, true, nil, api.ErrLength)
			}
			spansAre(t, m, bucket(size), n, false, nil, api.ErrLength)
		}
		yields(t, m, bucket(size), 0)
		spansAre(t, m, bucket(size), 0, false, nil, api.OK)
	}
	fails(t, m, bucket(0), 1, api.ErrLength)
	yields(t, m, bucket(0), 0)
}

// P15.2: with no bytes nothing is examined beyond the first descriptor being valid.
func TestSpansOfNothing(t *testing.T) {
	p := someBytes(1)
	for _, first := range []api.Descriptor{
		block(0, 0), block(4096, 1), block(4097, 0), block(math.MaxUint64, 1<<32-1), keyed(farAway, 5, 6), bucket(0), bucket(1<<32 - 1),
		more(0, 0), more(0, 1), {Kind: api.SGLSegment, Len: 15}, last(farAway, 1), last(0, 0), last(0, 256), {Kind: api.SGLLast, Addr: math.MaxUint64, Len: 1<<32 - 1},
	} {
		spansAre(t, filled(t, p), first, 0, true, nil, api.OK)
		spansAre(t, filled(t, p), first, 0, false, nil, api.OK)
	}
}

// P15.2: numbers of bytes at and beyond the limits, with descriptors of each kind.
func TestSpansLength(t *testing.T) {
	m := made(t, 300)
	size := 300 * pageBytes
	put(t, m, uint64(size-16), block(0, size))
	for _, first := range []api.Descriptor{block(0, size), keyed(0, size, 1), bucket(size), last(uint64(size-16), 1), more(uint64(size-16), 1)} {
		for _, n := range []int{math.MinInt, math.MinInt32, -mostBytes, -16, -1, mostBytes + 1, mostBytes + 16, size, size + 1, 1 << 32, math.MaxInt} {
			fails(t, m, first, n, api.ErrArg)
		}
		for _, n := range []int{1, mostBytes - 1, mostBytes} {
			yields(t, m, first, n, api.Span{Len: n, Bucket: first.Kind == api.SGLBucket})
		}
		yields(t, m, first, 0)
	}
}

// P15.2: a first descriptor that is not valid, whatever it is.
func TestSpansInvalidFirst(t *testing.T) {
	m := made(t, 1)
	for _, first := range []api.Descriptor{
		{}, {Kind: -1}, {Kind: 6}, {Kind: math.MaxInt, Len: 5}, {Kind: math.MinInt}, {Kind: api.SGLNone, Len: 8},
		block(0, -1), block(0, 1<<32), block(0, math.MinInt), block(0, math.MaxInt), {Kind: api.SGLData, Len: 8, Key: 1},
		keyed(0, -1, 1), keyed(0, 1<<24, 1), {Kind: api.SGLBucket, Addr: 1, Len: 8}, {Kind: api.SGLBucket, Len: 8, Key: 1}, bucket(-1), bucket(1 << 32),
		more(0, -1), {Kind: api.SGLSegment, Len: 16, Key: 1}, {Kind: api.SGLSegment, Len: 1 << 32}, last(0, -1), {Kind: api.SGLLast, Len: 16, Key: 1 << 31}, {Kind: api.SGLLast, Len: 1 << 32},
	} {
		for _, n := range []int{math.MinInt, -1, 0, 1, 8, mostBytes, mostBytes + 1} {
			fails(t, m, first, n, api.ErrArg)
		}
	}
}

// P15.2: a nil and a zero memory, whatever the list is.
func TestSpansWithoutMemory(t *testing.T) {
	for _, m := range []*memory.Memory{nil, {}} {
		for _, first := range []api.Descriptor{{}, block(0, 0), block(0, 8), bucket(8), more(0, 1), last(0, 0), {Kind: 9}} {
			for _, n := range []int{math.MinInt, -1, 0, 1, 8, mostBytes, mostBytes + 1} {
				for _, toHost := range []bool{true, false} {
					if l, e := sgl.Spans(m, first, n, toHost); len(l) != 0 || e != api.ErrNil {
						t.Errorf("Spans(nil, %v, %d): %v %v", first, n, l, e)
					}
					if l := collected(t, sgl.Each(m, first, n, toHost)); len(l) != 0 {
						t.Errorf("Each(nil, %v, %d): %v", first, n, l)
					}
				}
			}
		}
	}
}

// P15.2: data at the memory's end, one byte beyond it, and at the largest addresses; with all its bytes, also where fewer are needed; data of no bytes lie in the memory up to its end.
func TestSpansRange(t *testing.T) {
	for _, pages := range []int{1, 3, memory.MaxPages} {
		m := made(t, pages)
		size := uint64(pages * pageBytes)
		for _, kind := range []api.SGLKind{api.SGLData, api.SGLKeyed} {
			d := func(addr uint64, n int) api.Descriptor { return api.Descriptor{Kind: kind, Addr: addr, Len: n} }
			yields(t, m, d(size-1, 1), 1, at(size-1, 1))
			yields(t, m, d(size-4096, 4096), 4096, at(size-4096, 4096))
			yields(t, m, d(size-4096, 4096), 1, at(size-4096, 1))
			fails(t, m, d(size, 0), 1, api.ErrLength)
			for _, addr := range []uint64{size + 1, size + 4096, 1 << 32, farAway, 1 << 63, math.MaxUint64 - 15, math.MaxUint64} {
				fails(t, m, d(addr, 0), 1, api.ErrRange)
				fails(t, m, d(addr, 1), 1, api.ErrRange)
				fails(t, m, d(addr, 16), 1, api.ErrRange)
			}
			for _, n := range []int{1, 2, 16, 4096, 1<<24 - 1} {
				fails(t, m, d(size-uint64(n-1)%size, n), 1, api.ErrRange)
				fails(t, m, d(size, n), 1, api.ErrRange)
				fails(t, m, d(-uint64(n), n), 1, api.ErrRange)
				fails(t, m, d(-uint64(n)-1, n), mostBytes, api.ErrRange)
				fails(t, m, d(-uint64(n/2)-1, n), mostBytes, api.ErrRange)
			}
		}
		fails(t, m, block(0, 1<<32-1), 1, api.ErrRange)
		fails(t, m, block(0, int(size)+1), 1, api.ErrRange)
		yields(t, m, block(0, int(size)), 1, at(0, 1))
	}
}

// P15.2: descriptors of no bytes, first, in the middle and last, contribute nothing, but they must lie in the memory.
func TestSpansEmptyDescriptors(t *testing.T) {
	for _, empty := range []api.Descriptor{block(0, 0), block(4096, 0), keyed(77, 0, 5), bucket(0)} {
		for place := range 5 {
			for count := range 3 {
				l := []api.Descriptor{block(10, 4), bucket(3), keyed(20, 5, 1), block(30, 6)}
				l = slices.Insert(l, place, slices.Repeat([]api.Descriptor{empty}, count)...)
				p := someBytes(1)
				p.set(1000, l...)
				m := filled(t, p)
				yields(t, m, last(1000, len(l)), 18, at(10, 4), hole(3), at(20, 5), at(30, 6))
				yields(t, m, last(1000, len(l)), 7, at(10, 4), hole(3))
				spansAre(t, m, last(1000, len(l)), 15, false, []api.Span{at(10, 4), at(20, 5), at(30, 6)}, api.OK)
				fails(t, m, last(1000, len(l)), 19, api.ErrLength)
				for n := range 20 {
					asModel(t, p, last(1000, len(l)), n)
				}
			}
		}
	}
	m := made(t, 1)
	for _, addr := range []uint64{4097, farAway, math.MaxUint64} {
		put(t, m, 0, block(10, 4), block(addr, 0), block(20, 4))
		yields(t, m, last(0, 3), 4, at(10, 4))
		fails(t, m, last(0, 3), 5, api.ErrRange)
		put(t, m, 16, keyed(addr, 0, 1))
		fails(t, m, last(0, 3), 5, api.ErrRange)
	}
}

// P15.2: bit buckets before, between and behind data: with every number of bytes, in both directions.
func TestSpansBuckets(t *testing.T) {
	for _, l := range [][]api.Descriptor{
		{bucket(3), block(5, 4)}, {block(5, 4), bucket(3)}, {block(5, 4), bucket(3), block(50, 4)}, {bucket(1), bucket(2), block(5, 4), bucket(3), bucket(4), keyed(9, 2, 9)}, {bucket(2), bucket(3)},
		{block(5, 4), bucket(1<<32 - 1), block(7, 3)}, {bucket(1<<32 - 1), bucket(1<<32 - 1), block(7, 3)},
	} {
		p := someBytes(1)
		p.set(2000, l...)
		for n := range 22 {
			asModel(t, p, last(2000, len(l)), n)
			asModel(t, p, more(2000, len(l)), n)
		}
		asModel(t, p, last(2000, len(l)), mostBytes)
	}
	m := made(t, 1)
	put(t, m, 0, block(5, 4), bucket(1<<32-1), block(50, 3))
	yields(t, m, last(0, 3), mostBytes, at(5, 4), hole(mostBytes-4))
	spansAre(t, m, last(0, 3), 7, false, []api.Span{at(5, 4), at(50, 3)}, api.OK)
	spansAre(t, m, last(0, 3), 8, false, nil, api.ErrLength)
}

// P15.2: what stands behind the descriptor with which the last byte is found is not examined, whatever it is; with one byte more it is.
func TestSpansExamineNoMore(t *testing.T) {
	for _, x := range []struct {
		b item
		e api.Errno
	}{
		{item{15: 1}, api.ErrType}, {item{14: 1}, api.ErrType}, {item{15: 0xFF}, api.ErrType}, {item{15: 0x50}, api.ErrType},
		{itemOf(api.Descriptor{Kind: api.SGLBucket, Addr: 1, Len: 9}), api.ErrArg},
		{itemOf(more(0, 1)), api.ErrSegment}, {itemOf(last(0, 0)), api.ErrSegment}, {itemOf(more(farAway, 1)), api.ErrSegment},
		{itemOf(block(farAway, 0)), api.ErrRange}, {itemOf(block(4090, 7)), api.ErrRange}, {itemOf(keyed(4096, 1, 0)), api.ErrRange},
		{itemOf(block(3, 0)), api.ErrLength},
	} {
		p := someBytes(1)
		p.set(100, block(8, 3), keyed(20, 4, 5))
		copy(p[132:], x.b[:])
		m := filled(t, p)
		yields(t, m, last(100, 3), 7, at(8, 3), at(20, 4))
		yields(t, m, last(100, 3), 4, at(8, 3), at(20, 1))
		yields(t, m, last(100, 2), 7, at(8, 3), at(20, 4))
		fails(t, m, last(100, 3), 8, x.e)
	}
}

// P15.2: results share no memory with each other.
func TestSpansNotShared(t *testing.T) {
	m := made(t, 1)
	put(t, m, 0, block(100, 8), bucket(5), block(200, 8))
	want := []api.Span{at(100, 8), hole(5), at(200, 2)}
	a, _ := sgl.Spans(m, last(0, 3), 15, true)
	all := sgl.Each(m, last(0, 3), 15, true)
	b, _ := sgl.Spans(m, last(0, 3), 15, true)
	clear(a[:cap(a)])
	if !slices.Equal(b, want) || !slices.Equal(collected(t, all), want) {
		t.Errorf("%v", b)
	}
	yields(t, m, last(0, 3), 15, want...)
}
