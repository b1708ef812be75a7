package sgl_test

import (
	"fmt"
	"math"
	"slices"
	"testing"

	"capsule/api"
	"capsule/memory"
	"capsule/sgl"
)

// P15.4: the chapter's example.
func TestBuildExample(t *testing.T) {
	m := made(t, 1)
	first, e := sgl.Build(m, 0, block(1000, 8), bucket(4), block(2000, 8))
	if first != last(0, 3) || e != api.OK {
		t.Error(first, e)
	}
	spansAre(t, m, first, 15, true, []api.Span{at(1000, 8), hole(4), at(2000, 3)}, api.OK)
	spansAre(t, m, first, 15, false, []api.Span{at(1000, 8), at(2000, 7)}, api.OK)
}

// P15.4: the bytes of a segment, at their places.
func TestBuildBytes(t *testing.T) {
	p := someBytes(1)
	m := filled(t, p)
	first, e := sgl.Build(m, 3, block(0x1122334455667788, 0x99AABBCC), bucket(0xFEDC), keyed(0xFFFFFFFFFFFFFFFF, 0x123456, 0x789ABCDE))
	if first != last(3, 3) || e != api.OK {
		t.Error(first, e)
	}
	copy(p[3:], []byte{0x88, 0x77, 0x66, 0x55, 0x44, 0x33, 0x22, 0x11, 0xCC, 0xBB, 0xAA, 0x99, 0, 0, 0, 0x00})
	copy(p[19:], []byte{0, 0, 0, 0, 0, 0, 0, 0, 0xDC, 0xFE, 0, 0, 0, 0, 0, 0x10})
	copy(p[35:], []byte{0xFF, 0xFF, 0xFF, 0xFF, 0xFF, 0xFF, 0xFF, 0xFF, 0x56, 0x34, 0x12, 0xDE, 0xBC, 0x9A, 0x78, 0x40})
	if !slices.Equal(contents(t, m), p) {
		t.Error("other bytes")
	}
}

// refused fails the test unless Build returns an error, and no descriptor, and writes nothing.
func refused(t *testing.T, m *memory.Memory, at uint64, want api.Errno, l ...api.Descriptor) {
	t.Helper()
	before, log := m.Copy(), logged(m)
	first, e := sgl.Build(m, at, l...)
	if first != (api.Descriptor{}) || e != want {
		t.Errorf("Build(%d, %d descriptors): %v %v, not %v", at, len(l), first, e, want)
	}
	if !memory.Same(m, before) || !slices.Equal(logged(m), log) {
		t.Errorf("Build(%d, %d descriptors) has written", at, len(l))
	}
}

// blocks returns descriptors of each of the three kinds that lists are built of, in turn.
func blocks(count int) []api.Descriptor {
	var l []api.Descriptor
	for i := range count {
		l = append(l, []api.Descriptor{block(uint64(i), i), keyed(uint64(i)<<50, i, uint32(i)<<20), bucket(i << 20)}[i%3])
	}
	return l
}

// someSpots are addresses in a memory of eight pages and beyond it.
func someSpots() []uint64 {
	return []uint64{0, 1, 100, 4090, 32767, 32768, 32769, 1 << 32, farAway, 1 << 63, math.MaxUint64 - 15, math.MaxUint64}
}

// P15.4: exactly one descriptor is the list, and nothing is written, whatever the address of a segment is and wherever the data are.
func TestBuildOne(t *testing.T) {
	m := filled(t, someBytes(8))
	before := m.Copy()
	for _, d := range []api.Descriptor{
		block(0, 0), block(100, 50), block(32768, 1), block(math.MaxUint64, 1<<32-1), keyed(0, 0, 0), keyed(5, 6, 7), keyed(math.MaxUint64, 1<<24-1, math.MaxUint32), bucket(0), bucket(1), bucket(1<<32 - 1),
	} {
		for _, at := range someSpots() {
			if first, e := sgl.Build(m, at, d); first != d || e != api.OK {
				t.Errorf("Build(%d, %v): %v %v", at, d, first, e)
			}
		}
	}
	if !memory.Same(m, before) || len(logged(m)) != 0 {
		t.Error("Build has written")
	}
}

// P15.4: no descriptor, and as many as are allowed, one less, one more and more.
func TestBuildCount(t *testing.T) {
	m := filled(t, someBytes(8))
	for _, at := range someSpots() {
		refused(t, m, at, api.ErrArg)
		refused(t, m, at, api.ErrArg, []api.Descriptor{}...)
		for _, count := range []int{1024, 1025, 1026, 2000, 2047, 2048, 5000} {
			refused(t, m, at, api.ErrArg, blocks(count)...)
		}
	}
	for _, count := range []int{1, 2, 3, 4, 5, 16, 100, 255, 256, 257, 511, 512, 1000, 1021, 1022, 1023} {
		for _, at := range []uint64{0, 1, 16, 4095, 8 * 2048, 8*4096 - uint64(16*count), 8*4096 - uint64(16*count) + 1, 8*4096 - 1, 8 * 4096, farAway, math.MaxUint64} {
			builds(t, filled(t, someBytes(8)), at, blocks(count)...)
		}
	}
	first, e := sgl.Build(m, 40, blocks(1023)...)
	if first != last(40, 1023) || e != api.OK {
		t.Error(first, e)
	}
}

// P15.4: each descriptor that is not allowed, at each place among others and alone.
func TestBuildWrongDescriptors(t *testing.T) {
	m := filled(t, someBytes(8))
	for _, d := range []api.Descriptor{
		more(0, 1), last(0, 1), more(100, 0), last(100, 0), {}, {Kind: -1}, {Kind: 6}, {Kind: math.MinInt, Len: 8}, {Kind: math.MaxInt, Len: 8},
		block(0, -1), block(0, 1<<32), block(0, math.MaxInt), block(0, math.MinInt), {Kind: api.SGLData, Len: 4, Key: 1}, keyed(0, -1, 0), keyed(0, 1<<24, 0),
		bucket(-1), bucket(1 << 32), {Kind: api.SGLBucket, Addr: 1, Len: 4}, {Kind: api.SGLBucket, Len: 4, Key: 1},
	} {
		for _, count := range []int{1, 2, 3, 4, 1022, 1023, 1024} {
			for _, place := range []int{0, 1, 2, 3, count / 2, count - 2, count - 1} {
				if place < 0 || place >= count {
					continue
				}
				l := blocks(count)
				l[place] = d
				refused(t, m, 0, api.ErrArg, l...)
				refused(t, m, farAway, api.ErrArg, l...)
			}
		}
	}
}

// P15.4: each of the three kinds at each place.
func TestBuildKinds(t *testing.T) {
	kinds := []api.Descriptor{block(1, 2), keyed(3, 4, 5), bucket(6)}
	for count := 1; count < 5; count++ {
		for choice := range int(math.Pow(3, float64(count))) {
			var l []api.Descriptor
			for range count {
				l = append(l, kinds[choice%3])
				choice /= 3
			}
			builds(t, filled(t, someBytes(1)), 200, l...)
			builds(t, filled(t, someBytes(1)), 4096-64, l...)
		}
	}
}

// P15.4: segments at the memory's end, beyond it by one byte and more, and at the largest addresses.
func TestBuildRange(t *testing.T) {
	for _, pages := range []int{1, 2, memory.MaxPages} {
		size := uint64(pages * pageBytes)
		m := made(t, pages)
		for _, count := range []uint64{2, 3, 100, 255} {
			l, bytes := blocks(int(count)), 16*count
			builds(t, m, size-bytes, l...)
			builds(t, m, size-bytes-1, l...)
			builds(t, m, 0, l...)
			gives(t, "Clear", m.Clear(), api.OK)
			for _, at := range []uint64{size - bytes + 1, size - bytes + 15, size - bytes + 16, size - 16, size - 1, size, size + 1, 1 << 32, farAway, 1 << 63, -bytes, -bytes - 1, -bytes + 1, math.MaxUint64 - 15, math.MaxUint64} {
				refused(t, m, at, api.ErrRange, l...)
			}
		}
	}
	refused(t, made(t, 1), 0, api.ErrRange, blocks(257)...)
	refused(t, made(t, 3), 0, api.ErrRange, blocks(1023)...)
	builds(t, made(t, 1), 0, blocks(256)...)
	builds(t, made(t, 4), 0, blocks(1023)...)
	builds(t, made(t, 4), 16, blocks(1023)...)
	builds(t, made(t, 4), 17, blocks(1023)...)
}

// P15.4: a nil and a zero memory, whatever the other arguments are.
func TestBuildWithoutMemory(t *testing.T) {
	for _, m := range []*memory.Memory{nil, {}} {
		for _, at := range someSpots() {
			for _, l := range [][]api.Descriptor{nil, {}, {block(0, 8)}, {bucket(8), block(0, 8)}, {more(0, 1)}, {{}, {}}, blocks(1023), blocks(1024)} {
				refused(t, m, at, api.ErrNil, l...)
			}
		}
	}
}

// P15.4: of two things that are wrong the first one is returned.
func TestBuildErrorOrder(t *testing.T) {
	for _, none := range []bool{true, false} {
		for name, l := range map[string][]api.Descriptor{"right": blocks(3), "invalid": {block(0, 1), bucket(-1), block(0, 1)}, "kind": {block(0, 1), last(0, 1)}, "too many": blocks(1024), "none": nil} {
			for _, at := range []uint64{0, farAway} {
				m, want := filled(t, someBytes(1)), api.ErrArg
				if none {
					m, want = nil, api.ErrNil
				} else if name == "right" {
					want = api.ErrRange
				}
				if !none && name == "right" && at == 0 {
					builds(t, m, at, l...)
					continue
				}
				refused(t, m, at, want, l...)
				if t.Failed() {
					t.Fatal(fmt.Sprint(none, name, at))
				}
			}
		}
	}
}

// P15.4: the segment may lie in the data and the data in the segment.
func TestBuildOverData(t *testing.T) {
	m := made(t, 1)
	first, e := sgl.Build(m, 0, block(0, 32), block(16, 16))
	if first != last(0, 2) || e != api.OK {
		t.Error(first, e)
	}
	yields(t, m, first, 48, at(0, 32), at(16, 16))
}

// P15.4: the arguments are not kept: changing them later changes no list, and building the next one leaves the first one as it is.
func TestBuildKeepsNothing(t *testing.T) {
	m := made(t, 1)
	l := []api.Descriptor{block(100, 5), bucket(6), keyed(200, 7, 8)}
	first, _ := sgl.Build(m, 1000, l...)
	clear(l)
	second, _ := sgl.Build(m, 2000, bucket(1), block(300, 2))
	yields(t, m, first, 18, at(100, 5), hole(6), at(200, 7))
	yields(t, m, second, 3, hole(1), at(300, 2))
}

// P15.4, P15.5: lists of up to as many descriptors as are allowed are read as they were built.
func TestBuildReadBack(t *testing.T) {
	for _, count := range []int{1, 2, 3, 100, 1022, 1023} {
		var l []api.Descriptor
		n := 0
		for i := range count {
			d := []api.Descriptor{block(uint64(i), i%7), bucket(i % 5), keyed(uint64(4*i), i%11, uint32(i))}[i%3]
			l = append(l, d)
			n += d.Len
		}
		for _, n := range []int{0, n / 2, n} {
			readsBack(t, someBytes(5), 4000, l, n)
		}
	}
}
