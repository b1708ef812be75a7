package sgl_test

import (
	"bytes"
	"encoding/binary"
	"math"
	"math/rand/v2"
	"slices"
	"testing"

	"capsule/api"
	"capsule/memory"
	"capsule/sgl"
)

// These are the chapter's numbers, and an address beyond every memory.
const (
	pageBytes = 4096
	mostBytes = 1048576
	mostItems = 1024
	itemBytes = 16
	farAway   = 1 << 40
)

// block, keyed, bucket, more and last return descriptors; the last two name a segment of so many descriptors.
func block(addr uint64, n int) api.Descriptor {
	return api.Descriptor{Kind: api.SGLData, Addr: addr, Len: n}
}

func keyed(addr uint64, n int, key uint32) api.Descriptor {
	return api.Descriptor{Kind: api.SGLKeyed, Addr: addr, Len: n, Key: key}
}

func bucket(n int) api.Descriptor {
	return api.Descriptor{Kind: api.SGLBucket, Len: n}
}

func more(addr uint64, items int) api.Descriptor {
	return api.Descriptor{Kind: api.SGLSegment, Addr: addr, Len: items * itemBytes}
}

func last(addr uint64, items int) api.Descriptor {
	return api.Descriptor{Kind: api.SGLLast, Addr: addr, Len: items * itemBytes}
}

// at and hole return spans, of memory and of a bit bucket.
func at(addr uint64, n int) api.Span {
	return api.Span{Addr: addr, Len: n}
}

func hole(n int) api.Span {
	return api.Span{Len: n, Bucket: true}
}

// plainValid is the chapter's definition of a valid descriptor.
func plainValid(d api.Descriptor) bool {
	most := 4294967295
	if d.Kind == api.SGLKeyed {
		most = 16777215
	}
	if d.Len < 0 || d.Len > most {
		return false
	}
	if d.Kind != api.SGLKeyed && d.Key != 0 {
		return false
	}
	if d.Kind == api.SGLBucket && d.Addr != 0 {
		return false
	}
	return d.Kind > api.SGLNone && d.Kind <= api.SGLKeyed
}

// item is the bytes of a descriptor.
type item [itemBytes]byte

// itemOf returns the bytes of a descriptor, also of a bit bucket with an address.
func itemOf(d api.Descriptor) (b item) {
	binary.LittleEndian.PutUint64(b[:], d.Addr)
	binary.LittleEndian.PutUint32(b[8:], uint32(d.Len))
	switch d.Kind {
	case api.SGLData:
		b[15] = 0x00
	case api.SGLBucket:
		b[15] = 0x10
	case api.SGLSegment:
		b[15] = 0x20
	case api.SGLLast:
		b[15] = 0x30
	case api.SGLKeyed:
		binary.LittleEndian.PutUint32(b[11:], d.Key)
		b[15] = 0x40
	}
	return b
}

// words returns the two words of a descriptor's bytes.
func (b item) words() [2]uint64 {
	return [2]uint64{binary.LittleEndian.Uint64(b[:8]), binary.LittleEndian.Uint64(b[8:])}
}

// descriptor is the chapter's definition of what Decode returns; the bytes have a type or not.
func (b item) descriptor() (d api.Descriptor, typed bool) {
	d.Addr = binary.LittleEndian.Uint64(b[:8])
	zeros := b[12:15]
	d.Len = int(binary.LittleEndian.Uint32(b[8:12]))
	switch b[15] {
	case 0:
		d.Kind = api.SGLData
	case 16:
		d.Kind = api.SGLBucket
	case 32:
		d.Kind = api.SGLSegment
	case 48:
		d.Kind = api.SGLLast
	case 64:
		d.Kind = api.SGLKeyed
		d.Len = int(b[8]) + 256*int(b[9]) + 65536*int(b[10])
		d.Key = binary.LittleEndian.Uint32(b[11:15])
		zeros = nil
	default:
		return api.Descriptor{}, false
	}
	for _, z := range zeros {
		if z != 0 {
			return api.Descriptor{}, false
		}
	}
	return d, true
}

// plain is the bytes of a memory; without bytes it is a nil or a zero one.
type plain []byte

func (p plain) has(addr uint64, n int) bool {
	return addr < farAway && int(addr)+n <= len(p)
}

// place is where a descriptor stands: at an address, at the end of its segment, in a last segment.
type place struct {
	at          uint64
	final, last bool
}

// places returns those of the segment that a descriptor names.
func places(d api.Descriptor) []place {
	var l []place
	for at := d.Addr; at < d.Addr+uint64(d.Len); at += itemBytes {
		l = append(l, place{at, false, d.Kind == api.SGLLast})
	}
	l[len(l)-1].final = true
	return l
}

// spans is the chapter's definition of a transfer's spans and errors. It also returns where the descriptors are that it has read.
func (p plain) spans(first api.Descriptor, n int, toHost bool) (l []api.Span, read []uint64, e api.Errno) {
	if len(p) == 0 {
		return nil, nil, api.ErrNil
	}
	if !plainValid(first) || n < 0 || n > mostBytes {
		return nil, nil, api.ErrArg
	}
	d, here, count, found := first, place{final: true}, 1, 0
	var coming []place
	for found < n {
		switch d.Kind {
		case api.SGLSegment, api.SGLLast:
			if d.Len < 1 || d.Len&15 != 0 || !here.final || here.last {
				return nil, read, api.ErrSegment
			}
			if !p.has(d.Addr, d.Len) {
				return nil, read, api.ErrRange
			}
			coming = places(d)
		case api.SGLData, api.SGLKeyed:
			if !p.has(d.Addr, d.Len) {
				return nil, read, api.ErrRange
			}
			l = append(l, at(d.Addr, min(d.Len, n-found)))
			found += d.Len
		case api.SGLBucket:
			if toHost {
				l = append(l, hole(min(d.Len, n-found)))
				found += d.Len
			}
		}
		if found >= n {
			break
		}
		if len(coming) == 0 {
			return nil, read, api.ErrLength
		}
		here, coming, count = coming[0], coming[1:], count+1
		if count > mostItems {
			return nil, read, api.ErrLong
		}
		read = append(read, here.at)
		typed := false
		d, typed = item(p[here.at : here.at+itemBytes]).descriptor()
		if !typed {
			return nil, read, api.ErrType
		}
		if !plainValid(d) {
			return nil, read, api.ErrArg
		}
	}
	return slices.DeleteFunc(l, func(s api.Span) bool { return s.Len == 0 }), read, api.OK
}

// build is the chapter's definition of what Build returns, with the bytes that it writes.
func (p plain) build(at uint64, l []api.Descriptor) (first api.Descriptor, segment []byte, e api.Errno) {
	if len(p) == 0 {
		return api.Descriptor{}, nil, api.ErrNil
	}
	for _, d := range l {
		if !plainValid(d) || d.Kind == api.SGLSegment || d.Kind == api.SGLLast {
			return api.Descriptor{}, nil, api.ErrArg
		}
		b := itemOf(d)
		segment = append(segment, b[:]...)
	}
	if len(l) == 0 || len(l) > 1023 {
		return api.Descriptor{}, nil, api.ErrArg
	}
	if len(l) == 1 {
		return l[0], nil, api.OK
	}
	if !p.has(at, len(segment)) {
		return api.Descriptor{}, nil, api.ErrRange
	}
	return api.Descriptor{Kind: api.SGLLast, Addr: at, Len: len(segment)}, segment, api.OK
}

// set stores the bytes of descriptors one behind the other.
func (p plain) set(at uint64, l ...api.Descriptor) {
	for i, d := range l {
		b := itemOf(d)
		copy(p[at+itemBytes*uint64(i):], b[:])
	}
}

// someBytes returns bytes none of which is a type, and of which no two neighbouring ones are the same.
func someBytes(pages int) plain {
	p := make(plain, pages*pageBytes)
	for i := range p {
		p[i] = byte(0x81 + i%101)
	}
	return p
}

// made returns a new memory.
func made(t *testing.T, pages int) *memory.Memory {
	t.Helper()
	m, e := memory.New(pages)
	if m == nil || e != api.OK {
		t.Fatalf("New(%d): a memory: %t, %v", pages, m != nil, e)
	}
	return m
}

// filled returns a memory with these bytes and an empty log.
func filled(t *testing.T, p plain) *memory.Memory {
	t.Helper()
	m := made(t, len(p)/pageBytes)
	gives(t, "Write", m.Write(0, p), api.OK)
	gives(t, "Clear", m.Clear(), api.OK)
	return m
}

// contents returns all bytes of a memory.
func contents(t *testing.T, m *memory.Memory) plain {
	t.Helper()
	b, e := m.Read(0, m.Size())
	if m.Size() > 0 && e != api.OK {
		t.Fatal(e)
	}
	return b
}

// put writes the bytes of descriptors one behind the other.
func put(t *testing.T, m *memory.Memory, at uint64, l ...api.Descriptor) {
	t.Helper()
	for i, d := range l {
		b := itemOf(d)
		if e := m.Write(at+itemBytes*uint64(i), b[:]); e != api.OK {
			t.Fatalf("Write at %d: %v", at+itemBytes*uint64(i), e)
		}
	}
}

// logged returns the spans of a memory's log.
func logged(m *memory.Memory) []api.Span {
	var l []api.Span
	for _, s := range m.Writes() {
		l = append(l, s)
	}
	return l
}

// gives fails the test unless a call returned this error.
func gives(t *testing.T, call string, got, want api.Errno) {
	t.Helper()
	if got != want {
		t.Errorf("%s: %v, not %v", call, got, want)
	}
}

// collected returns what an iterator yields, and fails the test unless the numbers are those from 0 on.
func collected(t *testing.T, all func(func(int, api.Span) bool)) []api.Span {
	t.Helper()
	var l []api.Span
	for number, s := range all {
		if number != len(l) {
			t.Errorf("number %d, not %d", number, len(l))
		}
		l = append(l, s)
	}
	return l
}

// brief returns the first spans of a list, for messages.
func brief(l []api.Span) []api.Span {
	return l[:min(len(l), 5)]
}

// spansAre fails the test unless Spans has this result and Each yields the same spans, and unless neither of them writes.
func spansAre(t *testing.T, m *memory.Memory, first api.Descriptor, n int, toHost bool, want []api.Span, e api.Errno) {
	t.Helper()
	before, log := m.Copy(), logged(m)
	l, f := sgl.Spans(m, first, n, toHost)
	if f != e || !slices.Equal(l, want) {
		t.Errorf("Spans(%v, %d, %t): %v %v, not %v %v", first, n, toHost, brief(l), f, brief(want), e)
	}
	if l := collected(t, sgl.Each(m, first, n, toHost)); !slices.Equal(l, want) {
		t.Errorf("Each(%v, %d, %t): %v, not %v", first, n, toHost, brief(l), brief(want))
	}
	if !memory.Same(m, before) || !slices.Equal(logged(m), log) {
		t.Errorf("Spans(%v, %d, %t) has written", first, n, toHost)
	}
}

// yields is spansAre without an error, for a transfer to the host.
func yields(t *testing.T, m *memory.Memory, first api.Descriptor, n int, want ...api.Span) {
	t.Helper()
	spansAre(t, m, first, n, true, want, api.OK)
}

// fails is spansAre with an error, for transfers in both directions.
func fails(t *testing.T, m *memory.Memory, first api.Descriptor, n int, e api.Errno) {
	t.Helper()
	spansAre(t, m, first, n, true, nil, e)
	spansAre(t, m, first, n, false, nil, e)
}

// asModel fails the test unless Spans and Each have the results of the model in both directions, also if all bytes are changed that are not in a descriptor that is read.
func asModel(t *testing.T, p plain, first api.Descriptor, n int) {
	t.Helper()
	for _, toHost := range []bool{true, false} {
		want, read, e := p.spans(first, n, toHost)
		spansAre(t, filled(t, p), first, n, toHost, want, e)
		other := make(plain, len(p))
		for i, b := range p {
			other[i] = ^b
		}
		for _, at := range read {
			copy(other[at:at+itemBytes], p[at:])
		}
		spansAre(t, filled(t, other), first, n, toHost, want, e)
		consequences(t, p, want, n, e)
	}
}

// consequences fails the test unless the lengths of spans add up to n and those that are no buckets lie in the memory.
func consequences(t *testing.T, p plain, l []api.Span, n int, e api.Errno) {
	t.Helper()
	sum := 0
	for _, s := range l {
		sum += s.Len
		if s.Len < 1 || !p.has(s.Addr, s.Len) && !s.Bucket || s.Bucket && s.Addr != 0 {
			t.Errorf("span %v in %d bytes", s, len(p))
		}
	}
	if e == api.OK && sum != n {
		t.Errorf("%d bytes, not %d", sum, n)
	}
}

// builds fails the test unless Build has the results of the model and writes the bytes that it writes, in their order.
func builds(t *testing.T, m *memory.Memory, at uint64, l ...api.Descriptor) {
	t.Helper()
	want, given := contents(t, m), slices.Clone(l)
	m.Clear()
	first, segment, e := want.build(at, l)
	if e == api.OK && len(segment) > 0 {
		copy(want[at:], segment)
	}
	d, f := sgl.Build(m, at, l...)
	if d != first || f != e {
		t.Errorf("Build(%d, %d descriptors): %v %v, not %v %v", at, len(l), d, f, first, e)
	}
	if !bytes.Equal(contents(t, m), want) {
		t.Errorf("Build(%d, %d descriptors): other bytes", at, len(l))
	}
	if !slices.Equal(l, given) {
		t.Errorf("Build(%d, %d descriptors) has changed its arguments", at, len(l))
	}
	written := 0
	for _, s := range logged(m) {
		if s.Addr != at+uint64(written) {
			t.Errorf("Build(%d, %d descriptors) has written %v", at, len(l), s)
		}
		written += s.Len
	}
	if written != len(segment) {
		t.Errorf("Build(%d, %d descriptors) has written %d bytes, not %d", at, len(l), written, len(segment))
	}
}

// oneOf returns one of some values.
func oneOf[T any](r *rand.Rand, l ...T) T {
	return l[r.IntN(len(l))]
}

// someBlock returns a descriptor of data or of a bit bucket, short or long, seldom one that does not lie in the memory.
func someBlock(r *rand.Rand, pages, wrong int) api.Descriptor {
	size := pages * pageBytes
	n := oneOf(r, 0, 1, 2, r.IntN(20), r.IntN(5000))
	n = min(n, size)
	addr := uint64(r.IntN(size - n + 1))
	if r.IntN(1000) < wrong {
		addr = oneOf(r, uint64(size-n+1), uint64(size), uint64(size+1), addr|farAway, 1<<63, math.MaxUint64-uint64(n), math.MaxUint64-uint64(n)+1, math.MaxUint64)
	}
	switch r.IntN(4) {
	case 0:
		return bucket(oneOf(r, n, n, n, mostBytes, 1<<32-1))
	case 1:
		return keyed(addr, n, oneOf(r, 0, 1, r.Uint32(), math.MaxUint32))
	}
	return block(addr, n)
}

// laid writes random segments, the first of which a returned descriptor names, and returns the number of bytes of their data. Some bytes of them are wrong.
func laid(r *rand.Rand, p plain, wrong int) (first api.Descriptor, n int) {
	pages := len(p) / pageBytes
	count := oneOf(r, 1, 1, 2, 3, 4, 9)
	first = last(uint64(r.IntN(len(p)-300)), 1+r.IntN(9))
	if count > 1 || r.IntN(3) == 0 {
		first.Kind = api.SGLSegment
	}
	for here := first; count > 0; count-- {
		items := here.Len / itemBytes
		at := here.Addr
		if count > 1 {
			items--
		}
		for range items {
			d := someBlock(r, pages, wrong)
			p.set(at, d)
			at += itemBytes
			n += d.Len
		}
		if count > 1 {
			here = last(uint64(r.IntN(len(p)-300)), 1+r.IntN(9))
			if count > 2 || r.IntN(3) == 0 {
				here.Kind = api.SGLSegment
			}
			p.set(at, here)
		}
		if r.IntN(1000) < wrong {
			spoil(r, p[first.Addr:first.Addr+uint64(first.Len)])
		}
	}
	return first, n
}

// spoil changes one of some bytes, mostly a type or a length.
func spoil(r *rand.Rand, b []byte) {
	i := r.IntN(len(b)/itemBytes) * itemBytes
	b[i+oneOf(r, 15, 15, 15, 8, 9, 12, r.IntN(16))] ^= oneOf[byte](r, 0x10, 0x20, 0x30, 0x40, 0x80, 1, 2, 8, 0xFF)
}

// P15.2, P15.3, P15.5: random lists, with no, few and many wrong descriptors, compared with the model.
func TestSpansModel(t *testing.T) {
	ends := map[api.Errno]int{}
	for run := range 1500 {
		r := rand.New(rand.NewPCG(15, uint64(run)))
		p := someBytes(1 + r.IntN(4))
		first, n := laid(r, p, oneOf(r, 0, 0, 10, 100, 500))
		for _, n := range []int{0, 1, r.IntN(20), min(r.IntN(n+2), mostBytes), min(n, mostBytes), min(n+1, mostBytes), oneOf(r, mostBytes+1, -1, mostBytes)} {
			asModel(t, p, first, n)
			_, _, e := p.spans(first, n, run%2 == 0)
			ends[e]++
		}
		if t.Failed() {
			t.Fatalf("run %d", run)
		}
	}
	for _, e := range []api.Errno{api.OK, api.ErrArg, api.ErrRange, api.ErrType, api.ErrSegment, api.ErrLength} {
		if ends[e] < 100 {
			t.Errorf("%v only %d times", e, ends[e])
		}
	}
}

// P15.2, P1: memories of segments that name each other at random, so that most lists have no end.
func TestSpansRandomChains(t *testing.T) {
	ends := map[api.Errno]int{}
	const rowItems, rows = 4, pageBytes / itemBytes / 4
	for run := range 200 {
		r := rand.New(rand.NewPCG(16, uint64(run)))
		some := func(kind api.SGLKind) api.Descriptor {
			from := r.IntN(rowItems)
			return api.Descriptor{Kind: kind, Addr: uint64(r.IntN(rows)*rowItems+from) * itemBytes, Len: (rowItems - from) * itemBytes}
		}
		p := someBytes(1)
		for row := range rows {
			at := uint64(row * rowItems * itemBytes)
			for i := range uint64(rowItems - 1) {
				p.set(at+i*itemBytes, oneOf(r, block(at, r.IntN(3)), bucket(r.IntN(2)), keyed(at, r.IntN(2), 7)))
			}
			p.set(at+(rowItems-1)*itemBytes, some(api.SGLSegment))
			if run%4 == 0 && r.IntN(200) == 0 {
				p.set(at+(rowItems-1)*itemBytes, some(api.SGLLast))
			}
		}
		for range 5 {
			first, n := some(api.SGLSegment), r.IntN(2000)
			asModel(t, p, first, n)
			_, _, e := p.spans(first, n, true)
			ends[e]++
		}
		if t.Failed() {
			t.Fatalf("run %d", run)
		}
	}
	for _, e := range []api.Errno{api.OK, api.ErrLong, api.ErrSegment} {
		if ends[e] < 10 {
			t.Errorf("%v only %d times", e, ends[e])
		}
	}
}

// P15.4, P15.5: random calls compared with the model; then the spans are those of the descriptors, if the segment does not overlap itself.
func TestBuildModel(t *testing.T) {
	ends := map[api.Errno]int{}
	for run := range 2000 {
		r := rand.New(rand.NewPCG(17, uint64(run)))
		pages := 1 + r.IntN(5)
		p := someBytes(pages)
		var l []api.Descriptor
		n := 0
		for range oneOf(r, 0, 1, 2, 3, r.IntN(20), r.IntN(300), 1022+r.IntN(4)) {
			d := someBlock(r, pages, 0)
			l = append(l, d)
			n += d.Len
		}
		if len(l) > 0 && r.IntN(4) == 0 {
			l[r.IntN(len(l))] = oneOf(r, more(0, 1), last(0, 1), api.Descriptor{}, api.Descriptor{Kind: 6}, block(0, -1), api.Descriptor{Kind: api.SGLBucket, Addr: 1}, api.Descriptor{Kind: api.SGLData, Key: 1}, keyed(0, 1<<24, 1))
		}
		size := itemBytes * len(l)
		at := uint64(max(0, pages*pageBytes-size+oneOf(r, 0, 0, 1, -1, -r.IntN(4000))))
		builds(t, filled(t, p), at, l...)
		_, _, e := p.build(at, l)
		ends[e]++
		if e == api.OK {
			readsBack(t, p, at, l, min(n, mostBytes))
		}
		if t.Failed() {
			t.Fatalf("run %d", run)
		}
	}
	for _, e := range []api.Errno{api.OK, api.ErrArg, api.ErrRange} {
		if ends[e] < 100 {
			t.Errorf("%v only %d times", e, ends[e])
		}
	}
}

// readsBack builds a list and fails the test unless its spans are those of the descriptors.
func readsBack(t *testing.T, p plain, place uint64, l []api.Descriptor, n int) {
	t.Helper()
	m := filled(t, p)
	first, e := sgl.Build(m, place, l...)
	gives(t, "Build", e, api.OK)
	var want []api.Span
	rest := n
	for _, d := range l {
		s := api.Span{Addr: d.Addr, Len: min(d.Len, rest), Bucket: d.Kind == api.SGLBucket}
		rest -= s.Len
		if s.Len > 0 {
			want = append(want, s)
		}
	}
	spansAre(t, m, first, n, true, want, api.OK)
}
