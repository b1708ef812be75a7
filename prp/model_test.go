package prp_test

import (
	"bytes"
	"encoding/binary"
	"math"
	"math/rand/v2"
	"slices"
	"testing"

	"capsule/api"
	"capsule/memory"
	"capsule/prp"
)

// pageBytes and mostBytes are the chapter's numbers, and farAway is an address beyond every memory.
const (
	pageBytes = 4096
	mostBytes = 1048576
	farAway   = 1 << 40
)

// plain is the bytes of a memory; without bytes it is a nil or a zero one.
type plain []byte

func (p plain) has(addr uint64, n int) bool {
	return addr < farAway && int(addr)+n <= len(p)
}

// plainCount counts the pages of a transfer one by one.
func plainCount(first uint64, n int) int {
	count := 0
	for start := -int(first % pageBytes); n <= mostBytes && start < n && n > 0; start += pageBytes {
		count++
	}
	return count
}

// plainLists walks through the places of the addresses.
func plainLists(second uint64, pages int) int {
	if pages < 3 || pages > 257 {
		return 0
	}
	lists, place := 1, int(second%pageBytes)
	for missing := pages - 1; missing > 0; place += 8 {
		if place+8 >= pageBytes && missing > 1 {
			lists++
			place = -8
			continue
		}
		missing--
	}
	return lists
}

// spans is the chapter's definition of a transfer's spans and errors. It also returns where the addresses are that it has read.
func (p plain) spans(first, second uint64, n int) (l []api.Span, read []uint64, e api.Errno) {
	if len(p) == 0 {
		return nil, nil, api.ErrNil
	}
	if n < 0 || n > mostBytes {
		return nil, nil, api.ErrArg
	}
	if n == 0 {
		return nil, nil, api.OK
	}
	if first&3 != 0 {
		return nil, nil, api.ErrOffset
	}
	size := min(n, pageBytes-int(first&4095))
	if !p.has(first, size) {
		return nil, nil, api.ErrRange
	}
	l = append(l, api.Span{Addr: first, Len: size})
	rest := n - size
	add := func(addr uint64) api.Errno {
		if addr&4095 != 0 {
			return api.ErrOffset
		}
		used := min(rest, pageBytes)
		if !p.has(addr, used) {
			return api.ErrRange
		}
		l = append(l, api.Span{Addr: addr, Len: used})
		rest -= used
		return api.OK
	}
	if rest > 0 && rest <= pageBytes {
		e = add(second)
	} else if rest > 0 {
		read, e = p.walk(second, &rest, add)
	}
	if e != api.OK {
		return nil, read, e
	}
	return l, read, api.OK
}

// walk adds the addresses in lists, the first of which is at an address, until no bytes are left.
func (p plain) walk(list uint64, rest *int, add func(uint64) api.Errno) (read []uint64, e api.Errno) {
	for lowBits := uint64(7); ; lowBits = 4095 {
		if list&lowBits != 0 {
			return read, api.ErrOffset
		}
		end := list - list%pageBytes + pageBytes // 0 for the largest addresses
		for at := list; at != end && *rest > 0; at += 8 {
			if !p.has(at, 8) {
				return read, api.ErrRange
			}
			read = append(read, at)
			addr := binary.LittleEndian.Uint64(p[at:])
			if at+8 == end && *rest > pageBytes {
				list = addr
				break
			}
			if e := add(addr); e != api.OK {
				return read, e
			}
		}
		if *rest == 0 {
			return read, api.OK
		}
	}
}

// entry is an address in a list, and where it is.
type entry struct{ at, value uint64 }

// build is the chapter's definition of what Build returns, with the entries that it writes.
func (p plain) build(lists, pages []uint64, offset, n int) (first, second uint64, l []entry, e api.Errno) {
	if len(p) == 0 {
		return 0, 0, nil, api.ErrNil
	}
	bad := n < 0 || n > mostBytes || offset < 0 || offset > 4092 || offset%4 != 0
	if bad || len(pages) != plainCount(uint64(offset), n) {
		return 0, 0, nil, api.ErrArg
	}
	for _, addr := range pages {
		bad = bad || addr%pageBytes != 0
	}
	for i, addr := range lists {
		bad = bad || addr%8 != 0 || i > 0 && addr%pageBytes != 0
	}
	if bad {
		return 0, 0, nil, api.ErrArg
	}
	if n == 0 {
		return 0, 0, nil, api.OK
	}
	first = pages[0] + uint64(offset)
	if len(pages) == 1 {
		return first, 0, nil, api.OK
	}
	if len(pages) == 2 {
		return first, pages[1], nil, api.OK
	}
	l, e = p.entries(lists, pages[1:])
	if e != api.OK {
		return 0, 0, nil, e
	}
	return first, lists[0], l, api.OK
}

// entries returns the entries of lists for these addresses.
func (p plain) entries(lists, addresses []uint64) (l []entry, e api.Errno) {
	if len(lists) == 0 {
		return nil, api.ErrFull
	}
	at := lists[0]
	for i, addr := range addresses {
		if at%pageBytes == 4088 && i < len(addresses)-1 {
			lists = lists[1:]
			if len(lists) == 0 {
				return nil, api.ErrFull
			}
			l = append(l, entry{at, lists[0]})
			at = lists[0]
		}
		l = append(l, entry{at, addr})
		at += 8
	}
	for _, x := range l {
		if !p.has(x.at, 8) {
			return nil, api.ErrRange
		}
	}
	return l, api.OK
}

// made returns a new memory.
func made(t *testing.T, pages int) *memory.Memory {
	t.Helper()
	m, e := memory.New(pages)
	if m == nil || e != api.OK {
		t.Fatalf("New(%d): a memory: %t, %v", pages, m != nil, e)
	}
	return m
}

// filled returns a memory with these bytes and an empty log.
func filled(t *testing.T, p plain) *memory.Memory {
	t.Helper()
	m := made(t, len(p)/pageBytes)
	gives(t, "Write", m.Write(0, p), api.OK)
	gives(t, "Clear", m.Clear(), api.OK)
	return m
}

// contents returns all bytes of a memory.
func contents(t *testing.T, m *memory.Memory) plain {
	t.Helper()
	b, e := m.Read(0, m.Size())
	if m.Size() > 0 && e != api.OK {
		t.Fatal(e)
	}
	return b
}

// put writes addresses one behind the other.
func put(t *testing.T, m *memory.Memory, at uint64, l ...uint64) {
	t.Helper()
	for i, v := range l {
		b := binary.LittleEndian.AppendUint64(nil, v)
		if e := m.Write(at+8*uint64(i), b); e != api.OK {
			t.Fatalf("Write at %d: %v", at+8*uint64(i), e)
		}
	}
}

// set is put for plain bytes.
func (p plain) set(l ...entry) {
	for _, x := range l {
		binary.LittleEndian.PutUint64(p[x.at:], x.value)
	}
}

// logged returns the spans of a memory's log.
func logged(m *memory.Memory) []api.Span {
	var l []api.Span
	for _, s := range m.Writes() {
		l = append(l, s)
	}
	return l
}

// gives fails the test unless a call returned this error.
func gives(t *testing.T, call string, got, want api.Errno) {
	t.Helper()
	if got != want {
		t.Errorf("%s: %v, not %v", call, got, want)
	}
}

// collected returns what an iterator yields, and fails the test unless the numbers are those from 0 on.
func collected(t *testing.T, all func(func(int, api.Span) bool)) []api.Span {
	t.Helper()
	var l []api.Span
	for number, s := range all {
		if number != len(l) {
			t.Errorf("number %d, not %d", number, len(l))
		}
		l = append(l, s)
	}
	return l
}

// spansAre fails the test unless Spans has this result and Each yields the same spans, and unless neither of them writes.
func spansAre(t *testing.T, m *memory.Memory, first, second uint64, n int, want []api.Span, e api.Errno) {
	t.Helper()
	before, log := m.Copy(), logged(m)
	l, f := prp.Spans(m, first, second, n)
	if f != e || !slices.Equal(l, want) {
		t.Errorf("Spans(%d, %d, %d): %v %v, not %v %v", first, second, n, brief(l), f, brief(want), e)
	}
	if l := collected(t, prp.Each(m, first, second, n)); !slices.Equal(l, want) {
		t.Errorf("Each(%d, %d, %d): %v, not %v", first, second, n, brief(l), brief(want))
	}
	if !memory.Same(m, before) || !slices.Equal(logged(m), log) {
		t.Errorf("Spans(%d, %d, %d) has written", first, second, n)
	}
}

// yields is spansAre without an error.
func yields(t *testing.T, m *memory.Memory, first, second uint64, n int, want ...api.Span) {
	t.Helper()
	spansAre(t, m, first, second, n, want, api.OK)
}

// fails is spansAre with an error.
func fails(t *testing.T, m *memory.Memory, first, second uint64, n int, e api.Errno) {
	t.Helper()
	spansAre(t, m, first, second, n, nil, e)
}

// at returns a span.
func at(addr uint64, n int) api.Span {
	return api.Span{Addr: addr, Len: n}
}

// brief returns the first spans of a list, for messages.
func brief(l []api.Span) []api.Span {
	return l[:min(len(l), 5)]
}

// asModel fails the test unless Spans and Each have the results of the model, also if all bytes are changed in which no address is that is read.
func asModel(t *testing.T, p plain, first, second uint64, n int) {
	t.Helper()
	want, read, e := p.spans(first, second, n)
	spansAre(t, filled(t, p), first, second, n, want, e)
	other := make(plain, len(p))
	for i, b := range p {
		other[i] = ^b
	}
	for _, at := range read {
		copy(other[at:at+8], p[at:])
	}
	spansAre(t, filled(t, other), first, second, n, want, e)
	consequences(t, p, want, n, e)
}

// consequences fails the test unless the lengths of spans add up to n and each span lies in one memory page and in the memory.
func consequences(t *testing.T, p plain, l []api.Span, n int, e api.Errno) {
	t.Helper()
	sum := 0
	for _, s := range l {
		sum += s.Len
		if s.Bucket || s.Len < 1 || s.Len > pageBytes-int(s.Addr%pageBytes) || !p.has(s.Addr, s.Len) {
			t.Errorf("span %v in %d bytes", s, len(p))
		}
	}
	if e == api.OK && sum != n {
		t.Errorf("%d bytes, not %d", sum, n)
	}
}

// builds fails the test unless Build has the results of the model and writes the bytes that it writes, in the order of the lists.
func builds(t *testing.T, m *memory.Memory, lists, pages []uint64, offset, n int) {
	t.Helper()
	want := contents(t, m)
	givenLists, givenPages := slices.Clone(lists), slices.Clone(pages)
	m.Clear()
	first, second, l, e := want.build(lists, pages, offset, n)
	want.set(l...)
	a, b, f := prp.Build(m, lists, pages, offset, n)
	if a != first || b != second || f != e {
		t.Errorf("Build(%v, %d pages, %d, %d): %d %d %v, not %d %d %v", lists, len(pages), offset, n, a, b, f, first, second, e)
	}
	if !bytes.Equal(contents(t, m), want) {
		t.Errorf("Build(%v, %d pages, %d, %d): other bytes", lists, len(pages), offset, n)
	}
	if !slices.Equal(lists, givenLists) || !slices.Equal(pages, givenPages) {
		t.Errorf("Build(%v, %d pages, %d, %d) has changed its arguments", lists, len(pages), offset, n)
	}
	var places, written []uint64
	for _, x := range l {
		for i := range uint64(8) {
			places = append(places, x.at+i)
		}
	}
	for _, s := range logged(m) {
		for i := range uint64(s.Len) {
			written = append(written, s.Addr+i)
		}
	}
	if !slices.Equal(places, written) {
		t.Errorf("Build(%v, %d pages, %d, %d): %d bytes are written, not the %d bytes of the lists, or in another order", lists, len(pages), offset, n, len(written), len(places))
	}
}

// oneOf returns one of some values.
func oneOf[T any](r *rand.Rand, l ...T) T {
	return l[r.IntN(len(l))]
}

// somePage returns the address of a page in a memory, but now and then one that is wrong.
func somePage(r *rand.Rand, pages, wrong int) uint64 {
	addr := uint64(r.IntN(pages)) * pageBytes
	if r.IntN(1000) >= wrong {
		return addr
	}
	return oneOf(r, addr+8, addr+1, addr+2048, addr|1<<63, uint64(pages)*pageBytes, math.MaxUint64-4095, math.MaxUint64)
}

// someMemory returns bytes that are addresses of pages, with so many wrong ones among a thousand.
func someMemory(r *rand.Rand, pages, wrong int) plain {
	var p plain
	for range pages * pageBytes / 8 {
		p = binary.LittleEndian.AppendUint64(p, somePage(r, pages, wrong))
	}
	return p
}

// someLength returns a number of bytes, often one with which a transfer ends at a page's end or close to it.
func someLength(r *rand.Rand, first uint64) int {
	switch r.IntN(8) {
	case 0:
		return oneOf(r, 0, 1, 4, mostBytes-1, mostBytes, mostBytes+1, -1, math.MaxInt, math.MinInt)
	case 1, 2:
		return r.IntN(3 * pageBytes)
	case 3:
		return r.IntN(mostBytes + 1)
	}
	rest := pageBytes - int(first%pageBytes)
	return min(mostBytes, rest+pageBytes*r.IntN(257)+r.IntN(5)-2)
}

// someStart returns the address of a transfer's first byte, seldom a wrong one.
func someStart(r *rand.Rand, pages int) uint64 {
	addr := uint64(r.IntN(pages))*pageBytes + 4*uint64(r.IntN(pageBytes/4))
	switch r.IntN(30) {
	case 0:
		return addr + 1 + uint64(r.IntN(3))
	case 1:
		return oneOf(r, uint64(pages)*pageBytes, uint64(pages)*pageBytes-4, math.MaxUint64, math.MaxUint64-3, addr|1<<50)
	case 2, 3, 4, 5, 6:
		return addr - addr%pageBytes
	}
	return addr
}

// someSecond returns a second address: that of a page or of a list, often one that ends with the addresses of a transfer.
func someSecond(r *rand.Rand, pages, count, wrong int) uint64 {
	page := somePage(r, pages, wrong)
	room := count - 1 + r.IntN(5) - 2
	switch r.IntN(4) {
	case 0:
		return page + 8*uint64(r.IntN(512))
	case 1:
		if room > 0 && room <= 512 {
			return page + pageBytes - 8*uint64(room)
		}
	case 2:
		return page + pageBytes - 8*uint64(1+r.IntN(4))
	}
	return page
}

// P14.2, P14.4: random transfers over memories of random lists, with no, few and many wrong addresses, compared with the model.
func TestSpansModel(t *testing.T) {
	for run := range 60 {
		r := rand.New(rand.NewPCG(14, uint64(run)))
		pages := 1 + r.IntN(5)
		wrong := oneOf(r, 0, 0, 1, 5, 50)
		p := someMemory(r, pages, wrong)
		for range 60 {
			first := someStart(r, pages)
			n := someLength(r, first)
			asModel(t, p, first, someSecond(r, pages, plainCount(first, n), wrong), n)
		}
		if t.Failed() {
			t.Fatalf("run %d", run)
		}
	}
}

// P14.2: random transfers over the largest memory.
func TestSpansModelLargest(t *testing.T) {
	r := rand.New(rand.NewPCG(14, 1000))
	p := someMemory(r, memory.MaxPages, 1)
	m := filled(t, p)
	for range 60 {
		first := someStart(r, memory.MaxPages)
		n := someLength(r, first)
		second := someSecond(r, memory.MaxPages, plainCount(first, n), 1)
		want, _, e := p.spans(first, second, n)
		spansAre(t, m, first, second, n, want, e)
	}
}

// someLists returns places of lists: mostly as many as a transfer of so many pages needs, mostly in a memory.
func someLists(r *rand.Rand, pages, count int) []uint64 {
	wrong := oneOf(r, 0, 0, 0, 200)
	first := someSecond(r, pages, count, wrong)
	l := []uint64{first}
	for range oneOf(r, 1, 1, 1, 2, 0, plainLists(first, count)-1) {
		l = append(l, somePage(r, pages, wrong))
	}
	if r.IntN(40) == 0 {
		return nil
	}
	return l
}

// P14.3, P14.4: random calls compared with the model; then the spans are the pages, if these lie in the memory and the lists do not overlap.
func TestBuildModel(t *testing.T) {
	read := 0
	for run := range 3000 {
		r := rand.New(rand.NewPCG(15, uint64(run)))
		count := 2 + r.IntN(5)
		m := filled(t, someMemory(r, count, 0))
		offset := 4 * r.IntN(1024)
		n := someLength(r, uint64(offset))
		wrong := oneOf(r, 0, 0, 0, 2)
		var pages []uint64
		for range plainCount(uint64(offset), n) + oneOf(r, 0, 0, 0, 0, 0, 0, 1) {
			pages = append(pages, somePage(r, count, wrong))
		}
		if r.IntN(20) == 0 {
			offset = oneOf(r, -4, -1, 1, 4094, 4093, 4096, offset+2, math.MinInt, math.MaxInt)
		}
		lists := someLists(r, count, len(pages))
		builds(t, m, lists, pages, offset, n)
		if yieldsPages(t, m, lists, pages, offset, n) {
			read++
		}
		if t.Failed() {
			t.Fatalf("run %d", run)
		}
	}
	if read < 1000 {
		t.Errorf("only %d transfers could be read", read)
	}
}

// yieldsPages builds a transfer again and fails the test unless its spans are the given pages. It reports whether there are any such spans.
func yieldsPages(t *testing.T, m *memory.Memory, lists, pages []uint64, offset, n int) bool {
	t.Helper()
	first, second, e := prp.Build(m, lists, pages, offset, n)
	outside := func(addr uint64) bool { return addr >= uint64(m.Size()) }
	if e != api.OK || slices.ContainsFunc(pages, outside) {
		return false
	}
	var want []api.Span
	rest := n
	for i, addr := range pages {
		start := 0
		if i == 0 {
			start = offset
		}
		used := min(rest, pageBytes-start)
		want = append(want, at(addr+uint64(start), used))
		rest -= used
	}
	yields(t, m, first, second, n, want...)
	return true
}

// P1: calls with arbitrary arguments over arbitrary bytes, compared with the model.
func TestArbitraryArguments(t *testing.T) {
	for run := range 2000 {
		r := rand.New(rand.NewPCG(16, uint64(run)))
		p := make(plain, pageBytes*(1+r.IntN(2)))
		for i := range p {
			p[i] = byte(r.UintN(256))
		}
		m := filled(t, p)
		some := func() uint64 { return r.Uint64() >> r.IntN(64) << r.IntN(14) }
		n := int(some()) * oneOf(r, 1, 1, 1, 1, -1)
		first, second := some(), some()
		want, _, e := p.spans(first, second, n)
		spansAre(t, m, first, second, n, want, e)
		if got := prp.Count(first, n); got != plainCount(first, n) {
			t.Errorf("Count(%d, %d): %d", first, n, got)
		}
		if got := prp.Lists(second, n); got != plainLists(second, n) {
			t.Errorf("Lists(%d, %d): %d", second, n, got)
		}
		var lists, pages []uint64
		for range r.IntN(4) {
			lists = append(lists, some())
		}
		for range r.IntN(4) {
			pages = append(pages, some())
		}
		builds(t, m, lists, pages, int(some()), n)
		if t.Failed() {
			t.Fatalf("run %d", run)
		}
	}
}
