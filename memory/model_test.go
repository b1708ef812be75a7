package memory_test

import (
	"bytes"
	"math"
	"math/big"
	"math/rand/v2"
	"slices"
	"testing"

	"capsule/api"
	"capsule/memory"
)

// pageBytes, mostPages and loggedWrites are the chapter's numbers.
const (
	pageBytes    = 4096
	mostPages    = 1024
	loggedWrites = 256
)

// logged is a write with its number.
type logged struct {
	number int
	span   api.Span
}

// model is a memory as the chapter words it: its bytes, and all writes since its log was last cleared.
type model struct {
	data   []byte
	writes []logged
}

// newModel returns the model of a new memory.
func newModel(pages int) *model {
	return &model{data: make([]byte, pages*pageBytes)}
}

// check is the chapter's definition of a span that lies in the memory, with sums that cannot overflow.
func (m *model) check(addr uint64, n int) api.Errno {
	if n < 0 {
		return api.ErrArg
	}
	size := big.NewInt(int64(len(m.data)))
	first := new(big.Int).SetUint64(addr)
	end := new(big.Int).Add(first, big.NewInt(int64(n)))
	if first.Cmp(size) > 0 || end.Cmp(size) > 0 {
		return api.ErrRange
	}
	return api.OK
}

func (m *model) read(addr uint64, n int) ([]byte, api.Errno) {
	var b []byte
	if e := m.check(addr, n); e != api.OK {
		return nil, e
	}
	for i := range n {
		b = append(b, m.data[int(addr)+i])
	}
	return b, api.OK
}

func (m *model) write(addr uint64, b []byte) api.Errno {
	if e := m.check(addr, len(b)); e != api.OK {
		return e
	}
	for i := range b {
		m.data[int(addr)+i] = b[i]
	}
	if len(b) > 0 {
		m.writes = append(m.writes, logged{len(m.writes), api.Span{Addr: addr, Len: len(b)}})
	}
	return api.OK
}

func (m *model) fill(addr uint64, n int, value byte) api.Errno {
	if e := m.check(addr, n); e != api.OK {
		return e
	}
	return m.write(addr, bytes.Repeat([]byte{value}, n))
}

// last returns the writes that the log contains.
func (m *model) last() []logged {
	return m.writes[max(0, len(m.writes)-loggedWrites):]
}

// copied returns an independent model.
func (m *model) copied() *model {
	return &model{slices.Clone(m.data), slices.Clone(m.writes)}
}

// is fails the test unless the memory shows what the model has: its size, all its bytes, and its log.
func (m *model) is(t *testing.T, got *memory.Memory) {
	t.Helper()
	if got.Size() != len(m.data) {
		t.Errorf("Size: %d, not %d", got.Size(), len(m.data))
	}
	if b, e := got.Read(0, len(m.data)); e != api.OK || !bytes.Equal(b, m.data) {
		t.Errorf("Read of the whole memory: %v, other bytes from %d on", e, differ(b, m.data))
	}
	if l := listed(got); !slices.Equal(l, m.last()) {
		t.Errorf("Writes: %v, not %v", l, m.last())
	}
}

// differ returns where two slices of bytes begin to differ.
func differ(a, b []byte) int {
	for i := range min(len(a), len(b)) {
		if a[i] != b[i] {
			return i
		}
	}
	return min(len(a), len(b))
}

// listed returns what Writes yields.
func listed(m *memory.Memory) []logged {
	var l []logged
	for number, s := range m.Writes() {
		l = append(l, logged{number, s})
	}
	return l
}

// made returns a new memory.
func made(t *testing.T, pages int) *memory.Memory {
	t.Helper()
	m, e := memory.New(pages)
	if m == nil || e != api.OK {
		t.Fatalf("New(%d): a memory: %t, %v", pages, m != nil, e)
	}
	return m
}

// gives fails the test unless a call returned this error.
func gives(t *testing.T, call string, got, want api.Errno) {
	t.Helper()
	if got != want {
		t.Errorf("%s: %v, not %v", call, got, want)
	}
}

// reads fails the test unless the memory has these bytes at an address.
func reads(t *testing.T, m *memory.Memory, addr uint64, want ...byte) {
	t.Helper()
	if b, e := m.Read(addr, len(want)); e != api.OK || !bytes.Equal(b, want) {
		t.Errorf("Read(%d, %d): %v, %v, not %v", addr, len(want), b, e, want)
	}
}

// writes fails the test unless Write stores these bytes.
func writes(t *testing.T, m *memory.Memory, addr uint64, b ...byte) {
	t.Helper()
	if e := m.Write(addr, b); e != api.OK {
		t.Errorf("Write(%d, %d bytes): %v", addr, len(b), e)
	}
}

// logs fails the test unless Writes yields these writes.
func logs(t *testing.T, m *memory.Memory, want ...logged) {
	t.Helper()
	if l := listed(m); !slices.Equal(l, want) {
		t.Errorf("Writes: %v, not %v", l, want)
	}
}

// of returns a write with its number.
func of(number int, addr uint64, n int) logged {
	return logged{number, api.Span{Addr: addr, Len: n}}
}

// pair is a memory with its model.
type pair struct {
	m    *memory.Memory
	want *model
}

func newPair(t *testing.T, pages int) pair {
	t.Helper()
	return pair{made(t, pages), newModel(pages)}
}

// write writes to both and fails the test unless the results are the same.
func (p pair) write(t *testing.T, addr uint64, b []byte) {
	t.Helper()
	if got, want := p.m.Write(addr, b), p.want.write(addr, b); got != want {
		t.Errorf("Write(%d, %d bytes): %v, not %v", addr, len(b), got, want)
	}
}

// fill fills both and fails the test unless the results are the same.
func (p pair) fill(t *testing.T, addr uint64, n int, value byte) {
	t.Helper()
	if got, want := p.m.Fill(addr, n, value), p.want.fill(addr, n, value); got != want {
		t.Errorf("Fill(%d, %d, %d): %v, not %v", addr, n, value, got, want)
	}
}

// looks fails the test unless Check and Read of both have the same results.
func (p pair) looks(t *testing.T, addr uint64, n int) {
	t.Helper()
	want, e := p.want.read(addr, n)
	if got, f := p.m.Read(addr, n); f != e || !bytes.Equal(got, want) {
		t.Errorf("Read(%d, %d): %v, not %v, other bytes from %d on", addr, n, f, e, differ(got, want))
	}
	if f := p.m.Check(addr, n); f != e {
		t.Errorf("Check(%d, %d): %v, not %v", addr, n, f, e)
	}
}

// clear empties both logs.
func (p pair) clear(t *testing.T) {
	t.Helper()
	gives(t, "Clear", p.m.Clear(), api.OK)
	p.want.writes = nil
}

// copied returns an independent pair.
func (p pair) copied() pair {
	return pair{p.m.Copy(), p.want.copied()}
}

// is fails the test unless the memory shows what the model has.
func (p pair) is(t *testing.T) {
	t.Helper()
	p.want.is(t, p.m)
}

// random returns random bytes.
func random(r *rand.Rand, n int) []byte {
	b := make([]byte, n)
	for i := range b {
		b[i] = byte(r.UintN(256))
	}
	return b
}

// someAddr returns an address that mostly lies in a memory of this size, often near a page's limit.
func someAddr(r *rand.Rand, size int) uint64 {
	switch r.IntN(12) {
	case 0:
		return uint64(size)
	case 1:
		return []uint64{uint64(size) + 1, 1 << 32, math.MaxInt64, 1 << 63, math.MaxUint64}[r.IntN(5)]
	case 2, 3, 4:
		return uint64(min(size, max(0, r.IntN(size/pageBytes+1)*pageBytes+r.IntN(9)-4)))
	}
	return uint64(r.IntN(size))
}

// someLen returns a length, which mostly fits behind the address.
func someLen(r *rand.Rand, size int, addr uint64) int {
	rest := 0
	if addr < uint64(size) {
		rest = size - int(addr)
	}
	switch r.IntN(12) {
	case 0:
		return rest
	case 1:
		return rest + 1
	case 2:
		return []int{math.MinInt, -1, 0, math.MaxInt32, math.MaxInt}[r.IntN(5)]
	case 3, 4:
		return r.IntN(rest + 1)
	}
	return min(rest, r.IntN(40))
}

// someCall makes a random call on both.
func (p pair) someCall(t *testing.T, r *rand.Rand) {
	t.Helper()
	size := len(p.want.data)
	addr := someAddr(r, size)
	n := someLen(r, size, addr)
	switch r.IntN(6) {
	case 0, 1:
		p.write(t, addr, random(r, max(0, min(n, size+1))))
	case 2, 3:
		p.fill(t, addr, n, byte(r.UintN(256)))
	case 4:
		p.looks(t, addr, n)
	case 5:
		if r.IntN(100) == 0 {
			p.clear(t)
		}
	}
}

// P13.1 to P13.5: long sequences of calls, compared with plain bytes and a plain list of writes; now and then the sequence goes on with a copy.
func TestModel(t *testing.T) {
	for run := range 40 {
		r := rand.New(rand.NewPCG(13, uint64(run)))
		p := newPair(t, 1+run%5)
		for range 40 {
			for range 40 {
				p.someCall(t, r)
			}
			p.is(t)
			if r.IntN(8) == 0 {
				old := p
				p = p.copied()
				p.is(t)
				old.someCall(t, r)
				p.is(t)
			}
			if t.Failed() {
				t.Fatalf("run %d", run)
			}
		}
	}
}

// P13.1 to P13.5: the same with as many pages as there can be.
func TestLargestModel(t *testing.T) {
	r := rand.New(rand.NewPCG(13, 1000))
	p := newPair(t, mostPages)
	for range 4 {
		for range 100 {
			p.someCall(t, r)
		}
		p.is(t)
	}
}

// P13.4, P13.5: several memories that are used in turn have nothing to do with each other, and are the same if their bytes are.
func TestSeveralMemories(t *testing.T) {
	r := rand.New(rand.NewPCG(13, 2000))
	l := []pair{newPair(t, 1), newPair(t, 2), newPair(t, 2)}
	l = append(l, l[0].copied(), l[1].copied())
	for range 60 {
		for _, p := range l {
			p.someCall(t, r)
		}
		for _, p := range l {
			p.is(t)
			for _, q := range l {
				if got, want := memory.Same(p.m, q.m), bytes.Equal(p.want.data, q.want.data); got != want {
					t.Errorf("Same: %t, not %t", got, want)
				}
			}
		}
	}
}

// P13.5: if at most MaxLog writes were made since the log was cleared, only bytes in logged spans differ from what they were then; each of them has the value that the last write that contains its address stored there.
func TestOnlyLoggedBytesDiffer(t *testing.T) {
	for run := range 30 {
		r := rand.New(rand.NewPCG(13, uint64(3000+run)))
		m := made(t, 2)
		writes(t, m, 0, random(r, 2*pageBytes)...)
		gives(t, "Clear", m.Clear(), api.OK)
		before, _ := m.Read(0, m.Size())
		var values []byte
		for i := range 1 + r.IntN(loggedWrites) {
			addr := r.IntN(m.Size())
			n := 1 + r.IntN(min(100, m.Size()-addr))
			gives(t, "Fill", m.Fill(uint64(addr), n, byte(i)), api.OK)
			values = append(values, byte(i))
		}
		want := slices.Clone(before)
		for number, s := range m.Writes() {
			for i := range s.Len {
				want[int(s.Addr)+i] = values[number]
			}
		}
		if b, e := m.Read(0, m.Size()); e != api.OK || !bytes.Equal(b, want) {
			t.Errorf("run %d: %v, other bytes from %d on", run, e, differ(b, want))
		}
	}
}
