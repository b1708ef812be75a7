package memory_test

import (
	"math/rand/v2"
	"testing"

	"capsule/api"
	"capsule/memory"
)

// same fails the test unless Same reports this, whichever of the two comes first.
func same(t *testing.T, a, b *memory.Memory, want bool) {
	t.Helper()
	if memory.Same(a, b) != want || memory.Same(b, a) != want {
		t.Errorf("Same: %t, %t, not %t", memory.Same(a, b), memory.Same(b, a), want)
	}
}

// P13.4: a copy has the same bytes and the same log, with its numbers, whatever the log contains.
func TestCopy(t *testing.T) {
	for _, n := range []int{0, 1, 100, 255, 256, 257, 600} {
		p := after(t, n)
		c := p.copied()
		c.is(t)
		same(t, p.m, c.m, true)
		c.copied().is(t)
		p.clear(t)
		c.is(t)
		p.copied().is(t)
	}
}

// P13.4: the copy of the largest memory.
func TestCopyLargest(t *testing.T) {
	p := newPair(t, mostPages)
	p.write(t, 0, random(rand.New(rand.NewPCG(4, 1)), mostPages*pageBytes))
	c := p.copied()
	c.is(t)
	c.fill(t, mostPages*pageBytes-1, 1, ^p.want.data[mostPages*pageBytes-1])
	c.is(t)
	p.is(t)
	same(t, p.m, c.m, false)
}

// P13.4: a memory, its copies and a copy of a copy do not affect each other, with their bytes and their logs.
func TestCopyIndependent(t *testing.T) {
	for _, n := range []int{0, 5, 256, 300} {
		p := after(t, n)
		a := p.copied()
		b := a.copied()
		all := []pair{p, a, b, p.copied()}
		check := func() {
			t.Helper()
			for _, q := range all {
				q.is(t)
			}
		}
		for i, q := range all {
			q.write(t, uint64(10*i), []byte{byte(i), 0xEE})
			check()
			q.fill(t, 4000, 96, byte(0x10+i))
			check()
		}
		for i, q := range all {
			q.more(t, 100*i+1)
			check()
			q.clear(t)
			check()
			q.more(t, 3)
			check()
		}
	}
}

// P13.4: iterators over the writes of a memory and of its copy, used after both have changed.
func TestCopyIterators(t *testing.T) {
	p := after(t, 3)
	c := p.copied()
	ofMemory, ofCopy := p.m.Writes(), c.m.Writes()
	p.more(t, 2)
	c.clear(t)
	for _, all := range []func(func(int, api.Span) bool){ofMemory, ofCopy} {
		n := 0
		for number, s := range all {
			if want := p.want.writes[n]; number != want.number || s != want.span {
				t.Errorf("%d %v, not %v", number, s, want)
			}
			n++
		}
		if n != 3 {
			t.Errorf("%d writes", n)
		}
	}
}

// P13.4: memories with the same bytes, whatever their logs are.
func TestSameBytes(t *testing.T) {
	for _, pages := range []int{1, 2, mostPages} {
		a, b := made(t, pages), made(t, pages)
		same(t, a, b, true)
		same(t, a, a, true)
		writes(t, a, 9, 1, 2)
		writes(t, b, 10, 2)
		same(t, a, b, false)
		writes(t, b, 9, 1)
		same(t, a, b, true)
		gives(t, "Clear", a.Clear(), api.OK)
		same(t, a, b, true)
		same(t, a, a, true)
		gives(t, "Fill", b.Fill(100, 5, 0), api.OK)
		same(t, a, b, true)
		gives(t, "Fill", a.Fill(0, a.Size(), 0), api.OK)
		same(t, a, b, false)
		same(t, a, made(t, pages), true)
	}
}

// P13.4: memories that differ in one byte, wherever it is, and by however little.
func TestDifferentBytes(t *testing.T) {
	a := made(t, 3)
	writes(t, a, 0, random(rand.New(rand.NewPCG(4, 2)), 3*pageBytes)...)
	for _, addr := range []uint64{0, 1, 7, 4095, 4096, 6000, 8191, 8192, 12286, 12287} {
		for _, flip := range []byte{1, 0x80, 0xFF} {
			b := a.Copy()
			old, _ := b.Read(addr, 1)
			writes(t, b, addr, old[0]^flip)
			same(t, a, b, false)
			writes(t, b, addr, old...)
			same(t, a, b, true)
		}
	}
}

// P13.4: memories of different sizes, of which one begins with the bytes of the other.
func TestDifferentSizes(t *testing.T) {
	for _, pages := range []int{1, 2, mostPages - 1} {
		a, b := made(t, pages), made(t, pages+1)
		same(t, a, b, false)
		gives(t, "Fill", a.Fill(0, a.Size(), 5), api.OK)
		gives(t, "Fill", b.Fill(0, b.Size(), 5), api.OK)
		same(t, a, b, false)
	}
}

// P13.4: nil and zero memories equal each other and no other one.
func TestSameNilAndZero(t *testing.T) {
	none := []*memory.Memory{nil, {}, {}}
	for _, a := range none {
		for _, b := range none {
			same(t, a, b, true)
		}
		for _, pages := range []int{1, mostPages} {
			same(t, a, made(t, pages), false)
		}
		m := made(t, 1)
		writes(t, m, 0, 1)
		same(t, a, m, false)
	}
}

// P13.4: Same changes neither of the two.
func TestSameChangesNothing(t *testing.T) {
	p, q := after(t, 300), after(t, 5)
	same(t, p.m, q.m, false)
	same(t, p.m, p.m, true)
	p.is(t)
	q.is(t)
}
