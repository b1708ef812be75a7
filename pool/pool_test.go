package pool_test

import (
	"fmt"
	"math"
	"slices"
	"testing"

	"capsule/api"
	"capsule/pool"
)

func made(t *testing.T, erases ...int) *pool.Pool {
	t.Helper()
	p, e := pool.New(erases...)
	if e != api.OK || p == nil {
		t.Fatalf("New(%v): %v, %v", erases, p, e)
	}
	return p
}

// gives fails the test unless a call has returned this error.
func gives(t *testing.T, what string, got, want api.Errno) {
	t.Helper()
	if got != want {
		t.Errorf("%s: %v, not %v", what, got, want)
	}
}

// takes fails the test unless Take gives these blocks, one after the other.
func takes(t *testing.T, p *pool.Pool, blocks ...int) {
	t.Helper()
	for _, want := range blocks {
		if block, e := p.Take(); block != want || e != api.OK {
			t.Errorf("Take: %d, %v, not %d", block, e, want)
		}
	}
}

// cannotTake fails the test unless Take returns this error and no block.
func cannotTake(t *testing.T, p *pool.Pool, want api.Errno) {
	t.Helper()
	if block, e := p.Take(); block != 0 || e != want {
		t.Errorf("Take: %d, %v, not %v", block, e, want)
	}
}

// isBlock fails the test unless a block has this state and this erase count.
func isBlock(t *testing.T, p *pool.Pool, block int, s api.BlockState, erases int) {
	t.Helper()
	if a, b := p.State(block), p.Erases(block); a != s || b != erases {
		t.Errorf("block %d: State %v, Erases %d, not %v, %d", block, a, b, s, erases)
	}
}

// cold fails the test unless this is the coldest block.
func cold(t *testing.T, p *pool.Pool, want int, found bool) {
	t.Helper()
	if block, is := p.Cold(); block != want || is != found {
		t.Errorf("Cold: %d, %t, not %d, %t", block, is, want, found)
	}
}

// spreads fails the test unless these are the lowest and the highest erase count.
func spreads(t *testing.T, p *pool.Pool, least, most int) {
	t.Helper()
	if a, b := p.Spread(); a != least || b != most {
		t.Errorf("Spread: %d, %d, not %d, %d", a, b, least, most)
	}
}

// listed returns what Blocks yields for a state.
func listed(p *pool.Pool, s api.BlockState) [][2]int {
	var l [][2]int
	for block, erases := range p.Blocks(s) {
		l = append(l, [2]int{block, erases})
	}
	return l
}

// free returns a model with free blocks of these erase counts.
func free(erases ...int) model {
	var m model
	for _, n := range erases {
		m = append(m, cell{api.BlockFree, n})
	}
	return m
}

// otherBlocks are numbers of blocks that a pool of fewer than 256 does not have.
var otherBlocks = []int{math.MinInt, math.MinInt + 1, -1 << 32, math.MinInt32, -4096, -256, -2, -1, 256, 4095, 4096, 65536, math.MaxInt32, 1 << 32, 1<<32 + 1, math.MaxInt - 1, math.MaxInt}

// The chapter's examples.
func TestExamples(t *testing.T) {
	p := made(t, 3, 1, 1)
	takes(t, p, 1, 2)
	gives(t, "Close(1)", p.Close(1), api.OK)
	gives(t, "Close(1)", p.Close(1), api.ErrState)
	cold(t, p, 1, true)
	if n := p.Count(api.BlockFree); n != 1 {
		t.Errorf("Count: %d", n)
	}
	gives(t, "Release(1)", p.Release(1), api.OK)
	takes(t, p, 1)
	isBlock(t, p, 1, api.BlockOpen, 2)
	spreads(t, p, 1, 3)
	gives(t, "Retire(0)", p.Retire(0), api.OK)
	gives(t, "Retire(0)", p.Retire(0), api.ErrState)
	cannotTake(t, p, api.ErrNone)
	gives(t, "Release(0)", p.Release(0), api.ErrState)
	gives(t, "Release(3)", p.Release(3), api.ErrRange)
	gives(t, "Set(0)", p.Set(0, api.BlockFree, 9), api.OK)
	takes(t, p, 0)
	model{{api.BlockOpen, 9}, {api.BlockOpen, 2}, {api.BlockOpen, 1}}.is(t, p)
	cannotMake(t)
}

// cannotMake fails the test unless New refuses these erase counts.
func cannotMake(t *testing.T, erases ...int) {
	t.Helper()
	if p, e := pool.New(erases...); p != nil || e != api.ErrArg {
		t.Errorf("New of %d blocks: %v, %v", len(erases), p, e)
	}
}

// P6.1: one block, as many as there can be, and numbers between them, with erase counts at their limits.
func TestNew(t *testing.T) {
	for _, n := range someErases {
		free(n).is(t, made(t, n))
		free(n, 0, api.MaxErases).is(t, made(t, n, 0, api.MaxErases))
		free(api.MaxErases, n, 0).is(t, made(t, api.MaxErases, n, 0))
		free(0, api.MaxErases, n).is(t, made(t, 0, api.MaxErases, n))
	}
	for _, n := range []int{1, 2, 3, 127, 128, 255, 256, 257, 1000, api.MaxBlocks - 1, api.MaxBlocks} {
		erases := make([]int, n)
		free(erases...).shown(t, made(t, erases...))
		for block := range erases {
			erases[block] = (n - block) * 1000003 % 777
		}
		free(erases...).is(t, made(t, erases...))
	}
}

// P6.1: no block, and more than there can be.
func TestNewWithInvalidNumber(t *testing.T) {
	cannotMake(t)
	cannotMake(t, []int{}...)
	cannotMake(t, make([]int, 0, 5)...)
	for _, n := range []int{api.MaxBlocks + 1, api.MaxBlocks + 2, 2 * api.MaxBlocks, 65536, 65537, 1 << 20} {
		cannotMake(t, make([]int, n)...)
	}
}

// P6.1: an erase count beyond its limits, at each place.
func TestNewWithInvalidErases(t *testing.T) {
	for _, n := range otherErases {
		cannotMake(t, n)
		for block := range 5 {
			erases := []int{0, api.MaxErases, 7, 1, 0}
			erases[block] = n
			cannotMake(t, erases...)
		}
		erases := make([]int, api.MaxBlocks)
		erases[api.MaxBlocks-1] = n
		cannotMake(t, erases...)
		cannotMake(t, append(erases, 0)...)
	}
}

// P6.1: the erase counts are neither changed nor kept.
func TestNewKeepsNoArguments(t *testing.T) {
	erases := []int{3, 1, 2, 8, 9}
	given := erases[:3]
	p := made(t, given...)
	takes(t, p, 1)
	gives(t, "Release", p.Release(1), api.OK)
	gives(t, "Set", p.Set(0, api.BlockFull, 44), api.OK)
	gives(t, "Retire", p.Retire(2), api.OK)
	if !slices.Equal(erases, []int{3, 1, 2, 8, 9}) {
		t.Errorf("the argument is %v", erases)
	}
	clear(erases)
	model{{api.BlockFull, 44}, {api.BlockFree, 2}, {api.BlockBad, 2}}.is(t, p)
	q := made(t, erases...)
	erases[2] = 5
	free(0, 0, 0, 0, 0).is(t, q)
}

// P6.1, P6.4: blocks are taken by their erase counts and, where these are equal, by their numbers.
func TestTakeOrder(t *testing.T) {
	for _, c := range []struct{ erases, order []int }{
		{[]int{0}, []int{0}}, {[]int{api.MaxErases}, []int{0}},
		{[]int{5, 5, 5, 5}, []int{0, 1, 2, 3}}, {[]int{0, 0, 0}, []int{0, 1, 2}},
		{[]int{1, 2, 3, 4}, []int{0, 1, 2, 3}}, {[]int{4, 3, 2, 1}, []int{3, 2, 1, 0}},
		{[]int{1, 7, 7, 7}, []int{0, 1, 2, 3}}, {[]int{7, 7, 1, 7}, []int{2, 0, 1, 3}}, {[]int{7, 7, 7, 1}, []int{3, 0, 1, 2}},
		{[]int{2, 1, 2, 1}, []int{1, 3, 0, 2}}, {[]int{1, 2, 1, 2}, []int{0, 2, 1, 3}}, {[]int{2, 2, 1, 1}, []int{2, 3, 0, 1}},
		{[]int{9, 0, 5, 0, 9}, []int{1, 3, 2, 0, 4}}, {[]int{0, 9, 5, 9, 0}, []int{0, 4, 2, 1, 3}},
		{[]int{1 << 32, 1, 1 << 31, 256, 1 << 16}, []int{1, 3, 4, 2, 0}},
		{[]int{api.MaxErases, api.MaxErases - 1, api.MaxErases, 0}, []int{3, 1, 0, 2}},
		{[]int{api.MaxErases, api.MaxErases}, []int{0, 1}},
	} {
		p := made(t, c.erases...)
		takes(t, p, c.order...)
		cannotTake(t, p, api.ErrNone)
		for block, erases := range c.erases {
			isBlock(t, p, block, api.BlockOpen, erases)
		}
	}
}

// P6.1, P6.4: blocks that are not free are not taken, however low their erase counts are.
func TestTakeOnlyFree(t *testing.T) {
	for _, s := range []api.BlockState{api.BlockOpen, api.BlockFull, api.BlockBad} {
		for at := range 4 {
			m := free(8, 6, 7, 9)
			m[at] = cell{s, 0}
			p := m.build(t)
			m.drained(t, p)
			m.shown(t, p)
		}
		for at := range 4 {
			m := slices.Repeat(model{{s, 0}}, 4)
			m[at] = cell{api.BlockFree, api.MaxErases}
			p := m.build(t)
			takes(t, p, at)
			cannotTake(t, p, api.ErrNone)
		}
	}
}

// P6.1: without a free block nothing is taken and nothing is changed.
func TestTakeNone(t *testing.T) {
	for _, m := range []model{
		{{api.BlockOpen, 1}}, {{api.BlockFull, 1}}, {{api.BlockBad, 1}},
		{{api.BlockOpen, 0}, {api.BlockFull, 2}, {api.BlockBad, 3}},
		{{api.BlockBad, 9}, {api.BlockBad, 0}}, {{api.BlockFull, 9}, {api.BlockFull, 0}}, {{api.BlockOpen, 9}, {api.BlockOpen, 0}},
	} {
		p := m.build(t)
		for range 3 {
			cannotTake(t, p, api.ErrNone)
			m.is(t, p)
		}
		gives(t, "Set", p.Set(len(m)-1, api.BlockFree, 5), api.OK)
		takes(t, p, len(m)-1)
		cannotTake(t, p, api.ErrNone)
	}
}

// P6.1: each of Close, Release, Retire and Set for a block in each state, between blocks of all states, which stay as they are.
func TestChangesByState(t *testing.T) {
	const no = api.BlockNone
	around := model{{api.BlockBad, 4}, {api.BlockFull, 3}, {api.BlockFree, 2}, {api.BlockOpen, 1}}
	for _, c := range []struct{ from, closed, released, retired api.BlockState }{
		{api.BlockFree, no, no, api.BlockBad},
		{api.BlockOpen, api.BlockFull, api.BlockFree, api.BlockBad},
		{api.BlockFull, no, api.BlockFree, api.BlockBad},
		{api.BlockBad, no, no, no},
	} {
		for _, erases := range []int{0, 1, 1 << 32, api.MaxErases - 1} {
			for at := range len(around) + 1 {
				m := slices.Insert(slices.Clone(around), at, cell{c.from, erases})
				turns(t, m, at, "Close", (*pool.Pool).Close, cell{c.closed, erases})
				turns(t, m, at, "Release", (*pool.Pool).Release, cell{c.released, erases + 1})
				turns(t, m, at, "Retire", (*pool.Pool).Retire, cell{c.retired, erases})
				for _, s := range allStates {
					for _, n := range someErases {
						turns(t, m, at, "Set", func(p *pool.Pool, block int) api.Errno { return p.Set(block, s, n) }, cell{s, n})
					}
				}
			}
		}
	}
}

// turns fails the test unless a call makes a block what it should be, and nothing else; if that has no state, the call must fail.
func turns(t *testing.T, m model, at int, name string, call func(*pool.Pool, int) api.Errno, want cell) {
	t.Helper()
	p, n, e := m.build(t), slices.Clone(m), api.OK
	if want.state == api.BlockNone {
		e = api.ErrState
	} else {
		n[at] = want
	}
	gives(t, fmt.Sprintf("%s(%d) of %v", name, at, m), call(p, at), e)
	n.is(t, p)
}

// P6.1: the way of a block that is taken, closed, released, taken, released and retired.
func TestWayOfABlock(t *testing.T) {
	p := made(t, 4, 9)
	takes(t, p, 0)
	isBlock(t, p, 0, api.BlockOpen, 4)
	gives(t, "Close", p.Close(0), api.OK)
	isBlock(t, p, 0, api.BlockFull, 4)
	gives(t, "Release", p.Release(0), api.OK)
	isBlock(t, p, 0, api.BlockFree, 5)
	gives(t, "Release", p.Release(0), api.ErrState)
	takes(t, p, 0)
	gives(t, "Release", p.Release(0), api.OK)
	isBlock(t, p, 0, api.BlockFree, 6)
	gives(t, "Retire", p.Retire(0), api.OK)
	isBlock(t, p, 0, api.BlockBad, 6)
	takes(t, p, 1)
	model{{api.BlockBad, 6}, {api.BlockOpen, 9}}.is(t, p)
}

// P6.1: a block of MaxErases cannot be released, but all else goes on; one with an erase fewer can.
func TestMaxErases(t *testing.T) {
	p := made(t, api.MaxErases, api.MaxErases-1)
	takes(t, p, 1, 0)
	gives(t, "Release(0)", p.Release(0), api.ErrState)
	gives(t, "Release(1)", p.Release(1), api.OK)
	model{{api.BlockOpen, api.MaxErases}, {api.BlockFree, api.MaxErases}}.is(t, p)
	gives(t, "Close(0)", p.Close(0), api.OK)
	gives(t, "Release(0)", p.Release(0), api.ErrState)
	model{{api.BlockFull, api.MaxErases}, {api.BlockFree, api.MaxErases}}.is(t, p)
	takes(t, p, 1)
	gives(t, "Release(1)", p.Release(1), api.ErrState)
	gives(t, "Retire(1)", p.Retire(1), api.OK)
	gives(t, "Release(1)", p.Release(1), api.ErrState)
	model{{api.BlockFull, api.MaxErases}, {api.BlockBad, api.MaxErases}}.is(t, p)
	gives(t, "Set(0)", p.Set(0, api.BlockFull, api.MaxErases-2), api.OK)
	gives(t, "Release(0)", p.Release(0), api.OK)
	model{{api.BlockFree, api.MaxErases - 1}, {api.BlockBad, api.MaxErases}}.is(t, p)
}

// all is a pool with two blocks in each state.
func all() model {
	return model{{api.BlockFull, 5}, {api.BlockFree, 3}, {api.BlockOpen, 2}, {api.BlockBad, 1}, {api.BlockBad, 9}, {api.BlockOpen, 4}, {api.BlockFree, 0}, {api.BlockFull, 8}}
}

// P6.1, P6.2: blocks that do not exist, in every method, whatever the other blocks are; no such call changes anything.
func TestBlocksThatDoNotExist(t *testing.T) {
	for _, m := range []model{all(), {{api.BlockOpen, 1}}, {{api.BlockBad, 1}}, {{api.BlockFull, api.MaxErases}}, free(0, 0)} {
		p := m.build(t)
		for _, block := range slices.Concat(otherBlocks, []int{len(m), len(m) + 1, -len(m)}) {
			gives(t, fmt.Sprintf("Close(%d)", block), p.Close(block), api.ErrRange)
			gives(t, fmt.Sprintf("Release(%d)", block), p.Release(block), api.ErrRange)
			gives(t, fmt.Sprintf("Retire(%d)", block), p.Retire(block), api.ErrRange)
			for _, s := range allStates {
				gives(t, fmt.Sprintf("Set(%d, %d)", block, s), p.Set(block, s, 1), api.ErrRange)
			}
			isBlock(t, p, block, api.BlockNone, 0)
		}
		m.is(t, p)
	}
}

// P6.1: states and erase counts that Set refuses, for every block and for those that do not exist, where that comes first; nothing is changed.
func TestInvalidSet(t *testing.T) {
	m := all()
	p := m.build(t)
	for _, block := range []int{0, 1, 2, 3, 7, 8, -1, math.MinInt, math.MaxInt} {
		for _, s := range otherStates {
			for _, n := range slices.Concat(someErases, otherErases) {
				gives(t, fmt.Sprintf("Set(%d, %d, %d)", block, s, n), p.Set(block, s, n), api.ErrArg)
			}
		}
		for _, s := range allStates {
			for _, n := range otherErases {
				gives(t, fmt.Sprintf("Set(%d, %d, %d)", block, s, n), p.Set(block, s, n), api.ErrArg)
			}
		}
	}
	m.is(t, p)
}

// P6.1 to P6.3, P1: every method of nil and zero pools, where ErrNil comes before all other errors.
func TestNoPool(t *testing.T) {
	for _, p := range []*pool.Pool{nil, {}, new(pool.Pool)} {
		for _, block := range slices.Concat(otherBlocks, []int{0, 1}) {
			gives(t, "Close", p.Close(block), api.ErrNil)
			gives(t, "Release", p.Release(block), api.ErrNil)
			gives(t, "Retire", p.Retire(block), api.ErrNil)
			for _, s := range slices.Concat(allStates, otherStates) {
				for _, n := range []int{0, 1, -1, api.MaxErases + 1} {
					gives(t, "Set", p.Set(block, s, n), api.ErrNil)
				}
			}
			isBlock(t, p, block, api.BlockNone, 0)
		}
		cannotTake(t, p, api.ErrNil)
		for _, s := range slices.Concat(allStates, otherStates) {
			if n, l := p.Count(s), listed(p, s); n != 0 || l != nil {
				t.Errorf("Count(%d): %d; Blocks: %v", s, n, l)
			}
		}
		cold(t, p, 0, false)
		spreads(t, p, 0, 0)
		if q := p.Copy(); q != nil {
			t.Errorf("Copy: %v", q)
		}
	}
}
