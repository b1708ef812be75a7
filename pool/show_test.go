package pool_test

import (
	"math"
	"math/rand/v2"
	"slices"
	"testing"

	"capsule/api"
	"capsule/pool"
)

// P6.2: Count and Blocks for numbers that are no state, of pools with blocks in all states.
func TestNoStates(t *testing.T) {
	for _, m := range []model{all(), free(0), {{api.BlockBad, 0}}} {
		p := m.build(t)
		for _, s := range otherStates {
			if n, l := p.Count(s), listed(p, s); n != 0 || l != nil {
				t.Errorf("Count(%d): %d; Blocks: %v", s, n, l)
			}
		}
	}
}

// P6.2: the blocks of each state, in increasing order and not in that of their erase counts.
func TestBlocks(t *testing.T) {
	p := all().build(t)
	for _, c := range []struct {
		state api.BlockState
		want  [][2]int
	}{
		{api.BlockFree, [][2]int{{1, 3}, {6, 0}}},
		{api.BlockOpen, [][2]int{{2, 2}, {5, 4}}},
		{api.BlockFull, [][2]int{{0, 5}, {7, 8}}},
		{api.BlockBad, [][2]int{{3, 1}, {4, 9}}},
	} {
		if n, l := p.Count(c.state), listed(p, c.state); n != 2 || !slices.Equal(l, c.want) {
			t.Errorf("Count(%d): %d; Blocks: %v, not %v", c.state, n, l, c.want)
		}
	}
}

// P6.2: an iterator that is left after each number of blocks, and used again: it begins at the beginning.
func TestBlocksLeftEarly(t *testing.T) {
	p := made(t, 5, 4, 3, 2)
	gives(t, "Retire", p.Retire(1), api.OK)
	blocks := p.Blocks(api.BlockFree)
	whole := [][2]int{{0, 5}, {2, 3}, {3, 2}}
	for n := 1; n <= len(whole); n++ {
		var l [][2]int
		for block, erases := range blocks {
			l = append(l, [2]int{block, erases})
			if len(l) == n {
				break
			}
		}
		if !slices.Equal(l, whole[:n]) {
			t.Errorf("left after %d: %v", n, l)
		}
		if l := listed(p, api.BlockFree); !slices.Equal(l, whole) {
			t.Errorf("another iterator: %v", l)
		}
	}
	for range 2 {
		var l [][2]int
		blocks(func(block, erases int) bool {
			l = append(l, [2]int{block, erases})
			return true
		})
		if !slices.Equal(l, whole) {
			t.Errorf("used again: %v", l)
		}
	}
	calls := 0
	blocks(func(int, int) bool {
		calls++
		return false
	})
	if calls != 1 {
		t.Errorf("left at once: %d calls", calls)
	}
}

// P6.2: an iterator that is used within itself.
func TestBlocksWithinItself(t *testing.T) {
	blocks := made(t, 7, 8, 9).Blocks(api.BlockFree)
	var l [][4]int
	for a, m := range blocks {
		for b, n := range blocks {
			l = append(l, [4]int{a, m, b, n})
			if b == a {
				break
			}
		}
	}
	if want := [][4]int{{0, 7, 0, 7}, {1, 8, 0, 7}, {1, 8, 1, 8}, {2, 9, 0, 7}, {2, 9, 1, 8}, {2, 9, 2, 9}}; !slices.Equal(l, want) {
		t.Errorf("%v", l)
	}
}

// P6.2: an iterator yields the blocks as they were at the time of the call, whatever happens to the pool before it is used, while it is used, and between its uses.
func TestBlocksAfterChanges(t *testing.T) {
	for _, s := range allStates {
		m := all()
		p := m.build(t)
		unused, blocks, want := p.Blocks(s), p.Blocks(s), m.blocks(s)
		for range 2 {
			var l [][2]int
			for block, erases := range blocks {
				l = append(l, [2]int{block, erases})
				for i := range m {
					p.Retire(i)
					p.Set(i, s%4+1, 100+i)
				}
			}
			if !slices.Equal(l, want) {
				t.Errorf("Blocks(%d): %v, not %v", s, l, want)
			}
		}
		var l [][2]int
		for block, erases := range unused {
			l = append(l, [2]int{block, erases})
		}
		if !slices.Equal(l, want) {
			t.Errorf("Blocks(%d), used late: %v, not %v", s, l, want)
		}
		if n := len(listed(p, s%4+1)); n != len(m) {
			t.Errorf("%d blocks were changed", n)
		}
	}
}

// P6.2: an iterator over nothing stays so, and changes nothing.
func TestBlocksOfNothing(t *testing.T) {
	p := made(t, 1, 2)
	blocks := p.Blocks(api.BlockFull)
	takes(t, p, 0, 1)
	gives(t, "Close", p.Close(1), api.OK)
	for block := range blocks {
		t.Errorf("block %d", block)
	}
	model{{api.BlockOpen, 1}, {api.BlockFull, 2}}.is(t, p)
}

// P6.3: the coldest block at the beginning, in the middle and at the end, with equal erase counts, and among colder blocks that are not full.
func TestCold(t *testing.T) {
	const full = api.BlockFull
	for _, c := range []struct {
		m     model
		want  int
		found bool
	}{
		{model{{full, 0}}, 0, true}, {model{{full, api.MaxErases}}, 0, true},
		{model{{full, 1}, {full, 2}, {full, 3}}, 0, true},
		{model{{full, 2}, {full, 1}, {full, 3}}, 1, true},
		{model{{full, 3}, {full, 2}, {full, 1}}, 2, true},
		{model{{full, 4}, {full, 4}, {full, 4}}, 0, true},
		{model{{full, 5}, {full, 4}, {full, 4}}, 1, true},
		{model{{full, 4}, {full, 5}, {full, 4}}, 0, true},
		{model{{full, 1 << 32}, {full, 1}}, 1, true},
		{model{{full, api.MaxErases}, {full, api.MaxErases}, {full, api.MaxErases - 1}}, 2, true},
		{model{{api.BlockFree, 0}, {full, 3}, {api.BlockOpen, 0}, {full, 2}, {api.BlockBad, 0}}, 3, true},
		{model{{api.BlockFree, 0}, {api.BlockOpen, 0}, {api.BlockBad, 0}, {full, api.MaxErases}}, 3, true},
		{model{{api.BlockFree, 0}}, 0, false}, {model{{api.BlockOpen, 0}}, 0, false}, {model{{api.BlockBad, 0}}, 0, false},
		{model{{api.BlockBad, 1}, {api.BlockOpen, 2}, {api.BlockFree, 3}}, 0, false},
	} {
		p := c.m.build(t)
		for range 2 {
			cold(t, p, c.want, c.found)
		}
		c.m.is(t, p)
	}
}

// P6.3: the lowest and the highest erase count at the beginning, in the middle and at the end, of blocks in all states but bad.
func TestSpread(t *testing.T) {
	for _, c := range []struct {
		m           model
		least, most int
	}{
		{free(0), 0, 0}, {free(7), 7, 7}, {free(api.MaxErases), api.MaxErases, api.MaxErases},
		{free(1, 2, 3), 1, 3}, {free(3, 2, 1), 1, 3}, {free(2, 1, 3), 1, 3}, {free(2, 3, 1), 1, 3}, {free(2, 2, 2), 2, 2},
		{free(0, api.MaxErases, 5), 0, api.MaxErases}, {free(1<<32, 1, 256), 1, 1 << 32}, {free(api.MaxErases, api.MaxErases-1), api.MaxErases - 1, api.MaxErases},
		{model{{api.BlockOpen, 4}, {api.BlockFree, 6}, {api.BlockFull, 9}}, 4, 9},
		{model{{api.BlockFull, 4}, {api.BlockOpen, 9}, {api.BlockFree, 6}}, 4, 9},
		{model{{api.BlockFree, 4}, {api.BlockFull, 6}, {api.BlockOpen, 9}}, 4, 9},
		{model{{api.BlockBad, 0}, {api.BlockFree, 5}, {api.BlockBad, 9}}, 5, 5},
		{model{{api.BlockBad, 9}, {api.BlockFull, 5}, {api.BlockBad, 0}}, 5, 5},
		{model{{api.BlockOpen, 3}, {api.BlockBad, 0}, {api.BlockBad, 9}, {api.BlockFull, 4}}, 3, 4},
		{model{{api.BlockBad, 3}}, 0, 0}, {model{{api.BlockBad, 3}, {api.BlockBad, 4}}, 0, 0}, {model{{api.BlockBad, api.MaxErases}}, 0, 0},
	} {
		p := c.m.build(t)
		for range 2 {
			spreads(t, p, c.least, c.most)
		}
		c.m.is(t, p)
	}
}

// P6.3: blocks that become bad, one after the other, do not count any more, and count again when they are set.
func TestSpreadWithoutRetired(t *testing.T) {
	p := made(t, 1, 9, 5, 3)
	for _, c := range [][3]int{{0, 3, 9}, {1, 3, 5}, {3, 5, 5}, {2, 0, 0}} {
		gives(t, "Retire", p.Retire(c[0]), api.OK)
		spreads(t, p, c[1], c[2])
	}
	gives(t, "Set", p.Set(3, api.BlockFull, 8), api.OK)
	spreads(t, p, 8, 8)
}

// P6.3: a copy is in the same state; changes of the one do not show in the other.
func TestCopy(t *testing.T) {
	change := func(p *pool.Pool) {
		takes(t, p, 6)
		gives(t, "Close", p.Close(2), api.OK)
		gives(t, "Release", p.Release(0), api.OK)
		gives(t, "Retire", p.Retire(5), api.OK)
		gives(t, "Set", p.Set(4, api.BlockFull, 77), api.OK)
	}
	changed := model{{api.BlockFree, 6}, {api.BlockFree, 3}, {api.BlockFull, 2}, {api.BlockBad, 1}, {api.BlockFull, 77}, {api.BlockBad, 4}, {api.BlockOpen, 0}, {api.BlockFull, 8}}
	for range 2 {
		p := all().build(t)
		q := p.Copy()
		if q == nil || q == p {
			t.Fatalf("Copy: %v", q)
		}
		r := q.Copy()
		all().is(t, q)
		change(p)
		changed.is(t, p)
		all().is(t, q)
		all().is(t, r)
		change(q)
		changed.is(t, q)
		all().is(t, r)
		takes(t, p, 1, 0)
		changed.is(t, q)
		takes(t, q, 1, 0)
		all().is(t, r)
	}
}

// P6.3: an iterator of a copy, or of its original, does not show changes of the other one.
func TestBlocksOfCopies(t *testing.T) {
	p := made(t, 1, 2)
	q := p.Copy()
	takes(t, p, 0)
	if l := listed(q, api.BlockFree); !slices.Equal(l, [][2]int{{0, 1}, {1, 2}}) {
		t.Errorf("%v", l)
	}
	gives(t, "Set", q.Set(1, api.BlockFull, 9), api.OK)
	if l := listed(p, api.BlockFree); !slices.Equal(l, [][2]int{{1, 2}}) {
		t.Errorf("%v", l)
	}
}

// takesCold takes a block and fails the test if there was a free one with a lower erase count.
func takesCold(t *testing.T, p *pool.Pool, blocks int) int {
	t.Helper()
	before := p.Copy()
	block, e := p.Take()
	if e != api.OK || before.State(block) != api.BlockFree {
		t.Fatalf("Take: %d, %v", block, e)
	}
	for other := range blocks {
		if before.State(other) == api.BlockFree && before.Erases(other) < before.Erases(block) {
			t.Errorf("block %d was taken with %d erases, although %d has %d", block, before.Erases(block), other, before.Erases(other))
		}
	}
	return block
}

// P6.4: in long sequences of calls, no block is taken while a free one has a lower erase count.
func TestTakesCold(t *testing.T) {
	for run := range 40 {
		r := rand.New(rand.NewPCG(9, uint64(run)))
		blocks := 1 + run%9
		_, erases := someModel(r, blocks)
		p := made(t, erases...)
		for range 200 {
			if p.Count(api.BlockFree) > 0 && r.IntN(2) == 0 {
				takesCold(t, p, blocks)
			}
			c := someCall(r, blocks)
			if c.method == "Retire" && r.IntN(10) > 0 {
				c.method = "Release"
			}
			c.on(p)
		}
	}
}

// P6.4: blocks with equal erase counts are worn evenly, if each is released before the next one is taken, be it closed before or not.
func TestWearLevelling(t *testing.T) {
	for _, first := range []int{0, 1, 1000, 1 << 32, api.MaxErases - 100} {
		for blocks := 1; blocks <= 9; blocks++ {
			p := made(t, slices.Repeat([]int{first}, blocks)...)
			for i := range 11 * blocks {
				block := takesCold(t, p, blocks)
				if i%3 == 0 {
					gives(t, "Close", p.Close(block), api.OK)
				}
				even(t, p, blocks)
				gives(t, "Release", p.Release(block), api.OK)
				even(t, p, blocks)
			}
			spreads(t, p, first+11, first+11)
		}
	}
}

// even fails the test if erase counts differ by more than 1.
func even(t *testing.T, p *pool.Pool, blocks int) {
	t.Helper()
	least, most := math.MaxInt, 0
	for block := range blocks {
		least, most = min(least, p.Erases(block)), max(most, p.Erases(block))
	}
	if most-least > 1 {
		t.Errorf("erase counts from %d to %d", least, most)
	}
	spreads(t, p, least, most)
}
