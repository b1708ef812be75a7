package pool_test

import (
	"cmp"
	"fmt"
	"math"
	"math/rand/v2"
	"slices"
	"testing"

	"capsule/api"
	"capsule/pool"
)

// cell is a block: its state and its erase count.
type cell struct {
	state  api.BlockState
	erases int
}

// model is a pool as the chapter words it.
type model []cell

// first returns the block with the lowest erase count in a state, and of several ones that with the lowest number.
func (m model) first(s api.BlockState) (int, bool) {
	var numbers []int
	for block, c := range m {
		if c.state == s {
			numbers = append(numbers, block)
		}
	}
	if len(numbers) == 0 {
		return 0, false
	}
	return slices.MinFunc(numbers, func(a, b int) int { return cmp.Compare(m[a].erases, m[b].erases) }), true
}

func (m model) take() (int, api.Errno) {
	block, found := m.first(api.BlockFree)
	if !found {
		return 0, api.ErrNone
	}
	m[block].state = api.BlockOpen
	return block, api.OK
}

func (m model) has(block int) bool {
	return block >= 0 && block < len(m)
}

func (m model) close(block int) api.Errno {
	if !m.has(block) {
		return api.ErrRange
	}
	if m[block].state != api.BlockOpen {
		return api.ErrState
	}
	m[block].state = api.BlockFull
	return api.OK
}

func (m model) release(block int) api.Errno {
	if !m.has(block) {
		return api.ErrRange
	}
	if c := m[block]; c.state == api.BlockFree || c.state == api.BlockBad || c.erases == 1<<40 {
		return api.ErrState
	}
	m[block] = cell{api.BlockFree, m[block].erases + 1}
	return api.OK
}

func (m model) retire(block int) api.Errno {
	if !m.has(block) {
		return api.ErrRange
	}
	if m[block].state == api.BlockBad {
		return api.ErrState
	}
	m[block].state = api.BlockBad
	return api.OK
}

func (m model) set(block int, s api.BlockState, erases int) api.Errno {
	if s != 1 && s != 2 && s != 3 && s != 4 || erases < 0 || erases > 1<<40 {
		return api.ErrArg
	}
	if !m.has(block) {
		return api.ErrRange
	}
	m[block] = cell{s, erases}
	return api.OK
}

func (m model) count(s api.BlockState) int {
	return len(m.blocks(s))
}

// blocks returns the numbers and erase counts of the blocks in a state.
func (m model) blocks(s api.BlockState) [][2]int {
	var l [][2]int
	for block, c := range m {
		if c.state == s {
			l = append(l, [2]int{block, c.erases})
		}
	}
	return l
}

func (m model) spread() (least, most int) {
	var counts []int
	for _, c := range m {
		if c.state != api.BlockBad {
			counts = append(counts, c.erases)
		}
	}
	if len(counts) == 0 {
		return 0, 0
	}
	return slices.Min(counts), slices.Max(counts)
}

// build returns a pool in the state of the model, made by New and Set.
func (m model) build(t *testing.T) *pool.Pool {
	t.Helper()
	p := made(t, make([]int, len(m))...)
	for block, c := range m {
		gives(t, fmt.Sprintf("Set(%d, %d, %d)", block, c.state, c.erases), p.Set(block, c.state, c.erases), api.OK)
	}
	return p
}

// shown fails the test unless the pool shows what the model has, in every method that changes nothing.
func (m model) shown(t *testing.T, p *pool.Pool) {
	t.Helper()
	for block := -1; block <= len(m); block++ {
		want := cell{}
		if m.has(block) {
			want = m[block]
		}
		if got := (cell{p.State(block), p.Erases(block)}); got != want {
			t.Errorf("block %d of %v: %v", block, m, got)
		}
	}
	for s := api.BlockNone - 1; s <= api.BlockBad+1; s++ {
		if got := p.Count(s); got != m.count(s) {
			t.Errorf("Count(%d) of %v: %d", s, m, got)
		}
		if got := listed(p, s); !slices.Equal(got, m.blocks(s)) {
			t.Errorf("Blocks(%d) of %v: %v", s, m, got)
		}
	}
	cold, found := m.first(api.BlockFull)
	if block, is := p.Cold(); block != cold || is != found {
		t.Errorf("Cold of %v: %d, %t", m, block, is)
	}
	least, most := m.spread()
	if a, b := p.Spread(); a != least || b != most {
		t.Errorf("Spread of %v: %d, %d", m, a, b)
	}
}

// drained takes all free blocks of both and fails the test unless they are the same ones.
func (m model) drained(t *testing.T, p *pool.Pool) {
	t.Helper()
	for {
		want, e := m.take()
		got, f := p.Take()
		if got != want || f != e {
			t.Fatalf("Take of %v: %d, %v, not %d, %v", m, got, f, want, e)
		}
		if e != api.OK {
			return
		}
	}
}

// is fails the test unless the pool is in the state of the model: by what it shows, and by the blocks that it gives next. The pool is not changed.
func (m model) is(t *testing.T, p *pool.Pool) {
	t.Helper()
	m.shown(t, p)
	q := p.Copy()
	slices.Clone(m).drained(t, q)
	m.shown(t, p)
}

// call is a call of a changing method, with those of these arguments that it takes.
type call struct {
	method string
	block  int
	state  api.BlockState
	erases int
}

// on makes the call on a pool.
func (c call) on(p *pool.Pool) (int, api.Errno) {
	switch c.method {
	case "Take":
		return p.Take()
	case "Close":
		return 0, p.Close(c.block)
	case "Release":
		return 0, p.Release(c.block)
	case "Retire":
		return 0, p.Retire(c.block)
	}
	return 0, p.Set(c.block, c.state, c.erases)
}

// in makes the call in the model.
func (c call) in(m model) (int, api.Errno) {
	switch c.method {
	case "Take":
		return m.take()
	case "Close":
		return 0, m.close(c.block)
	case "Release":
		return 0, m.release(c.block)
	case "Retire":
		return 0, m.retire(c.block)
	}
	return 0, m.set(c.block, c.state, c.erases)
}

// agrees makes the call on both and fails the test unless the results are the same.
func (c call) agrees(t *testing.T, p *pool.Pool, m model) {
	t.Helper()
	want, e := c.in(m)
	if got, f := c.on(p); got != want || f != e {
		t.Errorf("%v: %d, %v, not %d, %v", c, got, f, want, e)
	}
}

// calls returns all calls with these arguments.
func calls(blocks []int, states []api.BlockState, erases []int) []call {
	l := []call{{method: "Take"}}
	for _, block := range blocks {
		for _, method := range []string{"Close", "Release", "Retire"} {
			l = append(l, call{method: method, block: block})
		}
		for _, s := range states {
			for _, n := range erases {
				l = append(l, call{"Set", block, s, n})
			}
		}
	}
	return l
}

var (
	allStates   = []api.BlockState{api.BlockFree, api.BlockOpen, api.BlockFull, api.BlockBad}
	otherStates = []api.BlockState{math.MinInt, -257, -4, -1, api.BlockNone, 5, 6, 256, 257, 1<<32 + 1, math.MaxInt}
	someErases  = []int{0, 1, 2, 255, 256, math.MaxInt32, 1 << 32, api.MaxErases - 1, api.MaxErases}
	otherErases = []int{math.MinInt, -api.MaxErases, math.MinInt32, -2, -1, api.MaxErases + 1, api.MaxErases + 2, 1 << 41, math.MaxInt - 1, math.MaxInt}
)

// models yields all models of so many blocks with these erase counts.
func models(blocks int, erases ...int) func(yield func(model) bool) {
	kinds := len(allStates) * len(erases)
	total := 1
	for range blocks {
		total *= kinds
	}
	return func(yield func(model) bool) {
		for i := range total {
			var m model
			for range blocks {
				k := i % kinds
				i /= kinds
				m = append(m, cell{allStates[k%len(allStates)], erases[k/len(allStates)]})
			}
			if !yield(m) {
				return
			}
		}
	}
}

// P6.1 to P6.3: all pools of one block and of two, with every call of a changing method, with arguments at and beyond their limits.
func TestEveryCall(t *testing.T) {
	one := calls([]int{math.MinInt, -1, 0, 1, 1 << 32, math.MaxInt}, slices.Concat(allStates, otherStates), slices.Concat(someErases, otherErases))
	for m := range models(1, someErases...) {
		makes(t, m, one)
	}
	two := calls([]int{-1, 0, 1, 2}, []api.BlockState{0, 1, 2, 3, 4, 5}, []int{-1, 0, 3, api.MaxErases, api.MaxErases + 1})
	for m := range models(2, 0, 1, api.MaxErases-1, api.MaxErases) {
		makes(t, m, two)
	}
}

// makes makes each of the calls on a pool of its own in the state of the model.
func makes(t *testing.T, m model, l []call) {
	t.Helper()
	p := m.build(t)
	for _, c := range l {
		q, n := p.Copy(), slices.Clone(m)
		c.agrees(t, q, n)
		n.shown(t, q)
		if t.Failed() {
			t.Fatalf("%v of %v", c, m)
		}
	}
	m.is(t, p)
}

// P6.1 to P6.4: all pools of three blocks, with what they show and the blocks that they give.
func TestEveryPool(t *testing.T) {
	for m := range models(3, 0, 1, 1<<32) {
		p := m.build(t)
		m.shown(t, p)
		slices.Clone(m).drained(t, p)
	}
}

// someModel returns a model with free blocks only, and the erase counts for New.
func someModel(r *rand.Rand, blocks int) (model, []int) {
	var m model
	var erases []int
	for range blocks {
		n := r.IntN(4)
		if r.IntN(8) == 0 {
			n = someErases[r.IntN(len(someErases))]
		}
		m, erases = append(m, cell{api.BlockFree, n}), append(erases, n)
	}
	return m, erases
}

// someCall returns a call with arguments that are mostly valid.
func someCall(r *rand.Rand, blocks int) call {
	n := r.IntN(5) - 1
	if r.IntN(3) == 0 {
		n = someErases[r.IntN(len(someErases))]
	}
	methods := []string{"Take", "Take", "Close", "Release", "Retire", "Set"}
	return call{methods[r.IntN(len(methods))], r.IntN(blocks+2) - 1, api.BlockState(r.IntN(6)), n}
}

// P6.1 to P6.3: long sequences of calls, compared with the model; now and then the sequence goes on with a copy.
func TestModel(t *testing.T) {
	for run := range 80 {
		r := rand.New(rand.NewPCG(6, uint64(run)))
		m, erases := someModel(r, 1+run%11)
		p := made(t, erases...)
		m.is(t, p)
		for range 150 {
			someCall(r, len(m)).agrees(t, p, m)
			m.shown(t, p)
			if r.IntN(20) == 0 {
				m.is(t, p)
				p = p.Copy()
			}
		}
	}
}

// P6.1 to P6.3: a pool with as many blocks as there can be.
func TestLargestPool(t *testing.T) {
	r := rand.New(rand.NewPCG(7, 0))
	m, erases := someModel(r, api.MaxBlocks)
	p := made(t, erases...)
	for range 3 {
		for range 3000 {
			someCall(r, len(m)).agrees(t, p, m)
		}
		m.shown(t, p)
	}
	m.is(t, p)
}

// P6.1 to P6.3: several pools that are used in turn have nothing to do with each other.
func TestSeveralPools(t *testing.T) {
	r := rand.New(rand.NewPCG(8, 0))
	var models []model
	var pools []*pool.Pool
	for i := range 5 {
		m, erases := someModel(r, 2+i)
		models, pools = append(models, m), append(pools, made(t, erases...))
	}
	for range 100 {
		for i, m := range models {
			someCall(r, len(m)).agrees(t, pools[i], m)
		}
		for i, m := range models {
			m.shown(t, pools[i])
		}
	}
}
