package pool

import "capsule/api"

// all returns the blocks; a nil pool has none.
func (p *Pool) all() []poolBlock {
	if p == nil {
		return nil
	}
	return p.blocks
}

func (p *Pool) missing() bool {
	return len(p.all()) == 0
}

func (p *Pool) hasBlock(block int) bool {
	return within(block, 0, len(p.all())-1)
}

// coldest returns the first block with the lowest erase count of those in a state.
func (p *Pool) coldest(s api.BlockState) (int, bool) {
	return lowest(p.all(), func(b poolBlock) (int, bool) { return b.erases, b.state == s })
}

// refusal returns the first of the errors that all calls for a block have in common. It is told whether the other arguments of the call are valid.
func (p *Pool) refusal(valid bool, block int) api.Errno {
	switch {
	case p.missing():
		return api.ErrNil
	case !valid:
		return api.ErrArg
	case !p.hasBlock(block):
		return api.ErrRange
	}
	return api.OK
}

// move puts a block into a state, with some more erases, if it may be put there.
func (p *Pool) move(block int, to api.BlockState, more int, may func(poolBlock) bool) api.Errno {
	e := p.refusal(true, block)
	if e != api.OK {
		goto refused
	}
	if !may(p.blocks[block]) {
		e = api.ErrState
		goto refused
	}
	p.put(block, to, p.Erases(block)+more)
refused:
	return e
}

// put gives a block a state and an erase count.
func (p *Pool) put(block int, s api.BlockState, erases int) {
	b := &p.blocks[block]
	p.counts[b.state]--
	p.counts[s]++
	b.state = s
	b.erases = erases
}

func usable(b poolBlock) bool {
	return b.state != api.BlockBad
}

func isState(s api.BlockState) bool {
	return s >= api.BlockFree && s <= api.BlockBad
}

func isErases(n int) bool {
	return within(n, 0, api.MaxErases)
}

func within(n, least, most int) bool {
	return n >= least && n <= most
}

// lowest returns the index of the first item of the lowest rank among those that have a rank.
func lowest[T any](items []T, rank func(T) (int, bool)) (int, bool) {
	best, least, found := 0, 0, false
	for i, item := range items {
		if n, ranked := rank(item); ranked && (!found || n < least) {
			best, least, found = i, n, true
		}
	}
	return best, found
}
