package ftl

import (
	"capsule/api"
	"capsule/flash"
	"capsule/journal"
	"capsule/victim"
)

// Which blocks are kept free, beside one for each block that may still become bad:
//
// A group takes at most one block for data and one for the journal, and so do the contents of a block that is moved. A group that trims takes hardly more blocks for the journal than the next checkpoint needs less. If the power is cut, the blocks that were taken can be erased at once, unless what they were taken for has taken effect: so there is room to repeat it.
//
//   - A block with contents is moved if there is room for a checkpoint afterwards, as there is if the journal is not larger than a checkpoint.
//   - A group is written if there is room for a checkpoint afterwards, and also for a move if the journal is as large as a checkpoint.
//
// So there is always room for a checkpoint. If after it there are too few free blocks for a group, the reserve leaves more blocks to the contents of the sectors than these fill: one of them can be moved, and takes less than it frees.
const (
	moreForMove  = 2
	moreForGroup = 4
)

// checkpointBlocks returns the number of blocks that a checkpoint of all sectors takes.
func checkpointBlocks(g api.Geometry, sectors int) int {
	return (journal.Pages(g.Size, sectors) + g.Pages - 1) / g.Pages
}

func (c *core) checkpointBlocks() int {
	return checkpointBlocks(c.geometry(), c.Sectors)
}

// makeRoom recovers space until a group can be written.
func (c *core) makeRoom() {
recovering:
	for {
		c.requireSpare()
		if c.free() >= c.enough() {
			break recovering
		}
		v, found := c.victim()
		if found && !c.checkpointFirst(v) {
			c.move(v.Block)
			continue
		}
		require(c.surplus() > 0, api.ErrReadOnly)
		requireDone(c.path.Checkpoint())
	}
}

// free returns the number of free blocks beside those that may take the place of blocks that become bad.
func (c *core) free() int {
	return c.path.Free() - (c.Spare - c.path.Bad())
}

// enough returns how many free blocks a group needs. Blocks of the journal may be bad: the others are all that a checkpoint sets free.
func (c *core) enough() int {
	sound := max(0, c.path.Journal()-c.path.Bad())
	return c.checkpointBlocks() + max(0, c.checkpointBlocks()-sound) + moreForGroup
}

// surplus returns by how many blocks the journal is larger than a checkpoint of all sectors.
func (c *core) surplus() int {
	return c.path.Journal() - c.checkpointBlocks()
}

// victim returns the block that is to be moved next. Suspect blocks are no choice: moving their contents does not make them free.
func (c *core) victim() (v api.Candidate, found bool) {
	l := those(c.path.Candidates(), func(v api.Candidate) bool {
		return c.old[v.Block] || !hasFailed(c.path.Device(), v.Block)
	})
	place, e := victim.Choose(l...)
	if e != api.OK {
		return v, false
	}
	return l[place], true
}

// hasFailed reports whether programming a block has failed since it was erased. Nothing is programmed behind the page that failed.
func hasFailed(d *flash.Device, block int) bool {
	return d.State(block, d.Next(block)-1) == api.PageFailed
}

// those returns the items that fit.
func those[T any](l []T, fits func(T) bool) []T {
	var chosen []T
	for _, item := range l {
		if fits(item) {
			chosen = append(chosen, item)
		}
	}
	return chosen
}

// checkpointFirst reports whether a checkpoint is to be written before a block is moved: because there may be no room for it afterwards, or because it frees more pages for each page that it writes.
func (c *core) checkpointFirst(v api.Candidate) bool {
	if v.Valid == 0 || c.surplus() <= 0 {
		return false // the block can be erased without being read, or nothing would be gained
	}
	written := v.Valid + journal.Pages(c.geometry().Size, v.Valid)
	return c.free() < c.checkpointBlocks()+moreForMove ||
		c.surplus()*written > c.checkpointBlocks()*(v.Pages-written)
}

// move moves a block.
func (c *core) move(block int) {
	requireDone(c.path.Move(block))
	delete(c.old, block)
}
