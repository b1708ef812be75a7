package mapping

import "capsule/api"

const (
	minBlocks = 2
	minPages  = 2
	maxPages  = 512
)

// size is the number of sectors, that of blocks, and that of pages per block.
type size struct {
	sectors, blocks, pages int
}

func (s size) isValid() bool {
	return within(s.sectors, 1, MaxSectors) && within(s.blocks, minBlocks, api.MaxBlocks) && within(s.pages, minPages, maxPages)
}

func (s size) hasSector(sector int) bool {
	return within(sector, 0, s.sectors-1)
}

func (s size) hasBlock(block int) bool {
	return within(block, 0, s.blocks-1)
}

func (s size) hasPage(page int) bool {
	return within(page, 0, s.blocks*s.pages-1)
}

func (s size) blockOf(page int) int {
	return page / s.pages
}

// pagesOf returns the pages of a block; one that does not exist has none.
func (s size) pagesOf(block int) []int {
	if !s.hasBlock(block) {
		return nil
	}
	pages := make([]int, s.pages)
	for i := range pages {
		pages[i] = block*s.pages + i
	}
	return pages
}

func within(n, least, most int) bool {
	return n >= least && n <= most
}
