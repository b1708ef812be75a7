package prp

import (
	"capsule/api"
	"capsule/memory"
)

// walk finds the addresses of a transfer's pages, from the first one on.
type walk struct {
	*memory.Memory
	first, second uint64
	count         int    // of pages
	at            uint64 // where the next address in a list is
}

// page returns the address of the page with a number. It is called once for each page, in order.
func (w *walk) page(number int) uint64 {
	switch {
	case number == 0:
		return aligned(startUnit, w.first)
	case w.count == 2:
		return aligned(memory.PageSize, w.second)
	case number == 1:
		w.at = aligned(addressSize, w.second)
	}
	return aligned(memory.PageSize, w.listed(w.count-number))
}

// listed returns the next address of a page in the lists, where so many are still missing.
func (w *walk) listed(missing int) uint64 {
	if room(w.at) == 1 && missing > 1 {
		w.at = aligned(memory.PageSize, w.read())
	}
	addr := w.read()
	w.at += addressSize
	return addr
}

func (w *walk) read() uint64 {
	b, e := w.Read(w.at, addressSize)
	requireOK(e)
	var a address
	copy(a[:], b)
	return a.value()
}

// aligned returns an address, which must be a multiple of the unit.
func aligned(unit, addr uint64) uint64 {
	require(api.ErrOffset, areAligned(unit, addr))
	return addr
}
