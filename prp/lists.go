package prp

import (
	"slices"

	"capsule/api"
	"capsule/memory"
	"capsule/wire"
)

// addressSize is the number of bytes of an address in a list.
const addressSize = 8

// address is the bytes of an address in a list.
type address [addressSize]byte

// addressOf returns the bytes of an address. There is no error, since every integer fits into eight bytes.
func addressOf(addr uint64) (a address) {
	b, _ := wire.Put(addr, addressSize)
	copy(a[:], b)
	return a
}

// value returns the address. There is no error, since all eight bytes are a field.
func (a address) value() uint64 {
	v, _ := wire.Get(a[:])
	return v
}

// writeFurther returns the second address of a transfer with these further pages. If there are several, it writes their addresses to the lists.
func writeFurther(m *memory.Memory, lists, pages []uint64) uint64 {
	switch len(pages) {
	case 0:
		return 0
	case 1:
		return pages[0]
	}
	require(api.ErrFull, len(lists) > 0)
	needed := Lists(lists[0], len(pages)+1)
	require(api.ErrFull, needed <= len(lists))
	writeLists(m, lists[:needed], pages)
	return lists[0]
}

// writeLists writes addresses to all of the lists, or to none if one of them does not lie in the memory.
func writeLists(m *memory.Memory, lists, addresses []uint64) {
	divide(lists, addresses, func(at uint64, l ...uint64) {
		requireOK(m.Check(at, len(l)*addressSize))
	})
	divide(lists, addresses, func(at uint64, l ...uint64) {
		m.Write(at, encode(l...))
	})
}

// divide passes on each list with the addresses that it contains. Every list except the last one ends with the address of the next one.
func divide(lists, addresses []uint64, put func(at uint64, l ...uint64)) {
	for len(lists) > 1 {
		n := room(lists[0]) - 1
		put(lists[0], append(addresses[:n:n], lists[1])...)
		lists, addresses = lists[1:], addresses[n:]
	}
	put(lists[0], addresses...)
}

func encode(addresses ...uint64) []byte {
	var b []byte
	for _, addr := range addresses {
		a := addressOf(addr)
		b = append(b, a[:]...)
	}
	return b
}

// areLists reports whether lists can begin at these addresses.
func areLists(lists ...uint64) bool {
	head := min(1, len(lists))
	return areAligned(addressSize, lists[:head]...) && areAligned(memory.PageSize, lists[head:]...)
}

func areAligned(unit uint64, addresses ...uint64) bool {
	return !slices.ContainsFunc(addresses, func(addr uint64) bool { return addr%unit != 0 })
}

// room returns the number of addresses from one up to the end of its memory page.
func room(at uint64) int {
	return parts(toEnd(at), addressSize)
}

// toEnd returns the number of bytes from an address up to the end of its memory page.
func toEnd(addr uint64) int {
	return memory.PageSize - int(addr%memory.PageSize)
}

// parts returns the number of parts of a size into which n bytes are divided.
func parts(n, size int) int {
	return (n + size - 1) / size
}
