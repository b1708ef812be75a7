package flash

import (
	"slices"

	"capsule/api"
)

// flashBlock is a block. It keeps the pages that are not erased: as pages are programmed in order and erased together, these are its first ones.
type flashBlock struct {
	erases int
	pages  []flashPage
}

// flashPage is a page that is not erased.
type flashPage struct {
	contents
	state api.PageState
}

// contents are the bytes of a page that can be read; any other page has none.
type contents struct {
	data, spare []byte
}

// erasedByte is the value of all bytes that were not programmed.
const erasedByte = 0xFF

// execute executes the next operation, with the one outcome that awaits it: a power cut interrupts it, a fault makes it fail, or it succeeds.
func (d *Device) execute(failure api.Errno, interrupt func(bytes int), fail, succeed func()) api.Errno {
	operation := d.operations
	d.operations++
	if operation == d.pending.operation {
		d.off = true
		interrupt(d.pending.bytes)
		return api.ErrPower
	}
	if d.faults[operation] {
		fail()
		return failure
	}
	succeed()
	return api.OK
}

// program executes the programming of the next page of a block.
func (d *Device) program(b *flashBlock, data, spare []byte) api.Errno {
	add := func(p flashPage) { b.pages = append(b.pages, p) }
	return d.execute(api.ErrProgram,
		func(bytes int) { add(written(data, spare, bytes)) },
		func() { add(flashPage{state: api.PageFailed}) },
		func() { add(written(data, spare, len(data)+len(spare))) })
}

// erase executes the erasing of a block, which wears the block whatever the outcome is.
func (d *Device) erase(b *flashBlock) api.Errno {
	b.erases++
	spoil := func() { b.pages = slices.Repeat([]flashPage{{state: api.PageUndefined}}, d.geometry.Pages) }
	return d.execute(api.ErrErase,
		func(int) { spoil() },
		spoil,
		func() { b.pages = nil })
}

// written returns a page of which the first n bytes were programmed.
func written(data, spare []byte, n int) flashPage {
	all, state := slices.Concat(data, spare), api.PageProgrammed
	if n < len(all) {
		state = api.PageTorn
	}
	for i := n; i < len(all); i++ {
		all[i] = erasedByte
	}
	return flashPage{contents: split(all, len(data)), state: state}
}

// split cuts the bytes of a page behind the data, and both parts at their ends, so that neither can grow into what is behind it.
func split(all []byte, size int) contents {
	return contents{data: all[:size:size], spare: all[size:len(all):len(all)]}
}

// copied returns a block that shares no memory with this one.
func (b flashBlock) copied() flashBlock {
	b.pages = collect(b.pages, func(p flashPage) flashPage {
		p.contents = split(slices.Concat(p.data, p.spare), len(p.data))
		return p
	})
	return b
}
