package recovery

import (
	"iter"

	"capsule/api"
	"capsule/flash"
	"capsule/journal"
	"capsule/spare"
)

// page is a page that is not erased. If it is not intact, its description is the zero one.
type page struct {
	api.Spare
	block   int
	number  int // block times the pages per block plus the page
	use     use
	entries []api.MapEntry // of a page of the journal
}

// use is what a page that is not erased is used for.
type use int

const (
	dataUse use = iota
	journalUse
	otherUse
	uses
)

func (p page) isIntact() bool {
	return p.Kind != api.SpareNone
}

// written returns an iterator over the pages of a device that are not erased, by increasing number. Without power there are none, since no page can be read.
func written(d *flash.Device) iter.Seq2[int, page] {
	return func(yield func(int, page) bool) {
		if !d.Powered() {
			return
		}
	blocks:
		for block := range d.Geometry().Blocks {
			// Pages are programmed in order: those before the next one are the ones that are not erased.
			for place := range d.Next(block) {
				p := read(d, block, place)
				if !yield(p.number, p) {
					break blocks
				}
			}
		}
	}
}

// read returns a page that is not erased. A page that cannot be read yields no bytes, and these are no encoding of a description.
func read(d *flash.Device, block, place int) page {
	p := page{block: block, number: block*d.Geometry().Pages + place, use: otherUse}
	data, rest, _ := d.Read(block, place)
	p.Spare, _ = spare.Decode(rest, data)
	switch p.Kind {
	case api.SpareData:
		p.use = dataUse
	case api.SpareDelta, api.SpareCheckpoint:
		if l, e := journal.Decode(data); e == api.OK {
			p.use, p.entries = journalUse, l
		}
	}
	return p
}

// all returns the pages of a device that are not erased.
func all(d *flash.Device) []page {
	var l []page
	for _, p := range written(d) {
		l = append(l, p)
	}
	return l
}

// those returns the items that fit.
func those[T any](l []T, fits func(T) bool) []T {
	var chosen []T
	for _, item := range l {
		if fits(item) {
			chosen = append(chosen, item)
		}
	}
	return chosen
}
