package recovery_test

import (
	"testing"

	"capsule/api"
	"capsule/recovery"
)

// rejects fails the test unless Scan does not accept what steps lead to.
func rejects(t *testing.T, name string, steps ...step) {
	t.Helper()
	t.Run(name, func(t *testing.T) {
		t.Helper()
		cannot(t, done(t, device(t, small), steps...), 8, api.ErrFormat)
	})
}

// accepts fails the test unless Scan accepts what steps lead to, and finds these entries.
func accepts(t *testing.T, name string, steps []step, want ...entry) {
	t.Helper()
	t.Run(name, func(t *testing.T) {
		t.Helper()
		f, e := recovery.Scan(done(t, device(t, small), steps...), 8)
		f.Last, f.Next, f.Journal, f.Dirty = 0, 0, nil, nil
		if e != api.OK || !equal(f, api.Found{Entries: want}) {
			t.Errorf("%v, %v, not %v", f.Entries, e, want)
		}
	})
}

// P11.1: entries of the chain that the map does not accept, in any of its records.
func TestFormatEntries(t *testing.T) {
	for name, l := range map[string][]entry{
		"a sector that does not exist": {at(8, 1)}, "a high sector": {at(api.MaxSector, 1)}, "a sector that does not exist, trimmed": {no(8)},
		"a page that does not exist": {at(2, 24)}, "a high page": {at(2, 1<<32-2)}, "the page of another sector": {at(2, 0)},
		"one page for two": {at(2, 1), at(3, 1)}, "a right one and a wrong one": {at(2, 1), no(9)},
	} {
		base := []step{data(0, 1, 1), data(0, 2, 2), delta(1, 3, 0, at(1, 0))}
		rejects(t, name, append(base[:3:3], delta(1, 4, 3, l...))...)
		rejects(t, name+", and a right one behind it", append(base[:3:3], delta(1, 4, 3, l...), delta(1, 5, 4, no(1), no(2)))...)
		rejects(t, name+", behind a checkpoint", append(base[:3:3], checkpoint(3, 4, 3, at(1, 0)), delta(2, 5, 4, l...))...)
		rejects(t, name+", in the second page", append(base[:3:3], deltaPart(1, 5, 3, 1, 2, l...), deltaPart(2, 4, 3, 0, 2))...)
		accepts(t, name+", in an incomplete record", append(base[:3:3], deltaPart(1, 4, 3, 0, 2, l...)), at(1, 0))
		accepts(t, name+", before a checkpoint", append(base[:3:3], delta(1, 4, 3, l...), checkpoint(2, 5, 4, at(2, 1))), at(2, 1))
		accepts(t, name+", with another Prev", append(base[:3:3], delta(1, 4, 2, l...)), at(1, 0))
	}
	rejects(t, "a checkpoint with a sector that does not exist", checkpoint(0, 1, 0, no(8)))
	rejects(t, "a checkpoint with one page for two sectors", data(0, 1, 1), checkpoint(1, 2, 0, at(1, 0), at(2, 0)))
	accepts(t, "a page that passes from one sector to another", []step{data(0, 1, 1), data(0, 2, 2), delta(1, 3, 0, at(2, 0)), delta(1, 4, 3, at(2, 1), at(1, 0))}, at(1, 0), at(2, 1))
	accepts(t, "the last sector and the last page", []step{data(5, 1, 1), data(5, 1, 2), data(5, 1, 3), data(5, 7, 4), delta(1, 5, 0, at(7, 23))}, at(7, 23))
}

// P11.1: the number of sectors and the geometry decide which entries the map accepts.
func TestFormatSectors(t *testing.T) {
	d := done(t, device(t, small), data(0, 5, 1), delta(1, 2, 0, at(5, 0)), delta(1, 3, 2, no(6)))
	cannot(t, d, 5, api.ErrFormat)
	cannot(t, d, 6, api.ErrFormat)
	want := api.Found{Entries: []entry{at(5, 0)}, Last: 3, Next: 4, Journal: []int{1}, Dirty: []int{0}}
	finds(t, d, 7, want)
	finds(t, d, 1<<24, want)
}

// P11.1: an assigned page that is not an intact page of data of its sector.
func TestFormatData(t *testing.T) {
	assign := delta(1, 8, 0, at(1, 10))
	ahead := []step{data(2, 3, 1), data(2, 3, 2)}
	right := data(2, 1, 3)
	for name, s := range map[string]step{
		"of another sector": data(2, 2, 3), "of sector 0": data(2, 0, 3), "of a sector that does not exist": data(2, 1<<8+1, 3),
		"a delta": delta(2, 3, 2), "a checkpoint that is incomplete": checkpointPart(2, 3, 2, 0, 2), "a delta without entries in its data": content(2, api.Spare{Kind: api.SpareDelta, Sequence: 3, Length: 1}, filled(small.Size, 3)),
		"without a description": raw(2, 3), "with a wrong byte in its data": right.changed(4), "with a wrong checksum": right.changed(small.Size + 61), "with a wrong sector and an old checksum": right.changed(small.Size + 24),
		"torn": right.cut(40), "torn at its start": right.cut(0),
	} {
		rejects(t, name, append(ahead[:2:2], s, assign)...)
		rejects(t, name+", and right ones around it", append(ahead[:2:2], s, data(2, 1, 4), data(3, 4, 5), data(3, 5, 6), delta(4, 8, 0, at(3, 1), at(4, 12)), delta(4, 9, 8, at(1, 10), at(5, 13)), raw(5, 5))...)
		accepts(t, name+", but replaced", append(ahead[:2:2], s, assign, data(2, 1, 9), delta(1, 10, 8, at(1, 11))), at(1, 11))
		accepts(t, name+", but trimmed", append(ahead[:2:2], s, assign, delta(1, 10, 8, no(1))))
		accepts(t, name+", but of a record that does not count", append(ahead[:2:2], s, delta(1, 8, 4, at(1, 10))))
	}
	rejects(t, "erased", append(ahead[:2:2], assign)...)
	rejects(t, "erased, the first of its block", append(ahead[:2:2], delta(1, 8, 0, at(1, 20)))...)
	rejects(t, "undefined", append(ahead[:2:2], right, assign, erased(2).cut(0))...)
	rejects(t, "of its block that is erased", append(ahead[:2:2], right, assign, erased(2))...)
	rejects(t, "one of two", append(ahead[:2:2], right, delta(1, 8, 0, at(1, 10), at(4, 9)))...)
	rejects(t, "two that are exchanged", append(ahead[:2:2], right, delta(1, 8, 0, at(3, 10), at(1, 9)))...)
	accepts(t, "right", append(ahead[:2:2], right, assign), at(1, 10))
	accepts(t, "right, with another one that is free", append(ahead[:2:2], right, data(2, 1, 4), assign), at(1, 10))
	d := done(t, device(t, small, 2), append(ahead[:2:2], right.failing(api.ErrProgram), assign)...)
	cannot(t, d, 8, api.ErrFormat)
	d = done(t, device(t, small, 4), append(ahead[:2:2], right, assign, erased(2).failing(api.ErrErase))...)
	cannot(t, d, 8, api.ErrFormat)
}

// P11.1: a number of 2^63 or more, in an intact page of any kind, whether it counts or not.
func TestFormatNumbers(t *testing.T) {
	const most = 1<<63 - 1
	base := []step{data(0, 1, 1), delta(1, 2, 0, at(1, 0))}
	for number, e := range map[uint64]api.Errno{most - 1: api.OK, most: api.OK, most + 1: api.ErrFormat, most + 2: api.ErrFormat, 1<<64 - 2: api.ErrFormat, 1<<64 - 1: api.ErrFormat} {
		for name, s := range map[string]step{
			"data": data(0, 1, number), "data of a sector that does not exist": data(5, 100, number),
			"a delta of the chain": delta(1, number, 2), "a delta with another Prev": delta(1, number, 1),
			"a checkpoint": checkpoint(3, number, 2, at(1, 0)), "an incomplete checkpoint": checkpointPart(3, number, 2, 2, 3), "an incomplete delta": deltaPart(3, number, 2, 0, 2, at(1, 0)),
			"a page that is no journal page": content(4, api.Spare{Kind: api.SpareDelta, Sequence: number, Length: 1}, filled(small.Size, 1)),
		} {
			if e == api.ErrFormat {
				rejects(t, name, append(base[:2:2], s)...)
			} else {
				accepts(t, name, append(base[:2:2], s), at(1, 0))
			}
			accepts(t, name+", not intact", append(base[:2:2], s.changed(3)), at(1, 0))
			accepts(t, name+", torn", append(base[:2:2], s.cut(50)), at(1, 0))
		}
	}
	rejects(t, "the only page", data(0, 1, most+1))
	rejects(t, "the first page, and a lower number behind it", data(0, 1, most+1), data(0, 1, 1), delta(1, 2, 0, at(1, 1)))
	accepts(t, "an erased page", append(base[:2:2], data(3, 1, most+1), erased(3)), at(1, 0))
}
