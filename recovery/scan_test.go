package recovery_test

import (
	"bytes"
	"testing"

	"capsule/api"
	"capsule/spare"
)

// found is what is found on a device that some steps were done on.
type found struct {
	name  string
	steps []step
	want  api.Found
}

// check does the steps of each case on a device of its own and looks at what is found there.
func check(t *testing.T, cases []found) {
	t.Helper()
	for _, c := range cases {
		t.Run(c.name, func(t *testing.T) {
			finds(t, done(t, device(t, small), c.steps...), 8, c.want)
		})
	}
}

// at returns an entry.
func at(sector, page int) entry {
	return entry{Sector: sector, Page: page}
}

// no returns an entry without a page.
func no(sector int) entry {
	return entry{Sector: sector, Page: -1}
}

// P11.1: the chain of deltas only: complete and incomplete ones, in several orders and blocks.
func TestDeltas(t *testing.T) {
	check(t, []found{
		{"one", []step{data(0, 5, 1), delta(1, 2, 0, at(5, 0))},
			api.Found{Entries: []entry{at(5, 0)}, Last: 2, Next: 3, Journal: []int{1}, Dirty: []int{0}}},
		{"one without entries", []step{delta(5, 1, 0)},
			api.Found{Last: 1, Next: 2, Journal: []int{5}}},
		{"several, not in the order of the blocks, and sectors not in the order of the entries",
			[]step{data(2, 7, 1), delta(4, 2, 0, at(7, 8)), data(2, 0, 3), data(0, 5, 4), delta(1, 5, 2, at(5, 0), at(0, 9)), data(0, 7, 6), delta(4, 7, 5, at(7, 1))},
			api.Found{Entries: []entry{at(0, 9), at(5, 0), at(7, 1)}, Last: 7, Next: 8, Journal: []int{1, 4}, Dirty: []int{0, 2}}},
		{"the later one in an earlier page", []step{data(3, 1, 1), data(3, 1, 3), delta(2, 4, 2, at(1, 13)), delta(2, 2, 0, at(1, 12))},
			api.Found{Entries: []entry{at(1, 13)}, Last: 4, Next: 5, Journal: []int{2}, Dirty: []int{3}}},
		{"the first page of two only", []step{data(0, 1, 1), delta(1, 2, 0, at(1, 0)), data(0, 1, 3), deltaPart(1, 4, 2, 0, 2, at(1, 1))},
			api.Found{Entries: []entry{at(1, 0)}, Last: 2, Next: 5, Journal: []int{1}, Dirty: []int{0}}},
		{"the second page of two only", []step{data(0, 1, 1), delta(1, 2, 0, at(1, 0)), data(0, 1, 3), deltaPart(3, 5, 2, 1, 2, at(1, 1))},
			api.Found{Entries: []entry{at(1, 0)}, Last: 2, Next: 6, Journal: []int{1}, Dirty: []int{0, 3}}},
		{"without the page in the middle, alone", []step{data(0, 1, 1), deltaPart(1, 2, 0, 0, 3, at(1, 0)), deltaPart(1, 4, 0, 2, 3, no(2))},
			api.Found{Next: 5, Dirty: []int{0, 1}}},
		{"behind an incomplete one, with the same Prev", []step{data(0, 1, 1), deltaPart(1, 2, 0, 0, 2, at(1, 0)), data(0, 2, 3), delta(1, 4, 0, at(2, 1))},
			api.Found{Entries: []entry{at(2, 1)}, Last: 4, Next: 5, Journal: []int{1}, Dirty: []int{0}}},
		{"two with the same Prev", []step{data(0, 1, 1), data(0, 1, 2), delta(1, 5, 0, at(1, 1)), delta(2, 4, 0, at(1, 0), no(2))},
			api.Found{Entries: []entry{at(1, 1)}, Last: 5, Next: 6, Journal: []int{1}, Dirty: []int{0, 2}}},
		{"a Prev of no record", []step{data(0, 1, 1), delta(1, 2, 0, at(1, 0)), delta(2, 6, 5, no(1)), delta(3, 7, 1, no(1))},
			api.Found{Entries: []entry{at(1, 0)}, Last: 2, Next: 8, Journal: []int{1}, Dirty: []int{0, 2, 3}}},
		{"none with Prev 0", []step{data(0, 1, 1), delta(1, 2, 1, at(1, 0))},
			api.Found{Next: 3, Dirty: []int{0, 1}}},
	})
}

// P11.1: checkpoints: one, several, incomplete ones, and deltas before and behind them.
func TestCheckpoints(t *testing.T) {
	check(t, []found{
		{"one alone", []step{data(0, 1, 1), data(0, 6, 2), checkpoint(3, 3, 0, at(1, 0), at(6, 1))},
			api.Found{Entries: []entry{at(1, 0), at(6, 1)}, Last: 3, Next: 4, Journal: []int{3}, Dirty: []int{0}}},
		{"one without entries", []step{data(0, 1, 1), delta(1, 2, 0, at(1, 0)), checkpoint(3, 3, 2)},
			api.Found{Last: 3, Next: 4, Journal: []int{3}, Dirty: []int{0, 1}}},
		{"deltas before it do not count", []step{data(0, 1, 1), delta(1, 2, 0, at(1, 0), at(2, 5)), checkpoint(2, 3, 2, at(1, 0))},
			api.Found{Entries: []entry{at(1, 0)}, Last: 3, Next: 4, Journal: []int{2}, Dirty: []int{0, 1}}},
		{"deltas behind it count", []step{data(0, 1, 1), delta(1, 2, 0, at(1, 0)), checkpoint(2, 3, 2, at(1, 0)), data(0, 4, 4), delta(2, 5, 3, at(4, 1)), data(0, 1, 6), delta(5, 7, 5, at(1, 2))},
			api.Found{Entries: []entry{at(1, 2), at(4, 1)}, Last: 7, Next: 8, Journal: []int{2, 5}, Dirty: []int{0, 1}}},
		{"several: the highest number", []step{data(0, 1, 1), checkpoint(1, 6, 0, at(1, 0)), checkpoint(2, 4, 0, at(2, 0)), delta(2, 5, 4, at(3, 0)), checkpoint(3, 3, 0)},
			api.Found{Entries: []entry{at(1, 0)}, Last: 6, Next: 7, Journal: []int{1}, Dirty: []int{0, 2, 3}}},
		{"the later one is incomplete", []step{data(0, 1, 1), checkpoint(1, 2, 0, at(1, 0)), data(0, 2, 3), delta(1, 4, 2, at(2, 1)), checkpointPart(2, 5, 4, 0, 2, at(1, 0))},
			api.Found{Entries: []entry{at(1, 0), at(2, 1)}, Last: 4, Next: 6, Journal: []int{1}, Dirty: []int{0, 2}}},
		{"the only one is incomplete", []step{data(0, 1, 1), delta(1, 2, 0, at(1, 0)), checkpointPart(2, 4, 2, 1, 2)},
			api.Found{Entries: []entry{at(1, 0)}, Last: 2, Next: 5, Journal: []int{1}, Dirty: []int{0, 2}}},
		{"the journal before it is erased", []step{data(0, 1, 1), delta(1, 2, 0, at(1, 0)), checkpoint(2, 3, 2, at(1, 0)), erased(1)},
			api.Found{Entries: []entry{at(1, 0)}, Last: 3, Next: 4, Journal: []int{2}, Dirty: []int{0}}},
		{"a delta and a checkpoint with one number", []step{data(0, 1, 1), delta(1, 2, 0, no(1)), checkpoint(2, 2, 0, at(1, 0))},
			api.Found{Entries: []entry{at(1, 0)}, Last: 2, Next: 3, Journal: []int{2}, Dirty: []int{0, 1}}},
	})
}

// P11.1: records of several pages, whose pages lie in several blocks and in any order; pages that occur twice.
func TestLongRecords(t *testing.T) {
	check(t, []found{
		{"three pages in three blocks", []step{data(0, 1, 1), data(0, 2, 2), data(0, 3, 3), deltaPart(5, 4, 0, 0, 3, at(1, 0)), deltaPart(1, 5, 0, 1, 3, at(2, 1), at(1, 2)), deltaPart(3, 6, 0, 2, 3, no(1), at(3, 2))},
			api.Found{Entries: []entry{at(2, 1), at(3, 2)}, Last: 6, Next: 7, Journal: []int{1, 3, 5}, Dirty: []int{0}}},
		{"pages in the wrong order in one block", []step{data(0, 1, 1), deltaPart(1, 5, 0, 2, 3, at(1, 0)), deltaPart(1, 4, 0, 1, 3, no(1)), deltaPart(1, 3, 0, 0, 3, at(1, 4))},
			api.Found{Entries: []entry{at(1, 0)}, Last: 5, Next: 6, Journal: []int{1}, Dirty: []int{0}}},
		{"a checkpoint in two blocks and a delta in two", []step{data(2, 1, 1), data(2, 2, 2), checkpointPart(0, 3, 0, 0, 2, at(1, 8)), checkpointPart(1, 4, 0, 1, 2, at(2, 9)), data(2, 0, 5), deltaPart(1, 6, 4, 0, 2, at(0, 10)), deltaPart(4, 7, 4, 1, 2, no(1))},
			api.Found{Entries: []entry{at(0, 10), at(2, 9)}, Last: 7, Next: 8, Journal: []int{0, 1, 4}, Dirty: []int{2}}},
		{"a page twice: the first one counts", []step{data(0, 1, 1), data(0, 1, 2), deltaPart(1, 3, 0, 0, 2, at(1, 1)), deltaPart(3, 3, 0, 0, 2, at(1, 0), at(2, 1)), deltaPart(2, 4, 0, 1, 2, no(5))},
			api.Found{Entries: []entry{at(1, 1)}, Last: 4, Next: 5, Journal: []int{1, 2}, Dirty: []int{0, 3}}},
		{"two records with one first number: the earliest page decides", []step{data(0, 1, 1), data(0, 1, 2), deltaPart(2, 3, 0, 0, 2, at(1, 0)), delta(3, 3, 0, at(1, 1)), deltaPart(4, 4, 0, 1, 2, no(2))},
			api.Found{Entries: []entry{at(1, 0)}, Last: 4, Next: 5, Journal: []int{2, 4}, Dirty: []int{0, 3}}},
		{"pages that differ in Length or Prev are not of one record", []step{deltaPart(1, 3, 0, 0, 2), deltaPart(1, 4, 0, 1, 3), deltaPart(2, 4, 1, 1, 2), checkpointPart(2, 4, 0, 1, 2)},
			api.Found{Next: 5, Dirty: []int{1, 2}}},
	})
}

// P11.1: pages of data that no sector is assigned to, with any sector, several of one sector, and with numbers in any order; sectors that were trimmed.
func TestUnassigned(t *testing.T) {
	check(t, []found{
		{"data only", []step{data(0, 1, 9), data(5, api.MaxSector, 4), data(0, 8, 2)},
			api.Found{Next: 10, Dirty: []int{0, 5}}},
		{"several of one sector, and of others", []step{data(0, 1, 1), data(0, 1, 2), data(3, 1, 3), data(3, 77, 5), delta(1, 4, 0, at(1, 1))},
			api.Found{Entries: []entry{at(1, 1)}, Last: 4, Next: 6, Journal: []int{1}, Dirty: []int{0, 3}}},
		{"data and the chain in one block", []step{data(0, 1, 1), delta(0, 2, 0, at(1, 0)), data(0, 2, 3), delta(4, 4, 2, at(2, 2))},
			api.Found{Entries: []entry{at(1, 0), at(2, 2)}, Last: 4, Next: 5, Journal: []int{0, 4}}},
		{"trimmed", []step{data(0, 1, 1), data(0, 2, 2), delta(1, 3, 0, at(1, 0), at(2, 1)), delta(1, 4, 3, no(1))},
			api.Found{Entries: []entry{at(2, 1)}, Last: 4, Next: 5, Journal: []int{1}, Dirty: []int{0}}},
		{"all trimmed", []step{data(0, 1, 1), delta(1, 2, 0, at(1, 0)), delta(1, 3, 2, no(1), no(7))},
			api.Found{Last: 3, Next: 4, Journal: []int{1}, Dirty: []int{0}}},
		{"trimmed and written again, to the page of another sector before", []step{data(0, 1, 1), data(0, 2, 2), delta(1, 3, 0, at(2, 0)), delta(1, 4, 3, no(2), at(1, 0)), delta(1, 5, 4, at(2, 1))},
			api.Found{Entries: []entry{at(1, 0), at(2, 1)}, Last: 5, Next: 6, Journal: []int{1}, Dirty: []int{0}}},
	})
}

// P11.1: the highest number is that of a page of data, of a page of the chain, or of a page of a record that does not count.
func TestNext(t *testing.T) {
	check(t, []found{
		{"data, assigned", []step{data(0, 1, 70), delta(1, 2, 0, at(1, 0))},
			api.Found{Entries: []entry{at(1, 0)}, Last: 2, Next: 71, Journal: []int{1}, Dirty: []int{0}}},
		{"data, not assigned", []step{data(0, 1, 1), delta(1, 2, 0, at(1, 0)), data(0, 1, 70)},
			api.Found{Entries: []entry{at(1, 0)}, Last: 2, Next: 71, Journal: []int{1}, Dirty: []int{0}}},
		{"the chain, the last record", []step{data(0, 1, 69), delta(1, 70, 0, at(1, 0))},
			api.Found{Entries: []entry{at(1, 0)}, Last: 70, Next: 71, Journal: []int{1}, Dirty: []int{0}}},
		{"a delta before the checkpoint", []step{delta(1, 70, 0), checkpoint(2, 9, 0)},
			api.Found{Last: 9, Next: 71, Journal: []int{2}, Dirty: []int{1}}},
		{"an incomplete delta", []step{delta(1, 1, 0), deltaPart(1, 70, 1, 0, 2)},
			api.Found{Last: 1, Next: 71, Journal: []int{1}}},
		{"an incomplete checkpoint", []step{checkpointPart(3, 70, 1, 6, 9)},
			api.Found{Next: 71, Dirty: []int{3}}},
		{"a page of no journal page", []step{content(3, api.Spare{Kind: api.SpareDelta, Sequence: 70, Length: 1}, filled(small.Size, 1))},
			api.Found{Next: 71, Dirty: []int{3}}},
		{"the highest one that there may be", []step{delta(1, 1, 0), data(0, 1, 1<<63-1)},
			api.Found{Last: 1, Next: 1 << 63, Journal: []int{1}, Dirty: []int{0}}},
		{"the highest one that there may be, of the chain", []step{delta(1, 1, 0), data(0, 1, 2), delta(1, 1<<63-1, 1, at(1, 0))},
			api.Found{Entries: []entry{at(1, 0)}, Last: 1<<63 - 1, Next: 1 << 63, Journal: []int{1}, Dirty: []int{0}}},
		{"a page that is not intact", []step{delta(1, 1, 0), {block: 0, data: data(0, 1, 70).data, rest: data(0, 1, 71).rest}},
			api.Found{Last: 1, Next: 2, Journal: []int{1}, Dirty: []int{0}}},
	})
}

// changed returns a step with one byte of the page changed.
func (s step) changed(i int) step {
	s.data, s.rest = bytes.Clone(s.data), bytes.Clone(s.rest)
	if i < len(s.data) {
		s.data[i] ^= 1
	} else {
		s.rest[i-len(s.data)] ^= 1
	}
	return s
}

// raw returns the step that programs bytes that are no description.
func raw(block, seed int) step {
	return step{block: block, data: filled(small.Size, seed), rest: filled(api.SpareSize, seed)}
}

// P11.1: pages that are not intact: torn, failed and undefined ones, ones without a description, and ones whose checksum does not match. Their records are incomplete; their blocks are not erased.
func TestNotIntact(t *testing.T) {
	base := []step{data(0, 1, 1), delta(1, 2, 0, at(1, 0))}
	next := delta(2, 4, 2, no(1))
	want := api.Found{Entries: []entry{at(1, 0)}, Last: 2, Next: 3, Journal: []int{1}, Dirty: []int{0, 2}}
	blank := step{block: 2, data: bytes.Repeat([]byte{0xFF}, small.Size), rest: bytes.Repeat([]byte{0xFF}, api.SpareSize)}
	var cases []found
	for name, s := range map[string]step{
		"nothing programmed": next.cut(0), "a byte programmed": next.cut(1), "the data programmed": next.cut(small.Size), "all but four bytes": next.cut(small.Size + 60), "all but one byte": next.cut(small.Size + 63),
		"no description": raw(2, 5), "only FF": blank, "zeros": {block: 2, data: make([]byte, small.Size), rest: make([]byte, api.SpareSize)},
		"erasing interrupted": erased(2).cut(0),
	} {
		cases = append(cases, found{name, append(base[:2:2], s), want})
	}
	for i := range small.Size + api.SpareSize {
		cases = append(cases, found{"a wrong byte", append(base[:2:2], next.changed(i)), want})
	}
	check(t, cases)
	d := done(t, device(t, small, 2), append(base[:2:2], next.failing(api.ErrProgram))...)
	finds(t, d, 8, want)
	finds(t, done(t, d, next), 8, api.Found{Last: 4, Next: 5, Journal: []int{1, 2}, Dirty: []int{0}})
	d = done(t, device(t, small, 3), append(base[:2:2], next, erased(2).failing(api.ErrErase))...)
	finds(t, d, 8, want)
	finds(t, done(t, d, erased(2)), 8, api.Found{Entries: want.Entries, Last: 2, Next: 3, Journal: []int{1}, Dirty: []int{0}})
}

// P11.1, P11.2: a page that a power cut has interrupted is intact if the bytes that were not programmed are FF anyway, or if all bytes were programmed.
func TestTornAndIntact(t *testing.T) {
	sector := 0
	for s := data(0, sector, 1); s.rest[api.SpareSize-1] != 0xFF; s = data(0, sector, 1) {
		sector++
	}
	for _, n := range []int{small.Size + api.SpareSize - 1, small.Size + api.SpareSize} {
		d := done(t, device(t, small), data(0, sector, 1).cut(n), delta(1, 2, 0, at(sector, 0)))
		want := api.PageTorn
		if n == small.Size+api.SpareSize {
			want = api.PageProgrammed
		}
		if s := d.State(0, 0); s != want {
			t.Errorf("%v, not %v", s, want)
		}
		finds(t, d, sector+1, api.Found{Entries: []entry{at(sector, 0)}, Last: 2, Next: 3, Journal: []int{1}, Dirty: []int{0}})
		counts(t, d, 1, 1, 0)
	}
}

// P11.1, P11.2: a page with the description of a page of the journal whose data are not those of a page with entries is intact, but no journal page.
func TestNoEntries(t *testing.T) {
	for _, data := range [][]byte{
		filled(small.Size, 1),
		{3, 0, 0, 0, 0, 0, 0, 0, 0, 0, 0, 0, 0, 0, 0, 0, 0, 0, 0, 0},
		{0, 0, 0, 0, 0, 0, 0, 0, 0, 0, 0, 0, 0, 0, 0, 0, 0, 0, 0, 1},
		{1, 0, 0, 0, 0xFF, 0xFF, 0xFF, 0xFF, 0, 0, 0, 0, 0, 0, 0, 0, 0, 0, 0, 0},
		{1, 0, 0, 0, 1, 0, 0, 0, 0, 0, 0, 0, 1, 0, 0, 0, 0, 0, 0, 0},
	} {
		for kind, completed := range map[api.SpareKind]api.Found{
			api.SpareDelta:      {Last: 4, Next: 5, Journal: []int{3, 4, 5}, Dirty: []int{2}},
			api.SpareCheckpoint: {Last: 4, Next: 5, Journal: []int{3, 5}, Dirty: []int{2, 4}},
		} {
			s := api.Spare{Kind: kind, Sequence: 3, Prev: 1, Length: 1}
			d := done(t, device(t, small), delta(4, 1, 0), content(2, s, data))
			finds(t, d, 8, api.Found{Last: 1, Next: 4, Journal: []int{4}, Dirty: []int{2}})
			counts(t, d, 0, 1, 1)
			yields(t, d, seen{8, s}, seen{16, api.Spare{Kind: api.SpareDelta, Sequence: 1, Length: 1}})
			long := api.Spare{Kind: kind, Sequence: 4, Prev: 1, Index: 1, Length: 2}
			d = done(t, device(t, small), delta(4, 1, 0), part(3, api.Spare{Kind: kind, Sequence: 3, Prev: 1, Length: 2}), content(2, long, data))
			finds(t, d, 8, api.Found{Last: 1, Next: 5, Journal: []int{4}, Dirty: []int{2, 3}})
			finds(t, done(t, d, part(5, long)), 8, completed)
		}
	}
}

// P11.1, P11.2: a device whose pages are too small for entries has no journal pages.
func TestTooSmall(t *testing.T) {
	for _, size := range []int{1, 4, 11} {
		d := device(t, api.Geometry{Blocks: 2, Pages: 3, Size: size, Endurance: 1})
		b := make([]byte, size)
		for i, s := range []api.Spare{{Kind: api.SpareDelta, Sequence: 5, Length: 1}, {Kind: api.SpareData, Sequence: 4, Length: 1}} {
			rest, e := spare.Encode(s, b)
			gives(t, "Encode", e, api.OK)
			gives(t, "Program", d.Program(i, 0, b, rest), api.OK)
		}
		finds(t, d, 1, api.Found{Next: 6, Dirty: []int{0, 1}})
		counts(t, d, 1, 0, 1)
	}
}
