package journal_test

import (
	"math"
	"slices"
	"testing"

	"capsule/api"
	"capsule/journal"
)

const (
	delta      = api.SpareDelta
	checkpoint = api.SpareCheckpoint
)

// P8.4: which records the chain consists of, and in which order. The cases name the pages of the chain by their places in the list.
func TestFollow(t *testing.T) {
	for _, c := range []struct {
		name string
		l    []api.JournalPage
		used []int // in the order of the chain
		last uint64
	}{
		{"nothing", nil, nil, 0},
		{"one delta", []api.JournalPage{page(delta, 1, 0, 0, 1)}, []int{0}, 1},
		{"one delta with a high number", []api.JournalPage{page(delta, 900, 0, 0, 1)}, []int{0}, 900},
		{"one checkpoint", []api.JournalPage{page(checkpoint, 9, 0, 0, 1)}, []int{0}, 9},
		{"one checkpoint behind a record that is missing", []api.JournalPage{page(checkpoint, 9, 5, 0, 1)}, []int{0}, 9},
		{"a delta that follows no record", []api.JournalPage{page(delta, 9, 5, 0, 1)}, nil, 0},
		{"deltas that follow each other, but no record", []api.JournalPage{page(delta, 9, 5, 0, 1), page(delta, 10, 9, 0, 1)}, nil, 0},
		{"a record of two pages", []api.JournalPage{page(delta, 4, 0, 0, 2), page(delta, 5, 0, 1, 2)}, []int{0, 1}, 5},
		{"a record of two pages in the other order", []api.JournalPage{page(delta, 5, 0, 1, 2), page(delta, 4, 0, 0, 2)}, []int{1, 0}, 5},
		{"a record without its first page", []api.JournalPage{page(delta, 5, 0, 1, 2)}, nil, 0},
		{"a record without its last page", []api.JournalPage{page(checkpoint, 4, 0, 0, 2)}, nil, 0},
		{"a record without the page in the middle", []api.JournalPage{page(delta, 4, 0, 0, 3), page(delta, 6, 0, 2, 3)}, nil, 0},
		{"three pages in any order", []api.JournalPage{page(delta, 5, 0, 1, 3), page(delta, 6, 0, 2, 3), page(delta, 4, 0, 0, 3)}, []int{2, 0, 1}, 6},
		{"pages that differ in the kind", []api.JournalPage{page(delta, 4, 0, 0, 2), page(checkpoint, 5, 0, 1, 2)}, nil, 0},
		{"pages that differ in Prev", []api.JournalPage{page(checkpoint, 4, 2, 0, 2), page(checkpoint, 5, 1, 1, 2)}, nil, 0},
		{"pages that differ in Length", []api.JournalPage{page(delta, 4, 0, 0, 2), page(delta, 5, 0, 1, 3)}, nil, 0},
		{"pages that differ in the first number", []api.JournalPage{page(delta, 4, 0, 0, 2), page(delta, 6, 0, 1, 2)}, nil, 0},
		{"the first of two pages with the same index", []api.JournalPage{page(delta, 4, 0, 0, 1), page(delta, 4, 0, 0, 1)}, []int{0}, 4},
		{"the first ones of several pages with the same indices", []api.JournalPage{page(delta, 5, 0, 1, 2), page(delta, 5, 0, 1, 2), page(delta, 4, 0, 0, 2), page(delta, 5, 0, 1, 2), page(delta, 4, 0, 0, 2)}, []int{2, 0}, 5},
		{"as many pages as the record has, but with the same index", []api.JournalPage{page(delta, 4, 0, 0, 2), page(delta, 4, 0, 0, 2)}, nil, 0},
		{"more pages than the record has, but not all", []api.JournalPage{page(delta, 4, 0, 0, 3), page(delta, 4, 0, 0, 3), page(delta, 5, 0, 1, 3), page(delta, 5, 0, 1, 3)}, nil, 0},
		{"a delta behind another", []api.JournalPage{page(delta, 1, 0, 0, 1), page(delta, 2, 1, 0, 1)}, []int{0, 1}, 2},
		{"a delta before the one that it follows", []api.JournalPage{page(delta, 2, 1, 0, 1), page(delta, 1, 0, 0, 1)}, []int{1, 0}, 2},
		{"a delta behind the last page of a record", []api.JournalPage{page(delta, 1, 0, 0, 2), page(delta, 2, 0, 1, 2), page(delta, 7, 2, 0, 1)}, []int{0, 1, 2}, 7},
		{"a delta behind another page of a record", []api.JournalPage{page(delta, 1, 0, 0, 2), page(delta, 2, 0, 1, 2), page(delta, 7, 1, 0, 1)}, []int{0, 1}, 2},
		{"a delta with a number between two others", []api.JournalPage{page(delta, 1, 0, 0, 1), page(delta, 5, 1, 0, 1), page(delta, 6, 3, 0, 1)}, []int{0, 1}, 5},
		{"the higher of two deltas behind no record", []api.JournalPage{page(delta, 1, 0, 0, 1), page(delta, 2, 0, 0, 1)}, []int{1}, 2},
		{"the higher of two deltas behind a record", []api.JournalPage{page(delta, 3, 1, 0, 1), page(delta, 2, 1, 0, 1), page(delta, 1, 0, 0, 1)}, []int{2, 0}, 3},
		{"the lower of two deltas, because the other is not complete", []api.JournalPage{page(delta, 3, 1, 0, 2), page(delta, 2, 1, 0, 1), page(delta, 1, 0, 0, 1)}, []int{2, 1}, 2},
		{"the higher first number, not the higher last one", []api.JournalPage{page(delta, 1, 0, 0, 3), page(delta, 2, 0, 1, 3), page(delta, 3, 0, 2, 3), page(delta, 2, 0, 0, 1)}, []int{3}, 2},
		{"a delta behind one that is not in the chain", []api.JournalPage{page(delta, 1, 0, 0, 1), page(delta, 2, 0, 0, 1), page(delta, 3, 1, 0, 1)}, []int{1}, 2},
		{"the highest of several checkpoints", []api.JournalPage{page(checkpoint, 3, 0, 0, 1), page(checkpoint, 8, 2, 0, 1), page(checkpoint, 5, 4, 0, 1)}, []int{1}, 8},
		{"the highest complete checkpoint", []api.JournalPage{page(checkpoint, 3, 0, 0, 1), page(checkpoint, 8, 2, 0, 2), page(checkpoint, 5, 4, 0, 1)}, []int{2}, 5},
		{"a checkpoint with a lower number than a delta", []api.JournalPage{page(delta, 9, 0, 0, 1), page(checkpoint, 3, 2, 0, 1)}, []int{1}, 3},
		{"a checkpoint between deltas", []api.JournalPage{page(delta, 1, 0, 0, 1), page(checkpoint, 2, 1, 0, 1), page(delta, 3, 1, 0, 1), page(delta, 4, 2, 0, 1)}, []int{1, 3}, 4},
		{"a checkpoint does not follow a delta", []api.JournalPage{page(delta, 1, 0, 0, 1), page(checkpoint, 2, 1, 0, 2), page(delta, 4, 3, 0, 1)}, []int{0}, 1},
		{"deltas behind a checkpoint that is not complete", []api.JournalPage{page(delta, 1, 0, 0, 1), page(checkpoint, 2, 1, 0, 2), page(delta, 9, 1, 0, 1)}, []int{0, 2}, 9},
		{"no delta with Prev 0 behind a checkpoint", []api.JournalPage{page(checkpoint, 2, 0, 0, 1), page(delta, 3, 0, 0, 1)}, []int{0}, 2},
		{"of two deltas with the same first number the one with the earliest page", []api.JournalPage{page(delta, 4, 0, 1, 2), page(delta, 3, 0, 0, 1), page(delta, 3, 0, 0, 2)}, []int{2, 0}, 4},
		{"of two deltas with the same first number the other one", []api.JournalPage{page(delta, 3, 0, 0, 1), page(delta, 4, 0, 1, 2), page(delta, 3, 0, 0, 2)}, []int{0}, 3},
		{"of two deltas with the same first number the complete one", []api.JournalPage{page(delta, 3, 0, 0, 2), page(delta, 3, 0, 0, 1)}, []int{1}, 3},
		{"of two checkpoints with the same first number the one with the earliest page", []api.JournalPage{page(checkpoint, 3, 2, 0, 1), page(checkpoint, 3, 1, 0, 1), page(checkpoint, 3, 0, 0, 1)}, []int{0}, 3},
		{"of two checkpoints with the same first number the other one", []api.JournalPage{page(checkpoint, 3, 0, 0, 1), page(checkpoint, 3, 2, 0, 1)}, []int{0}, 3},
		{"a checkpoint and a delta with the same number", []api.JournalPage{page(delta, 3, 0, 0, 1), page(checkpoint, 3, 0, 0, 1)}, []int{1}, 3},
		{"the highest numbers", []api.JournalPage{page(delta, math.MaxUint64, math.MaxUint64-1, 0, 1), page(checkpoint, math.MaxUint64-1, math.MaxUint64-3, 1, 2), page(checkpoint, math.MaxUint64-2, math.MaxUint64-3, 0, 2)}, []int{2, 1, 0}, math.MaxUint64},
	} {
		l := marked(c.l...)
		want := api.Chain{Last: c.last, Used: slices.Sorted(slices.Values(c.used))}
		for _, at := range c.used {
			want.Entries = append(want.Entries, l[at].Entries...)
		}
		if got := journal.Follow(l...); !equal(got, want) {
			t.Errorf("%s: %v, not %v", c.name, got, want)
		}
		if !equal(follow(l), want) {
			t.Errorf("%s: the model's chain is %v", c.name, follow(l))
		}
	}
}

// P8.4: pages whose description is not valid or is one of data are ignored, also as pages of a record that would be complete with them.
func TestFollowIgnores(t *testing.T) {
	for _, s := range []api.Spare{
		{}, {Kind: api.SpareData, Sequence: 2, Length: 1}, {Kind: api.SpareData, Sequence: 2, Sector: 7, Length: 1},
		{Kind: api.SpareNone, Sequence: 2, Length: 1}, {Kind: 4, Sequence: 2, Length: 1}, {Kind: 255, Sequence: 2, Prev: 1, Length: 1},
		{Kind: delta, Sequence: 2, Sector: 1, Prev: 1, Length: 1}, {Kind: checkpoint, Sequence: 2, Sector: -1, Length: 1},
		{Kind: delta, Sequence: 0, Length: 1}, {Kind: checkpoint, Sequence: 0, Length: 1},
		{Kind: delta, Sequence: 2, Prev: 2, Length: 1}, {Kind: checkpoint, Sequence: 2, Prev: 3, Length: 1}, {Kind: checkpoint, Sequence: 2, Prev: math.MaxUint64, Length: 1},
		{Kind: delta, Sequence: 2, Prev: 1, Length: 0}, {Kind: checkpoint, Sequence: 2, Length: 0}, {Kind: checkpoint, Sequence: 2, Length: -1},
		{Kind: checkpoint, Sequence: 2, Index: 1, Length: 1}, {Kind: checkpoint, Sequence: 2, Index: -1, Length: 1}, {Kind: checkpoint, Sequence: 2, Index: math.MinInt, Length: math.MinInt},
		{Kind: checkpoint, Sequence: 2, Length: 65536}, {Kind: checkpoint, Sequence: 2, Length: math.MaxInt},
		{Kind: delta, Sequence: 2, Prev: 1, Index: 1, Length: 2}, {Kind: checkpoint, Sequence: 2, Index: 2, Length: 3},
		{Kind: checkpoint, Sequence: 2, Prev: math.MaxUint64, Index: 1, Length: 2},
	} {
		wrong := api.JournalPage{Spare: s, Entries: numbered(1, 1)}
		right := page(delta, 1, 0, 0, 1, numbered(1, 2)...)
		want := api.Chain{Entries: right.Entries, Last: 1, Used: []int{1}}
		if c := journal.Follow(wrong, right, wrong); !equal(c, want) {
			t.Errorf("%v: %v", s, c)
		}
		if c := journal.Follow(wrong); !equal(c, api.Chain{}) {
			t.Errorf("%v: %v", s, c)
		}
	}
	first, second := page(delta, 3, 0, 0, 2), page(delta, 4, 0, 1, 2)
	second.Spare.Sector = 1
	if c := journal.Follow(first, second); !equal(c, api.Chain{}) {
		t.Errorf("a record with a page of a sector: %v", c)
	}
	wrong := second
	second.Spare.Sector = 0
	if c := journal.Follow(wrong, first, second); c.Last != 4 || !slices.Equal(c.Used, []int{1, 2}) {
		t.Errorf("a page of a sector before the one with the same index: %v", c)
	}
}

// P8.4: the entries of a record are those of its pages by their indices, however many each of them has, and whatever they are.
func TestFollowEntries(t *testing.T) {
	odd := []api.MapEntry{{Sector: -5, Page: math.MinInt}, {Sector: math.MaxInt, Page: -1}}
	c := journal.Follow(
		page(delta, 3, 0, 2, 3, odd...),
		page(delta, 7, 3, 0, 1),
		page(delta, 1, 0, 0, 3, numbered(2000, 3)...),
		page(delta, 8, 7, 0, 1, odd[1]),
		page(delta, 2, 0, 1, 3))
	want := slices.Concat(numbered(2000, 3), odd, odd[1:])
	if !slices.Equal(c.Entries, want) || c.Last != 8 || !slices.Equal(c.Used, []int{0, 1, 2, 3, 4}) {
		t.Errorf("%d entries, last %d, used %v", len(c.Entries), c.Last, c.Used)
	}
}

// P8.4: a record with as many pages as there may be, forwards and backwards, and without one of them.
func TestFollowLongestRecord(t *testing.T) {
	l := records(t, checkpoint, 12, 1<<63, 5, numbered(65535, 0)...)
	for range 2 {
		c := journal.Follow(l...)
		if c.Last != 1<<63+65534 || !slices.Equal(c.Entries, numbered(65535, 0)) || len(c.Used) != 65535 {
			t.Errorf("%d entries, last %d, %d used", len(c.Entries), c.Last, len(c.Used))
		}
		for _, at := range []int{0, 1, 40000, 65534} {
			if c := journal.Follow(slices.Delete(slices.Clone(l), at, at+1)...); !equal(c, api.Chain{}) {
				t.Errorf("without page %d: %d entries, last %d, %d used", at, len(c.Entries), c.Last, len(c.Used))
			}
		}
		slices.Reverse(l)
	}
}

// P8.4: a record with one page more than there may be is none, although all its pages are there.
func TestFollowTooLongRecord(t *testing.T) {
	var l []api.JournalPage
	for i := range 65536 {
		l = append(l, page(checkpoint, uint64(i)+9, 0, i, 65536))
	}
	if c := journal.Follow(l...); !equal(c, api.Chain{}) {
		t.Errorf("last %d, %d used", c.Last, len(c.Used))
	}
	for i := range l {
		l[i].Spare.Length = 65535
	}
	if c := journal.Follow(l...); c.Last != 65543 || len(c.Used) != 65535 {
		t.Errorf("last %d, %d used", c.Last, len(c.Used))
	}
}

// P8.4: a long chain, forwards and backwards, with records beside it that nothing leads to.
func TestFollowLongChain(t *testing.T) {
	var l []api.JournalPage
	for n := range uint64(50000) {
		l = append(l, page(delta, 2*n+2, 2*n, 0, 1, numbered(1, int(n%1000))...), page(delta, 2*n+1, 2*n, 0, 1, numbered(1, 1)...))
	}
	for range 2 {
		c := journal.Follow(l...)
		if c.Last != 100000 || len(c.Used) != 50000 || len(c.Entries) != 50000 {
			t.Fatalf("%d entries, last %d, %d used", len(c.Entries), c.Last, len(c.Used))
		}
		for i, at := range c.Used {
			if l[at].Spare.Sequence%2 != 0 || i > 0 && c.Used[i-1] >= at {
				t.Fatalf("page %d is %d", i, at)
			}
		}
		for n, m := range c.Entries {
			if m != numbered(1, n%1000)[0] {
				t.Fatalf("entry %d is %v", n, m)
			}
		}
		slices.Reverse(l)
	}
}
