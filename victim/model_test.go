package victim_test

import (
	"iter"
	"math"
	"math/big"
	"math/rand/v2"
	"slices"
	"testing"

	"capsule/api"
	"capsule/victim"
)

// topAge is the highest age.
const topAge = 1099511627776

// of returns a candidate.
func of(block, valid, pages, age int) api.Candidate {
	return api.Candidate{Block: block, Valid: valid, Pages: pages, Age: age}
}

// placed is a candidate with its index.
type placed struct {
	at int
	c  api.Candidate
}

// listed returns what an iterator yields.
func listed(s iter.Seq2[int, api.Candidate]) []placed {
	var l []placed
	for at, c := range s {
		l = append(l, placed{at, c})
	}
	return l
}

// valid is the chapter's definition.
func valid(c api.Candidate) bool {
	return !(c.Pages < 1 || c.Pages > 512 || c.Valid < 0 || c.Valid > c.Pages || c.Age < 0 || c.Age > topAge)
}

// useful is the chapter's definition, for valid candidates.
func useful(c api.Candidate) bool {
	return c.Valid < c.Pages
}

// score is the chapter's definition, for useful candidates: an exact fraction, or nil if it is infinite.
func score(c api.Candidate) *big.Rat {
	if c.Valid == 0 {
		return nil
	}
	gain := new(big.Int).Mul(big.NewInt(int64(c.Pages-c.Valid)), big.NewInt(int64(c.Age)))
	return new(big.Rat).SetFrac(gain, big.NewInt(int64(2*c.Valid)))
}

// higher compares the scores of two useful candidates.
func higher(a, b api.Candidate) int {
	x, y := score(a), score(b)
	switch {
	case x == nil && y == nil:
		return 0
	case x == nil:
		return 1
	case y == nil:
		return -1
	}
	return x.Cmp(y)
}

// preferred is the chapter's definition, for useful candidates.
func preferred(a, b api.Candidate) bool {
	if h := higher(a, b); h != 0 {
		return h > 0
	}
	if a.Age != b.Age {
		return a.Age > b.Age
	}
	return a.Block < b.Block
}

// compare is what the chapter says of Compare.
func compare(a, b api.Candidate) int {
	switch {
	case !valid(a) || !valid(b) || !useful(a) || !useful(b):
		return 0
	case preferred(a, b):
		return -1
	case preferred(b, a):
		return 1
	}
	return 0
}

// order is what the chapter says of Order: each time the first one of those that are left to which no other one is preferred.
func order(l []api.Candidate) []placed {
	var left, sorted []placed
	for at, c := range l {
		if !valid(c) {
			return nil
		}
		if useful(c) {
			left = append(left, placed{at, c})
		}
	}
	for len(left) > 0 {
		first := slices.IndexFunc(left, func(p placed) bool {
			return !slices.ContainsFunc(left, func(q placed) bool { return preferred(q.c, p.c) })
		})
		sorted = append(sorted, left[first])
		left = slices.Delete(left, first, first+1)
	}
	return sorted
}

// choose is what the chapter says of Choose.
func choose(l []api.Candidate) (int, api.Errno) {
	if !slices.ContainsFunc(l, func(c api.Candidate) bool { return !valid(c) }) {
		for at, c := range l {
			if useful(c) && !slices.ContainsFunc(l, func(d api.Candidate) bool { return useful(d) && preferred(d, c) }) {
				return at, api.OK
			}
		}
		return 0, api.ErrNone
	}
	return 0, api.ErrArg
}

// agrees fails the test unless Choose and Order do what the model does.
func agrees(t *testing.T, l ...api.Candidate) {
	t.Helper()
	want, e := choose(l)
	if i, f := victim.Choose(l...); i != want || f != e {
		t.Errorf("Choose(%v): %d, %v, not %d, %v", l, i, f, want, e)
	}
	if got := listed(victim.Order(l...)); !slices.Equal(got, order(l)) {
		t.Errorf("Order(%v): %v, not %v", l, got, order(l))
	}
}

// small returns all candidates with up to three pages and small ages, also those that are just not valid.
func small(blocks ...int) []api.Candidate {
	var l []api.Candidate
	for _, block := range blocks {
		for pages := range 4 {
			for v := -1; v <= pages+1; v++ {
				for age := -1; age <= 3; age++ {
					l = append(l, of(block, v, pages, age))
				}
			}
		}
	}
	return l
}

// P9.1: all pairs of small candidates.
func TestComparePairs(t *testing.T) {
	all := small(-1, 0, 5)
	for _, a := range all {
		for _, b := range all {
			if n := victim.Compare(a, b); n != compare(a, b) {
				t.Errorf("Compare(%v, %v): %d, not %d", a, b, n, compare(a, b))
			}
		}
	}
}

// P9.2, P9.3: all lists of two small candidates.
func TestSmallPairs(t *testing.T) {
	all := small(0, 1)
	for _, a := range all {
		agrees(t, a)
		for _, b := range all {
			agrees(t, a, b)
		}
	}
}

// P9.2, P9.3: all lists of three candidates of which many have the same score, or the same age, too, and some are not useful.
func TestSmallTriples(t *testing.T) {
	var all []api.Candidate
	for block := range 2 {
		for _, c := range [][3]int{{0, 1, 0}, {0, 1, 1}, {0, 2, 0}, {1, 1, 5}, {1, 2, 0}, {1, 2, 2}, {1, 3, 1}, {2, 3, 4}, {2, 4, 2}, {4, 4, 0}} {
			all = append(all, of(block, c[0], c[1], c[2]))
		}
	}
	for _, a := range all {
		for _, b := range all {
			for _, c := range all {
				agrees(t, a, b, c)
			}
		}
	}
	agrees(t)
}

// someAges and somePages are numbers that candidates may have.
var (
	someAges  = []int{0, 1, 2, 3, 4, 6, 12, 1 << 20, math.MaxInt32, 1 << 32, topAge/2 + 1, topAge - 2, topAge - 1, topAge}
	somePages = []int{1, 2, 3, 4, 6, 64, 255, 256, 257, 510, 511, 512}
)

// someCandidate returns a valid candidate; often another one has the same score.
func someCandidate(r *rand.Rand, blocks int) api.Candidate {
	pages := somePages[r.IntN(len(somePages))]
	v := []int{0, 1, pages / 2, pages - 1, pages, r.IntN(pages + 1), r.IntN(pages + 1), r.IntN(pages + 1)}[r.IntN(8)]
	age := someAges[r.IntN(len(someAges))]
	if r.IntN(3) == 0 {
		age = r.IntN(topAge + 1)
	}
	return of(r.IntN(blocks), v, pages, age)
}

// spoiled returns a candidate that is not valid.
func spoiled(r *rand.Rand, c api.Candidate) api.Candidate {
	switch r.IntN(6) {
	case 0:
		c.Pages = 513
	case 1:
		c.Pages = 0
	case 2:
		c.Valid = -1
	case 3:
		c.Valid = c.Pages + 1
	case 4:
		c.Age = -1
	case 5:
		c.Age = topAge + 1
	}
	return c
}

// P9.1: random pairs.
func TestCompareRandomPairs(t *testing.T) {
	r := rand.New(rand.NewPCG(9, 1))
	for range 100000 {
		a, b := someCandidate(r, 3), someCandidate(r, 3)
		if n := victim.Compare(a, b); n != compare(a, b) {
			t.Fatalf("Compare(%v, %v): %d, not %d", a, b, n, compare(a, b))
		}
	}
}

// P9.2, P9.3: random lists, some of them with a candidate that is not valid.
func TestRandomLists(t *testing.T) {
	r := rand.New(rand.NewPCG(9, 2))
	for range 3000 {
		l := make([]api.Candidate, r.IntN(20))
		for i := range l {
			l[i] = someCandidate(r, 6)
			if i > 0 && r.IntN(4) == 0 {
				l[i] = l[r.IntN(i)]
			}
		}
		if len(l) > 0 && r.IntN(10) == 0 {
			i := r.IntN(len(l))
			l[i] = spoiled(r, l[i])
		}
		agrees(t, l...)
		if t.Failed() {
			return
		}
	}
}

// P9.2, P9.3: lists of as many candidates as a device has blocks. Neighbours in the order are compared, which suffices, as a preference is passed on.
func TestLongLists(t *testing.T) {
	r := rand.New(rand.NewPCG(9, 3))
	for _, n := range []int{255, 256, 257, 4096} {
		l := make([]api.Candidate, n)
		count := 0
		for i := range l {
			l[i] = someCandidate(r, 7)
			if useful(l[i]) {
				count++
			}
		}
		sorted := listed(victim.Order(l...))
		if len(sorted) != count {
			t.Errorf("%d of %d useful candidates", len(sorted), count)
		}
		for i, p := range sorted {
			if p.c != l[p.at] || !useful(p.c) {
				t.Errorf("%v is not candidate %d, %v", p.c, p.at, l[p.at])
			}
			if i > 0 {
				before := sorted[i-1]
				if preferred(p.c, before.c) || !preferred(before.c, p.c) && p.at <= before.at {
					t.Errorf("%v comes before %v", before, p)
				}
			}
		}
		if i, e := victim.Choose(l...); i != sorted[0].at || e != api.OK {
			t.Errorf("Choose of %d: %d, %v", n, i, e)
		}
		l[n-1] = spoiled(r, l[n-1])
		agrees(t, l...)
	}
}
