package victim_test

import (
	"math/rand/v2"
	"slices"
	"testing"

	"capsule/api"
	"capsule/victim"
)

// chooses fails the test unless Choose returns this index.
func chooses(t *testing.T, want int, l ...api.Candidate) {
	t.Helper()
	if i, e := victim.Choose(l...); i != want || e != api.OK {
		t.Errorf("Choose(%v): %d, %v, not %d", l, i, e, want)
	}
}

// cannotChoose fails the test unless Choose returns this error and nothing else.
func cannotChoose(t *testing.T, want api.Errno, l ...api.Candidate) {
	t.Helper()
	if i, e := victim.Choose(l...); i != 0 || e != want {
		t.Errorf("Choose(%v): %d, %v, not %v", l, i, e, want)
	}
}

// P9.2: no candidate and one candidate.
func TestChooseFew(t *testing.T) {
	for _, l := range [][]api.Candidate{nil, {}} {
		cannotChoose(t, api.ErrNone, l...)
	}
	for _, c := range []api.Candidate{of(0, 0, 1, 0), of(8, 1, 2, 0), of(-8, 511, 512, topAge)} {
		chooses(t, 0, c)
	}
	cannotChoose(t, api.ErrNone, of(0, 1, 1, 5))
	for _, c := range notValid() {
		cannotChoose(t, api.ErrArg, c)
	}
}

// P9.2: candidates that are not useful are passed over, although their indices count.
func TestChooseNotUseful(t *testing.T) {
	full := of(0, 4, 4, topAge)
	chooses(t, 1, full, of(9, 3, 4, 0))
	chooses(t, 0, of(9, 3, 4, 0), full)
	chooses(t, 3, full, full, full, of(9, 3, 4, 0), full)
	chooses(t, 4, full, of(1, 3, 4, 1), full, of(0, 1, 4, 1), of(9, 1, 4, 2), full, of(2, 1, 4, 1))
	for n := 1; n < 5; n++ {
		cannotChoose(t, api.ErrNone, slices.Repeat([]api.Candidate{full}, n)...)
	}
	cannotChoose(t, api.ErrNone, of(0, 1, 1, 0), of(1, 512, 512, topAge), of(2, 2, 2, 1))
}

// P9.2: of several candidates to which no other one is preferred, the first one is chosen.
func TestChooseFirst(t *testing.T) {
	c := of(5, 1, 4, 6)
	chooses(t, 0, c, c)
	chooses(t, 0, c, c, c, c)
	chooses(t, 1, of(6, 1, 4, 6), c, c)
	chooses(t, 2, of(5, 4, 4, 6), of(5, 2, 4, 6), c, of(5, 1, 4, 5), c)
	// 4/2, 8/4 and 16/8 with the same age and block.
	chooses(t, 0, of(3, 1, 2, 4), of(3, 2, 4, 4), of(3, 4, 8, 4))
	chooses(t, 0, of(3, 4, 8, 4), of(3, 1, 2, 4), of(3, 2, 4, 4))
	chooses(t, 1, of(4, 4, 8, 4), of(3, 2, 4, 4), of(3, 1, 2, 4))
	chooses(t, 0, of(3, 0, 8, 4), of(3, 0, 4, 4))
}

// P9.2: by score, by age, and by block, at each place of a list.
func TestChoosePlaces(t *testing.T) {
	for _, others := range [][2]api.Candidate{
		{of(9, 1, 4, 6), of(0, 2, 4, 6)},
		{of(9, 2, 4, 18), of(0, 1, 4, 6)},
		{of(3, 2, 4, 18), of(4, 2, 4, 18)},
		{of(9, 0, 4, 0), of(0, 1, 4, topAge)},
		{of(9, 0, 4, 1), of(0, 0, 4, 0)},
	} {
		for place := range 6 {
			l := slices.Repeat(others[1:], 6)
			l[place] = others[0]
			chooses(t, place, l...)
		}
	}
}

// P9.2: a candidate that is not valid, at any place, among useful ones and among ones that are not: the error comes before that of no useful candidate.
func TestChooseNotValid(t *testing.T) {
	for _, c := range notValid() {
		for _, other := range []api.Candidate{of(1, 0, 4, 6), of(1, 1, 4, 6), of(1, 4, 4, 6)} {
			for place := range 5 {
				l := slices.Repeat([]api.Candidate{other}, 5)
				l[place] = c
				cannotChoose(t, api.ErrArg, l...)
			}
		}
		cannotChoose(t, api.ErrArg, c, c)
	}
}

// permutations yields all orders of a list.
func permutations(l []api.Candidate) func(yield func([]api.Candidate) bool) {
	return func(yield func([]api.Candidate) bool) {
		if len(l) == 0 {
			yield(nil)
			return
		}
		for i, c := range l {
			for rest := range permutations(slices.Delete(slices.Clone(l), i, i+1)) {
				if !yield(append([]api.Candidate{c}, rest...)) {
					return
				}
			}
		}
	}
}

// P9.4: the order of candidates with different blocks has no effect on which one is chosen.
func TestAnyOrder(t *testing.T) {
	for _, s := range []struct {
		block int
		l     []api.Candidate
	}{
		{2, []api.Candidate{of(4, 1, 4, 6), of(3, 1, 4, 6), of(2, 1, 4, 6), of(5, 1, 4, 6), of(1, 4, 4, 6)}},
		{4, []api.Candidate{of(4, 2, 4, 18), of(3, 1, 4, 6), of(2, 1, 4, 6), of(5, 3, 6, 18), of(1, 3, 4, 6)}},
		{3, []api.Candidate{of(4, 0, 4, 6), of(3, 0, 4, 6), of(2, 0, 4, 5), of(5, 1, 4, topAge), of(1, 0, 4, 0)}},
		{2, []api.Candidate{of(4, 1, 4, 0), of(3, 2, 4, 0), of(2, 3, 4, 0), of(5, 4, 4, 9), of(1, 4, 4, 9)}},
		{-2, []api.Candidate{of(-1, 1, 2, 3), of(-2, 1, 2, 3), of(0, 1, 2, 3), of(7, 2, 4, 3), of(8, 1, 2, 2)}},
	} {
		for p := range permutations(s.l) {
			if i, e := victim.Choose(p...); e != api.OK || p[i].Block != s.block {
				t.Errorf("Choose(%v): %d, %v, not block %d", p, i, e, s.block)
			}
		}
	}
}

// P9.4: random candidates with different blocks in random orders: the same one is chosen, and it has the highest score.
func TestHighestScore(t *testing.T) {
	r := rand.New(rand.NewPCG(9, 4))
	for range 2000 {
		l := make([]api.Candidate, 1+r.IntN(30))
		for i := range l {
			l[i] = someCandidate(r, 1)
			l[i].Block = i
		}
		first, e := victim.Choose(l...)
		if e != api.OK {
			if e != api.ErrNone || slices.ContainsFunc(l, useful) {
				t.Errorf("Choose(%v): %v", l, e)
			}
			continue
		}
		chosen := l[first]
		for _, c := range l {
			if useful(c) && higher(c, chosen) > 0 {
				t.Errorf("%v is chosen, not %v", chosen, c)
			}
		}
		for range 10 {
			r.Shuffle(len(l), func(i, j int) { l[i], l[j] = l[j], l[i] })
			if i, e := victim.Choose(l...); e != api.OK || l[i] != chosen {
				t.Errorf("Choose(%v): %d, %v, not %v", l, i, e, chosen)
			}
		}
	}
}

// P9.4: if all ages are equal and not 0, of blocks with the same pages one with the fewest pages in use is chosen.
func TestFewestInUse(t *testing.T) {
	r := rand.New(rand.NewPCG(9, 5))
	for _, pages := range somePages {
		for _, age := range someAges[1:] {
			for range 30 {
				l := make([]api.Candidate, 1+r.IntN(8))
				fewest := pages
				for i := range l {
					l[i] = of(r.IntN(9), r.IntN(pages), pages, age)
					fewest = min(fewest, l[i].Valid)
				}
				if i, e := victim.Choose(l...); e != api.OK || l[i].Valid != fewest {
					t.Errorf("Choose(%v): %d, %v, not one with Valid %d", l, i, e, fewest)
				}
			}
		}
	}
}

// spare returns a list behind which there is memory for more.
func spare() []api.Candidate {
	return append(make([]api.Candidate, 0, 9), of(0, 3, 4, 6), of(1, 4, 4, 6), of(2, 1, 4, 6), of(3, 2, 4, 6), of(4, 0, 4, 6))
}

// P9.2, P9.3: Choose and Order change neither their arguments nor the memory behind them.
func TestArgumentsStay(t *testing.T) {
	l := spare()
	chooses(t, 4, l...)
	for range victim.Order(l...) {
		chooses(t, 4, l...)
	}
	if !slices.Equal(l, spare()) || !slices.Equal(l[:9][5:], make([]api.Candidate, 4)) {
		t.Errorf("%v", l[:9])
	}
}

// P9.2: calls have no effect on later ones.
func TestNothingKept(t *testing.T) {
	for range 3 {
		chooses(t, 4, spare()...)
		chooses(t, 0, of(9, 3, 4, 0))
		cannotChoose(t, api.ErrNone)
		cannotChoose(t, api.ErrArg, of(0, 5, 4, 0))
	}
}
