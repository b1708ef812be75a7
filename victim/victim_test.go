package victim_test

import (
	"math"
	"testing"

	"capsule/api"
	"capsule/victim"
)

// scores fails the test unless Score returns this fraction.
func scores(t *testing.T, c api.Candidate, num, den int) {
	t.Helper()
	if n, d, e := victim.Score(c); n != num || d != den || e != api.OK {
		t.Errorf("Score(%v): %d, %d, %v, not %d, %d", c, n, d, e, num, den)
	}
}

// cannotScore fails the test unless Score returns this error and nothing else.
func cannotScore(t *testing.T, want api.Errno, c api.Candidate) {
	t.Helper()
	if n, d, e := victim.Score(c); n != 0 || d != 0 || e != want {
		t.Errorf("Score(%v): %d, %d, %v, not %v", c, n, d, e, want)
	}
}

// prefers fails the test unless Compare prefers a to b, in both orders of its arguments.
func prefers(t *testing.T, a, b api.Candidate) {
	t.Helper()
	if n, m := victim.Compare(a, b), victim.Compare(b, a); n != -1 || m != 1 {
		t.Errorf("Compare(%v, %v): %d, and %d in the other order", a, b, n, m)
	}
}

// prefersNone fails the test unless Compare prefers neither a nor b.
func prefersNone(t *testing.T, a, b api.Candidate) {
	t.Helper()
	if n, m := victim.Compare(a, b), victim.Compare(b, a); n != 0 || m != 0 {
		t.Errorf("Compare(%v, %v): %d, and %d in the other order", a, b, n, m)
	}
}

// The chapter's examples.
func TestExamples(t *testing.T) {
	scores(t, of(0, 1, 4, 6), 18, 2)
	scores(t, of(0, 0, 4, 6), 1, 0)
	cannotScore(t, api.ErrNone, of(0, 4, 4, 0))
	l := []api.Candidate{of(0, 1, 4, 6), of(1, 2, 4, 20), of(2, 3, 4, 50)}
	chooses(t, 1, l...)
	chooses(t, 3, append(l, of(3, 0, 4, 0))...)
	chooses(t, 1, of(7, 1, 4, 6), of(5, 1, 4, 6))
	cannotChoose(t, api.ErrNone)
	cannotChoose(t, api.ErrArg, of(0, 5, 4, 0))
}

// P9.1: Score at the limits of Pages, Valid and Age and between them. Fractions are not reduced.
func TestScore(t *testing.T) {
	if api.MaxAge != topAge {
		t.Errorf("MaxAge %d", api.MaxAge)
	}
	for _, s := range []struct{ valid, pages, age, num, den int }{
		{1, 2, 0, 0, 2}, {1, 2, 1, 1, 2}, {1, 3, 1, 2, 2}, {1, 3, 2, 4, 2}, {2, 3, 5, 5, 4}, {2, 4, 8, 16, 4}, {2, 4, 1, 2, 4}, {3, 4, 0, 0, 6},
		{256, 512, 2, 512, 512}, {255, 511, 255, 65280, 510}, {511, 512, 1022, 1022, 1022}, {510, 511, topAge, topAge, 1020},
		{1, 512, topAge, 561850441793536, 2}, {1, 512, topAge - 1, 561850441793025, 2}, {511, 512, topAge, 1099511627776, 1022}, {1, 2, topAge, 1099511627776, 2},
	} {
		scores(t, of(0, s.valid, s.pages, s.age), s.num, s.den)
	}
}

// P9.1: the score is infinite if no page is in use, whatever the pages and the age are.
func TestScoreInfinite(t *testing.T) {
	for _, pages := range somePages {
		for _, age := range someAges {
			scores(t, of(3, 0, pages, age), 1, 0)
		}
	}
}

// P9.1: a candidate is not useful if all of its pages are in use, but is if all but one are.
func TestScoreNotUseful(t *testing.T) {
	cannotScore(t, api.ErrNone, of(1, 1, 1, 0))
	for pages := 2; pages <= 512; pages++ {
		for _, age := range someAges {
			cannotScore(t, api.ErrNone, of(1, pages, pages, age))
			scores(t, of(1, pages-1, pages, age), age, 2*(pages-1))
		}
	}
}

// notValid are candidates with one number that is not valid, or with several.
func notValid() []api.Candidate {
	var l []api.Candidate
	for _, pages := range []int{math.MinInt, math.MinInt + 4, math.MinInt32, -512, -4, -1, 0, 513, 514, 1024, 65540, 1<<32 + 4, math.MaxInt - 1, math.MaxInt} {
		l = append(l, of(0, 0, pages, 6), of(0, 1, pages, 6), of(0, pages, pages, 6), of(0, pages-1, pages, 6))
	}
	for _, v := range []int{math.MinInt, -1 << 32, -256, -4, -1, 5, 6, 256, 512, 513, 1 << 32, 1<<32 + 1, math.MaxInt} {
		l = append(l, of(0, v, 4, 6))
	}
	for _, age := range []int{math.MinInt, math.MinInt + 6, -topAge, -1 << 32, -6, -1, topAge + 1, topAge + 2, 2 * topAge, 1 << 48, math.MaxInt - 1, math.MaxInt} {
		l = append(l, of(0, 0, 4, age), of(0, 1, 4, age), of(0, 4, 4, age), of(0, 5, 4, age), of(0, 1, 0, age))
	}
	return append(l, of(0, 2, 1, 0), of(0, 513, 512, topAge), of(0, -1, 512, topAge), of(0, 512, 511, 0), api.Candidate{}, of(9, -1, -1, -1),
		of(math.MinInt, math.MinInt, math.MinInt, math.MinInt), of(math.MaxInt, math.MaxInt, math.MaxInt, math.MaxInt))
}

// P9.1, P1: candidates that are not valid, among them such ones whose pages are all in use: then that they are not valid comes first.
func TestScoreNotValid(t *testing.T) {
	for _, c := range notValid() {
		cannotScore(t, api.ErrArg, c)
	}
}

// P9.1, P1: numbers at, next to and beyond all limits, in all combinations.
func TestScoreLimits(t *testing.T) {
	pages := []int{math.MinInt, -512, -1, 0, 1, 2, 4, 255, 511, 512, 513, 1<<32 + 4, math.MaxInt}
	ages := []int{math.MinInt, -topAge, -1, 0, 1, 2, 1 << 32, topAge - 1, topAge, topAge + 1, 2*topAge + 1, math.MaxInt}
	for _, p := range pages {
		for _, v := range append(pages, p-1, p+1, 3) {
			for _, age := range ages {
				c := of(v^age, v, p, age)
				switch {
				case !valid(c):
					cannotScore(t, api.ErrArg, c)
				case !useful(c):
					cannotScore(t, api.ErrNone, c)
				case v == 0:
					scores(t, c, 1, 0)
				default:
					scores(t, c, p*age-v*age, v+v)
				}
			}
		}
	}
}

// P9.1: the number of the block has no effect on the score, and any number will do.
func TestScoreBlocks(t *testing.T) {
	for _, block := range []int{math.MinInt, -1, 0, 4095, 4096, math.MaxInt} {
		scores(t, of(block, 1, 4, 6), 18, 2)
		scores(t, of(block, 0, 4, 6), 1, 0)
		cannotScore(t, api.ErrNone, of(block, 4, 4, 6))
		cannotScore(t, api.ErrArg, of(block, 5, 4, 6))
	}
}

// P9.1: the higher score comes first, whatever the ages and the blocks are.
func TestCompareScores(t *testing.T) {
	prefers(t, of(9, 1, 4, 6), of(0, 2, 4, 17))      // 9 and 17/2
	prefers(t, of(9, 2, 4, 19), of(0, 1, 4, 6))      // 19/2 and 9
	prefers(t, of(9, 1, 512, 1), of(0, 511, 512, 9)) // 511/2 and 9/1022
	prefers(t, of(9, 1, 4, 1), of(0, 1, 4, 0))       // 3/2 and 0
	prefers(t, of(9, 3, 4, 1), of(0, 1, 512, 0))     // 1/6 and 0
	prefers(t, of(9, 2, 3, 5), of(0, 3, 4, 7))       // 5/4 and 7/6
	prefers(t, of(9, 1, 2, 3), of(0, 2, 3, 5))       // 3/2 and 5/4: not the higher numerator
	prefers(t, of(9, 2, 3, 9), of(0, 1, 2, 4))       // 9/4 and 2: not the lower denominator
}

// P9.1: an infinite score is higher than all others, and equal to itself.
func TestCompareInfinite(t *testing.T) {
	prefers(t, of(9, 0, 1, 0), of(0, 1, 512, topAge))
	prefers(t, of(9, 0, 512, 0), of(0, 511, 512, topAge))
	prefers(t, of(9, 0, 1, 0), of(0, 1, 2, 0))
	prefers(t, of(9, 0, 1, 1), of(0, 0, 512, 0))
	prefers(t, of(9, 0, 512, topAge), of(0, 0, 1, topAge-1))
	prefers(t, of(0, 0, 1, 5), of(9, 0, 512, 5))
	prefers(t, of(0, 0, 512, 5), of(9, 0, 1, 5))
	prefersNone(t, of(3, 0, 1, 5), of(3, 0, 512, 5))
	prefersNone(t, of(3, 0, 4, 0), of(3, 0, 4, 0))
}

// P9.1: of equal scores, also of fractions that are reduced to the same one, the higher age comes first, whatever the blocks are; of equal ages the lower block.
func TestCompareEqualScores(t *testing.T) {
	prefers(t, of(9, 2, 4, 18), of(0, 1, 4, 6))                // 36/4 and 18/2
	prefers(t, of(9, 3, 4, 9), of(0, 2, 4, 3))                 // 9/6 and 6/4
	prefers(t, of(9, 511, 512, 511*511), of(0, 1, 512, 1))     // 261121/1022 and 511/2
	prefers(t, of(9, 256, 512, topAge), of(0, 1, 3, topAge/2)) // topAge/2 each
	prefers(t, of(0, 1, 2, 4), of(9, 2, 4, 4))                 // 4/2 and 8/4
	prefers(t, of(0, 2, 4, 4), of(9, 1, 2, 4))
	prefersNone(t, of(5, 1, 2, 4), of(5, 2, 4, 4))
	prefersNone(t, of(5, 256, 512, topAge), of(5, 1, 2, topAge))
	prefers(t, of(0, 1, 512, 0), of(9, 511, 512, 0)) // 0/2 and 0/1022
	prefers(t, of(0, 511, 512, 0), of(9, 1, 512, 0))
	prefersNone(t, of(5, 1, 2, 0), of(5, 3, 4, 0))
}

// P9.1: blocks may have any numbers.
func TestCompareBlocks(t *testing.T) {
	blocks := []int{math.MinInt, math.MinInt + 1, math.MinInt32, -2, -1, 0, 1, 2, 255, 256, 4095, math.MaxInt32, 1 << 32, math.MaxInt - 1, math.MaxInt}
	for i, a := range blocks {
		prefersNone(t, of(a, 1, 4, 6), of(a, 1, 4, 6))
		for _, b := range blocks[i+1:] {
			prefers(t, of(a, 1, 4, 6), of(b, 1, 4, 6))
			prefers(t, of(a, 0, 4, 6), of(b, 0, 4, 6))
		}
	}
}

// P9.1: candidates that are not valid or not useful are neither preferred, nor is another one to them.
func TestCompareNone(t *testing.T) {
	none := append(notValid(), of(0, 4, 4, 6), of(0, 1, 1, 0), of(0, 512, 512, topAge))
	for _, c := range none {
		for _, d := range []api.Candidate{of(1, 0, 4, 6), of(-1, 0, 4, 6), of(1, 1, 4, 6), of(-1, 3, 4, 0)} {
			prefersNone(t, c, d)
		}
		for _, d := range none {
			prefersNone(t, c, d)
		}
	}
}

// P9.1: scores with great numbers that differ by as little as they can, so that only exact fractions tell them apart.
func TestCompareExactly(t *testing.T) {
	found := 0
	for k := range 66049 {
		// 255 * a / 514 and 257 * b / 510 multiplied by both denominators.
		a := topAge - k
		b := a * 255 * 255 / (257 * 257)
		switch d := a*255*255 - b*257*257; d {
		case 0:
			prefers(t, of(9, 257, 512, a), of(0, 255, 512, b)) // equal scores: the higher age
			found++
		case 1:
			prefers(t, of(9, 257, 512, a), of(0, 255, 512, b))
			found++
		case 257*257 - 1:
			prefers(t, of(9, 255, 512, b+1), of(0, 257, 512, a))
			found++
		}
	}
	if found != 3 {
		t.Errorf("%d pairs", found)
	}
}

// P9.1: the greatest products of numerators and denominators.
func TestCompareGreatest(t *testing.T) {
	prefers(t, of(9, 1, 512, topAge), of(0, 511, 512, topAge))
	prefers(t, of(9, 1, 512, topAge), of(0, 1, 512, topAge-1))
	prefers(t, of(9, 1, 512, topAge), of(0, 2, 512, topAge))
	prefers(t, of(9, 1, 512, topAge), of(0, 1, 511, topAge))
	prefers(t, of(9, 510, 512, topAge), of(0, 511, 512, topAge))
	prefers(t, of(0, 1, 512, topAge), of(9, 1, 512, topAge))
	for v := 1; v < 511; v++ {
		prefers(t, of(v+1, v, 512, topAge), of(v, v+1, 512, topAge))
	}
}
