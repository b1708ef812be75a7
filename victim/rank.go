package victim

import (
	"cmp"

	"capsule/api"
)

const maxPages = 512

// score is a numerator and a denominator, 1 and 0 if the score is infinite.
type score [2]int

// ranked is a candidate with its place in a list and its score.
type ranked struct {
	api.Candidate
	place int
	score score
}

// rank returns the useful ones of some candidates, in their order.
func rank(l ...api.Candidate) ([]ranked, api.Errno) {
	all := make([]ranked, len(l))
	for place, c := range l {
		if !isValid(c) {
			return nil, api.ErrArg
		}
		all[place] = ranked{c, place, scoreOf(c)}
	}
	useful := those(all, func(r ranked) bool { return r.Valid < r.Pages })
	if len(useful) == 0 {
		return nil, api.ErrNone
	}
	return useful, api.OK
}

func isValid(c api.Candidate) bool {
	return c.Pages >= 1 && c.Pages <= maxPages &&
		c.Valid >= 0 && c.Valid <= c.Pages &&
		c.Age >= 0 && c.Age <= api.MaxAge
}

func scoreOf(c api.Candidate) score {
	if c.Valid == 0 {
		return score{1, 0}
	}
	return score{(c.Pages - c.Valid) * c.Age, 2 * c.Valid}
}

// compare multiplies by both denominators: the products of valid candidates stay below 2^60, and infinity comes out above all other scores and equal to itself.
func (s score) compare(t score) int {
	return cmp.Compare(s[0]*t[1], t[0]*s[1])
}

// byPreference orders useful candidates, the preferred one first.
func byPreference(a, b ranked) int {
	return cmp.Or(b.score.compare(a.score), cmp.Compare(b.Age, a.Age), cmp.Compare(a.Block, b.Block))
}

func those[T any](l []T, fits func(T) bool) []T {
	chosen := l[:0:0] // without room, so that append leaves l as it is
	for _, item := range l {
		if fits(item) {
			chosen = append(chosen, item)
		}
	}
	return chosen
}
