package warm_test

import (
	"math/rand"
	"slices"

	"watercress/warm"
)

// The oracle says what the chapter's definitions say, as slowly as they do, and shares no code with the package.

func to(low, high int) warm.Range { return warm.Range{Lo: low, Hi: high} }

func has(r warm.Range, n int) bool { return r.Lo <= n && n <= r.Hi }

func reading(bed, hour, seen, off int) warm.Reading {
	return warm.Reading{Bed: bed, Hour: hour, Seen: seen, Error: off}
}

// warmth goes up from the bed to the spring. What it adds to the water is counted up from 0, until one more would be too much.
func warmth(s warm.Stream, t warm.Truth, n, hour int) int {
	water := t.Spring
	if n > 0 {
		water = warmth(s, t, n-1, hour)
	}
	far, sign := t.Air[hour]-water, 1
	if far < 0 {
		far, sign = -far, -1
	}
	nearer := 0
	for (nearer+1)*100*s.Depths[n] <= far*s.Rate {
		nearer++
	}
	return water + sign*nearer
}

func right(s warm.Stream, t warm.Truth, r warm.Reading) bool {
	off := warmth(s, t, r.Bed, r.Hour) - r.Seen
	return off <= r.Error && -off <= r.Error
}

// choices are all truths, of the stream or not; they are counted like a number whose digits have different bases.
func choices(s warm.Stream) []warm.Truth {
	ranges := append([]warm.Range{s.Spring}, s.Air...)
	many := 1
	for _, r := range ranges {
		many *= r.Hi - r.Lo + 1
	}
	var all []warm.Truth
	for n := 0; n < many; n++ {
		l := make([]int, len(ranges))
		rest := n
		for i, r := range ranges {
			l[i] = r.Lo + rest%(r.Hi-r.Lo+1)
			rest /= r.Hi - r.Lo + 1
		}
		all = append(all, warm.Truth{Spring: l[0], Air: l[1:]})
	}
	return all
}

// truthsBut are the truths in which all readings but those left out are right.
func truthsBut(s warm.Stream, out []int) []warm.Truth {
	var all []warm.Truth
	for _, t := range choices(s) {
		ok := true
		for i, r := range s.Readings {
			ok = ok && (slices.Contains(out, i) || right(s, t, r))
		}
		if ok {
			all = append(all, t)
		}
	}
	return all
}

func truths(s warm.Stream) []warm.Truth { return truthsBut(s, nil) }

// bounds are the least and the greatest warmth of the bed in the hour in the truths, of which there is one at least.
func bounds(s warm.Stream, in []warm.Truth, n, hour int) warm.Range {
	var all []int
	for _, t := range in {
		all = append(all, warmth(s, t, n, hour))
	}
	slices.Sort(all)
	return to(all[0], all[len(all)-1])
}

// frozen counts in how many of the truths the bed is frozen in the hour.
func frozen(s warm.Stream, in []warm.Truth, n, hour int) int {
	many := 0
	for _, t := range in {
		if warmth(s, t, n, hour) <= 0 {
			many++
		}
	}
	return many
}

// keeps reports whether the depth keeps the bed.
func keeps(s warm.Stream, n, depth int) bool {
	c := copied(s)
	c.Depths[n], c.Readings = depth, nil
	all := choices(c)
	for hour := range c.Air {
		if frozen(c, all, n, hour) > 0 {
			return false
		}
	}
	return true
}

// without is the stream without the readings of the list.
func without(s warm.Stream, out []int) warm.Stream {
	c := copied(s)
	c.Readings = nil
	for i, r := range s.Readings {
		if !slices.Contains(out, i) {
			c.Readings = append(c.Readings, r)
		}
	}
	return c
}

// allLists are all increasing lists of numbers below many, by length, and then lexicographically.
func allLists(many int) [][]int {
	var all [][]int
	for mask := 0; mask < 1<<many; mask++ {
		list := []int{}
		for n := 0; n < many; n++ {
			if mask>>n&1 == 1 {
				list = append(list, n)
			}
		}
		all = append(all, list)
	}
	slices.SortFunc(all, func(a, b []int) int {
		if len(a) != len(b) {
			return len(a) - len(b)
		}
		return slices.Compare(a, b)
	})
	return all
}

// streams are valid streams without many truths; every fourth one has readings that may all be false, the others have readings of one truth, some of them false.
func streams(many int, seed int64) []warm.Stream {
	r := rand.New(rand.NewSource(seed))
	var all []warm.Stream
	for len(all) < many {
		s := bareStream(r)
		own := choices(s)
		t := own[r.Intn(len(own))]
		for range r.Intn(7) {
			s.Readings = append(s.Readings, anyReading(r, s, t, len(all)%4 == 0))
		}
		all = append(all, s)
	}
	return all
}

// bareStream has a spring and airs that are often near 0.
func bareStream(r *rand.Rand) warm.Stream {
	s := warm.Stream{Rate: []int{0, 7, 30, 50, 77, 99, 100}[r.Intn(7)]}
	low := r.Intn(80) - 30
	s.Spring = to(low, low+r.Intn(5))
	for range 1 + r.Intn(5) {
		s.Depths = append(s.Depths, 1+r.Intn(6))
	}
	for range 1 + r.Intn(4) {
		low := r.Intn(120) - 70
		s.Air = append(s.Air, to(low, low+r.Intn(3)))
	}
	if r.Intn(3) == 0 { // one hour may have a wide range
		s.Air[0].Hi = s.Air[0].Lo + r.Intn(21)
	}
	return s
}

func anyReading(r *rand.Rand, s warm.Stream, t warm.Truth, wild bool) warm.Reading {
	x := reading(r.Intn(len(s.Depths)), r.Intn(len(s.Air)), 0, r.Intn(3))
	x.Seen = warmth(s, t, x.Bed, x.Hour) + r.Intn(2*x.Error+1) - x.Error
	if wild || r.Intn(6) == 0 {
		x.Seen += r.Intn(9) - 4
	}
	return x
}

// copied has memory of its own.
func copied(s warm.Stream) warm.Stream {
	s.Depths, s.Air, s.Readings = slices.Clone(s.Depths), slices.Clone(s.Air), slices.Clone(s.Readings)
	return s
}

func same(a, b warm.Stream) bool {
	return a.Spring == b.Spring && a.Rate == b.Rate && slices.Equal(a.Depths, b.Depths) && slices.Equal(a.Air, b.Air) && slices.Equal(a.Readings, b.Readings)
}

func sameRows[T comparable](a, b [][]T) bool { return slices.EqualFunc(a, b, slices.Equal) }
