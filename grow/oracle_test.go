package grow_test

import (
	"math/rand"
	"slices"

	"watercress/api"
	"watercress/grow"
)

// The oracle says what the chapter's definitions say, as slowly as they do, and shares no code with the package.

func to(low, high int) grow.Range { return grow.Range{Lo: low, Hi: high} }

func has(r grow.Range, n int) bool { return r.Lo <= n && n <= r.Hi }

func look(bed, week, low, high int) grow.Look {
	return grow.Look{Bed: bed, Week: week, Height: to(low, high)}
}

func truth(warm []int, cuts ...int) grow.Truth { return grow.Truth{Warm: warm, Cuts: cuts} }

func weeks(l ...int) []int { return l }

func plan(l ...[]int) [][]int { return l }

func noPlan(s grow.Season) [][]int { return make([][]int, len(s.Beds)) }

// height goes back from the week to that in which the truth has the bed cut last.
func height(s grow.Season, t grow.Truth, p [][]int, bed, week int) int {
	if week < t.Cuts[bed] {
		return 0
	}
	if week == t.Cuts[bed] {
		return s.Stub
	}
	was := height(s, t, p, bed, week-1)
	if slices.Contains(p[bed], week-1) {
		was = s.Stub
	}
	limits := []int{s.Light[week], t.Warm[week], s.Beds[bed].Flow}
	slices.Sort(limits)
	return was + limits[0]
}

func right(s grow.Season, t grow.Truth, l grow.Look) bool {
	return has(l.Height, height(s, t, noPlan(s), l.Bed, l.Week))
}

// choices are all truths, of the season or not; they are counted like a number whose digits have different bases.
func choices(s grow.Season) []grow.Truth {
	ranges := slices.Clone(s.Warm)
	for _, b := range s.Beds {
		ranges = append(ranges, b.Cut)
	}
	many := 1
	for _, r := range ranges {
		many *= r.Hi - r.Lo + 1
	}
	var all []grow.Truth
	for n := 0; n < many; n++ {
		l := make([]int, len(ranges))
		rest := n
		for i, r := range ranges {
			l[i] = r.Lo + rest%(r.Hi-r.Lo+1)
			rest /= r.Hi - r.Lo + 1
		}
		all = append(all, grow.Truth{Warm: l[:len(s.Warm)], Cuts: l[len(s.Warm):]})
	}
	return all
}

// truthsBut are the truths in which all looks but those left out are right.
func truthsBut(s grow.Season, out []int) []grow.Truth {
	var all []grow.Truth
	for _, t := range choices(s) {
		ok := true
		for i, l := range s.Looks {
			ok = ok && (slices.Contains(out, i) || right(s, t, l))
		}
		if ok {
			all = append(all, t)
		}
	}
	return all
}

func truths(s grow.Season) []grow.Truth { return truthsBut(s, nil) }

func ends(l []int) grow.Range { return to(slices.Min(l), slices.Max(l)) }

// heights are those of the bed at the end of the week, without a plan, in each of the truths.
func heights(s grow.Season, in []grow.Truth, bed, week int) []int {
	var all []int
	for _, t := range in {
		all = append(all, height(s, t, noPlan(s), bed, week))
	}
	return all
}

func ripe(s grow.Season, in []grow.Truth, bed, week int) int {
	many := 0
	for _, n := range heights(s, in, bed, week) {
		if n >= s.Ripe && n <= s.Flower {
			many++
		}
	}
	switch many {
	case len(in):
		return grow.Always
	case 0:
		return grow.Never
	}
	return grow.Perhaps
}

// holds reports whether the plan does, if these are the truths of the season.
func holds(s grow.Season, in []grow.Truth, p [][]int) bool {
	for week := 0; week <= s.Last; week++ {
		cut := 0
		for bed := range s.Beds {
			isCut := slices.Contains(p[bed], week)
			if isCut {
				cut++
			}
			for _, t := range in {
				n := height(s, t, p, bed, week)
				if n > s.Flower || isCut && n < s.Ripe {
					return false
				}
			}
		}
		if cut > s.Knives {
			return false
		}
	}
	return true
}

func yield(s grow.Season, t grow.Truth, p [][]int) int {
	sum := 0
	for bed, l := range p {
		for _, week := range l {
			sum += height(s, t, p, bed, week) - s.Stub
		}
	}
	return sum
}

func cuts(p [][]int) int {
	many := 0
	for _, l := range p {
		many += len(l)
	}
	return many
}

// plans are all that there are.
func plans(s grow.Season) [][][]int {
	all := [][][]int{{}}
	for range s.Beds {
		var more [][][]int
		for _, p := range all {
			for _, l := range allLists(s.Last + 1) {
				more = append(more, append(slices.Clone(p), l))
			}
		}
		all = more
	}
	return all
}

// most is the greatest number of cuts of a plan that holds, or -1.
func most(s grow.Season, in []grow.Truth) int {
	best := -1
	for _, p := range plans(s) {
		if cuts(p) > best && holds(s, in, p) {
			best = cuts(p)
		}
	}
	return best
}

// without is the season without the looks of the list.
func without(s grow.Season, out []int) grow.Season {
	c := copied(s)
	c.Looks = nil
	for i, l := range s.Looks {
		if !slices.Contains(out, i) {
			c.Looks = append(c.Looks, l)
		}
	}
	return c
}

// allLists are all increasing lists of numbers below many, by length, and then lexicographically.
func allLists(many int) [][]int {
	var all [][]int
	for mask := 0; mask < 1<<many; mask++ {
		list := []int{}
		for n := 0; n < many; n++ {
			if mask>>n&1 == 1 {
				list = append(list, n)
			}
		}
		all = append(all, list)
	}
	slices.SortFunc(all, func(a, b []int) int {
		if len(a) != len(b) {
			return len(a) - len(b)
		}
		return slices.Compare(a, b)
	})
	return all
}

// seasons are valid seasons without many truths; every fourth one has looks that may all be false, the others have looks of one truth, some of them false.
func seasons(many int, seed int64) []grow.Season {
	r := rand.New(rand.NewSource(seed))
	var all []grow.Season
	for len(all) < many {
		s := bareSeason(r, r.Intn(api.MaxGrowLast+1), 1+r.Intn(api.MaxGrowBeds))
		addLooks(r, &s, r.Intn(api.MaxGrowLooks+1), len(all)%4 == 0)
		all = append(all, s)
	}
	return all
}

// shortSeasons are seasons with so few plans that all can be tried, and mostly with a truth.
func shortSeasons(many int, seed int64) []grow.Season {
	r := rand.New(rand.NewSource(seed))
	var all []grow.Season
	for len(all) < many {
		beds := 1 + r.Intn(api.MaxGrowBeds)
		s := bareSeason(r, r.Intn([]int{7, 4, 2}[beds-1]), beds)
		addLooks(r, &s, r.Intn(3), len(all)%10 == 0)
		all = append(all, s)
	}
	return all
}

// bareSeason has cress that grows by some in most weeks, and no looks.
func bareSeason(r *rand.Rand, last, beds int) grow.Season {
	s := grow.Season{Last: last, Stub: r.Intn(4), Ripe: 1 + r.Intn(7), Knives: min(1+r.Intn(3), r.Intn(12))}
	s.Flower = s.Ripe + 3 + r.Intn(4)*r.Intn(8)
	sizes := 1
	widened := func(low, most int) grow.Range {
		high := low
		if r.Intn(2) == 0 {
			high = min(most, low+r.Intn(3))
		}
		if sizes*(high-low+1) > 50 {
			high = low
		}
		sizes *= high - low + 1
		return to(low, high)
	}
	for range beds {
		s.Beds = append(s.Beds, grow.Bed{Flow: 2 + r.Intn(6), Cut: widened(min(last, r.Intn(3)), last)})
	}
	for range last + 1 {
		s.Light = append(s.Light, 1+r.Intn(7))
		s.Warm = append(s.Warm, widened(r.Intn(7), api.MaxGrowNumber))
	}
	return s
}

func addLooks(r *rand.Rand, s *grow.Season, many int, wild bool) {
	own := choices(*s)
	t := own[r.Intn(len(own))]
	for range many {
		s.Looks = append(s.Looks, anyLook(r, *s, t, wild || r.Intn(6) == 0))
	}
}

// anyLook is right in the truth, or, if it is wild, perhaps not.
func anyLook(r *rand.Rand, s grow.Season, t grow.Truth, wild bool) grow.Look {
	bed, week := r.Intn(len(s.Beds)), r.Intn(s.Last+1)
	middle := height(s, t, noPlan(s), bed, week)
	if wild {
		middle = max(0, middle+r.Intn(9)-4)
	}
	return look(bed, week, max(0, middle-r.Intn(3)), min(api.MaxGrowHeight, middle+r.Intn(3)))
}

// copied has memory of its own.
func copied(s grow.Season) grow.Season {
	s.Light, s.Warm, s.Beds, s.Looks = slices.Clone(s.Light), slices.Clone(s.Warm), slices.Clone(s.Beds), slices.Clone(s.Looks)
	return s
}

func same(a, b grow.Season) bool {
	return a.Last == b.Last && a.Stub == b.Stub && a.Ripe == b.Ripe && a.Flower == b.Flower && a.Knives == b.Knives &&
		slices.Equal(a.Light, b.Light) && slices.Equal(a.Warm, b.Warm) && slices.Equal(a.Beds, b.Beds) && slices.Equal(a.Looks, b.Looks)
}

func sameRows(a, b [][]int) bool { return slices.EqualFunc(a, b, slices.Equal) }
