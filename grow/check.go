package grow

import (
	"watercress/api"
	"watercress/lists"
)

// within reports whether the range is one, from low to high.
func (r Range) within(low, high int) bool {
	return low <= r.Lo && r.Lo <= r.Hi && r.Hi <= high
}

func (r Range) has(n int) bool { return r.Lo <= n && n <= r.Hi }

func (r Range) size() int { return r.Hi - r.Lo + 1 }

func isNumber(n int) bool { return 0 <= n && n <= api.MaxGrowNumber }

func (s Season) hasBed(n int) bool { return 0 <= n && n < len(s.Beds) }

func (s Season) hasWeek(n int) bool { return 0 <= n && n <= s.Last }

func (s Season) tooLong() bool {
	return s.Last > api.MaxGrowLast || len(s.Beds) > api.MaxGrowBeds || len(s.Looks) > api.MaxGrowLooks
}

// valid asks about all of the season but what is too long, and its number of truths.
func (s Season) valid() bool {
	return s.hasWeek(0) && isNumber(s.Stub) && Range{s.Ripe, s.Flower}.within(1, api.MaxGrowHeight) &&
		0 <= s.Knives && s.Knives <= api.MaxGrowBeds &&
		len(s.Light) == s.Last+1 && lists.Each(s.Light, isLight) &&
		len(s.Warm) == s.Last+1 && lists.Each(s.Warm, isWarm) &&
		len(s.Beds) > 0 && lists.Each(s.Beds, s.isBed) && lists.Each(s.Looks, s.isLook)
}

func isLight(_, n int) bool { return isNumber(n) }

func isWarm(_ int, r Range) bool { return r.within(0, api.MaxGrowNumber) }

func (s Season) isBed(_ int, b Bed) bool { return isNumber(b.Flow) && b.Cut.within(0, s.Last) }

func (s Season) isLook(_ int, l Look) bool {
	return s.hasBed(l.Bed) && s.hasWeek(l.Week) && l.Height.within(0, api.MaxGrowHeight)
}

// sizes returns the number of truths before any look.
func (s Season) sizes() int {
	n := 1
	for _, r := range s.unknown() {
		n *= r.size()
	}
	return n
}

// unknown returns the ranges of which a truth has one number each: first those of the weeks, then those of the beds.
func (s Season) unknown() []Range {
	var all []Range
	all = append(all, s.Warm...)
	for _, b := range s.Beds {
		all = append(all, b.Cut)
	}
	return all
}

// fits reports whether the truth has one number of each range.
func (s Season) fits(t Truth) bool {
	return len(t.Warm) == len(s.Warm) && len(t.Cuts) == len(s.Beds) &&
		lists.Each(t.Warm, func(week, n int) bool { return s.Warm[week].has(n) }) &&
		lists.Each(t.Cuts, func(bed, n int) bool { return s.Beds[bed].Cut.has(n) })
}

// isPlan reports whether the list has one increasing list of weeks for each bed.
func (s Season) isPlan(plan [][]int) bool {
	return len(plan) == len(s.Beds) && lists.Each(plan, func(_ int, weeks []int) bool {
		return lists.Each(weeks, func(i, n int) bool { return s.hasWeek(n) && (i == 0 || weeks[i-1] < n) })
	})
}
