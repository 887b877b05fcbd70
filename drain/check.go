package drain

import (
	"watercress/api"
	"watercress/lists"
)

// within reports whether the range is one, from low to high.
func (r Range) within(low, high int) bool {
	return low <= r.Lo && r.Lo <= r.Hi && r.Hi <= high
}

func (r Range) has(n int) bool { return r.Lo <= n && n <= r.Hi }

func (r Range) size() int { return r.Hi - r.Lo + 1 }

func (r Range) limits() (low, high int) { return r.Lo, r.Hi }

func (f Foul) hasBed(n int) bool { return 0 <= n && n < len(f.Farm.Beds) }

func (f Foul) hasHour(n int) bool { return 0 <= n && n <= f.Last }

func (f Foul) hasDrain(n int) bool { return 0 <= n && n < len(f.Drains) }

func (f Foul) tooLong() bool {
	return f.Last > api.MaxDrainLast || len(f.Drains) > api.MaxDrainDrains || len(f.Cases) > api.MaxDrainCases
}

// valid asks about all of the foul but its farm, what is too long, and its number of truths.
func (f Foul) valid() bool {
	return f.Last >= 0 && len(f.Hours) == len(f.Farm.Beds) && len(f.Drains) > 0 &&
		lists.Each(f.Hours, f.isHours) && lists.Each(f.Drains, f.isDrain) && lists.Each(f.Cases, f.isCase)
}

func (f Foul) isHours(_ int, r Range) bool { return r.within(0, api.MaxDrainHours) }

func (f Foul) isDrain(_ int, d Drain) bool { return f.hasBed(d.Bed) && d.Opened.within(0, f.Last) }

func (f Foul) isCase(_ int, c Fever) bool { return f.hasBed(c.Bed) && f.hasHour(c.Hour) }

// flows returns the ranges of the springs.
func (f Foul) flows() []Range {
	var all []Range
	for _, s := range f.Farm.Springs {
		all = append(all, Range(s.Flow))
	}
	return all
}

// unknown returns the ranges of which a truth has one number each, beside the drain.
func (f Foul) unknown() []Range { return append(f.flows(), f.Hours...) }

// sizes returns the number of truths before any look. The limits of a farm, of hours and of drains keep it small enough for an int.
func (f Foul) sizes() int {
	ways, openings := 1, 0
	for _, r := range f.unknown() {
		ways *= r.size()
	}
	for _, d := range f.Drains {
		openings += d.Opened.size()
	}
	return ways * openings
}

// fit reports whether there is one number of each of the ranges.
func fit(numbers []int, ranges []Range) bool {
	return len(numbers) == len(ranges) && lists.Each(numbers, func(i, n int) bool { return ranges[i].has(n) })
}

// fits reports whether the truth has one number of each range, whatever looks say.
func (f Foul) fits(t Truth) bool {
	return fit(t.Flows, f.flows()) && fit(t.Hours, f.Hours) && f.hasDrain(t.Drain) && f.Drains[t.Drain].Opened.has(t.Opened)
}
