package bunch

import (
	"watercress/api"
	"watercress/lists"
)

// within reports whether the range is one, from low to high.
func (r Range) within(low, high int) bool {
	return low <= r.Lo && r.Lo <= r.Hi && r.Hi <= high
}

func (r Range) has(n int) bool { return r.Lo <= n && n <= r.Hi }

func (r Range) size() int { return r.Hi - r.Lo + 1 }

func (d Day) hasWoman(n int) bool { return 0 <= n && n < len(d.Women) }

func (d Day) tooLong() bool {
	return len(d.Women) > api.MaxBunchWomen || len(d.Lots) > api.MaxBunchLots || len(d.Counts) > api.MaxBunchCounts
}

// valid asks about all of the day but what is too long, and its number of truths.
func (d Day) valid() bool {
	return 1 <= d.Hand && d.Hand <= api.MaxBunchHand && 1 <= d.Flat && d.Flat <= api.MaxBunchFlat &&
		len(d.Women) > 0 && lists.Each(d.Women, isWoman) && lists.Each(d.Lots, d.isLot) && lists.Each(d.Counts, d.isCount)
}

func isWoman(_ int, r Range) bool { return r.within(1, api.MaxBunchFeel) }

func (d Day) isLot(_ int, l Lot) bool {
	return d.hasWoman(l.Woman) && l.Stems.within(0, api.MaxBunchStems)
}

func (d Day) isCount(_ int, c Count) bool {
	return c.hasKind() && d.hasWoman(c.Woman) && (c.Woman == 0 || c.kind().ofWoman) && c.Number.within(0, api.MaxBunchNumber)
}

// unknown returns the ranges of which a truth has one number each: first those of the women, then those of the lots.
func (d Day) unknown() []Range {
	var all []Range
	all = append(all, d.Women...)
	for _, l := range d.Lots {
		all = append(all, l.Stems)
	}
	return all
}

// tooMany reports whether there are too many truths, whatever the counts say. It multiplies no further then, since all sizes together may be more than an int holds.
func (d Day) tooMany() bool {
	n := 1
	for _, r := range d.unknown() {
		n *= r.size()
		if n > api.MaxBunchTruths {
			return true
		}
	}
	return false
}

// fits reports whether the truth has one number of each range.
func (d Day) fits(t Truth) bool {
	return len(t.Feels) == len(d.Women) && len(t.Stems) == len(d.Lots) &&
		lists.Each(t.Feels, func(woman, n int) bool { return d.Women[woman].has(n) }) &&
		lists.Each(t.Stems, func(lot, n int) bool { return d.Lots[lot].Stems.has(n) })
}
