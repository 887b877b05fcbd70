package train

import (
	"watercress/api"
	"watercress/lists"
)

// within reports whether the range is one, from low to high.
func (r Range) within(low, high int) bool {
	return low <= r.Lo && r.Lo <= r.Hi && r.Hi <= high
}

func (r Range) has(n int) bool { return r.Lo <= n && n <= r.Hi }

func (r Range) size() int { return r.Hi - r.Lo + 1 }

func (r Range) limits() (low, high int) { return r.Lo, r.Hi }

func isMinute(n int) bool { return 0 <= n && n <= api.MaxTrainMinute }

// valid asks about all of the morning but the day, too many reports, and its number of truths.
func (m Morning) valid() bool {
	return 1 <= m.Load && m.Load <= api.MaxTrainLoad && isMinute(m.Start) && isMinute(m.Train) &&
		m.Out.within(0, api.MaxTrainWay) && m.Back.within(0, api.MaxTrainWay) && lists.Each(m.Reports, allKinds().isReport)
}

// unknown returns the ranges of which a truth has one number each: those of the women, of the lots, and of the two ways.
func (m Morning) unknown() []Range {
	var all []Range
	for _, r := range m.Day.Women {
		all = append(all, Range(r))
	}
	for _, l := range m.Day.Lots {
		all = append(all, Range(l.Stems))
	}
	return append(all, m.Out, m.Back)
}

// sizes returns the number of truths, whatever counts and reports say. An int holds it, since that of the day alone is checked before.
func (m Morning) sizes() int {
	n := 1
	for _, r := range m.unknown() {
		n *= r.size()
	}
	return n
}
