package deed

import (
	"watercress/api"
	"watercress/lists"
)

// within reports whether the range is one, from low to high.
func (r Range) within(low, high int) bool {
	return low <= r.Lo && r.Lo <= r.Hi && r.Hi <= high
}

func (r Range) has(n int) bool { return r.Lo <= n && n <= r.Hi }

func (r Range) size() int { return r.Hi - r.Lo + 1 }

func (r Range) limits() (low, high int) { return r.Lo, r.Hi }

func (s Span) has(t Time) bool { return s.From.has(t.From) && s.Till.has(t.Till) }

func isFarm(n int) bool { return 0 <= n && n < api.MaxDeedFarms }

func (d Deed) hasMinute(n int) bool { return 0 <= n && n < d.Last }

// hasNumber asks about the number of a minute, or that after the last one.
func (d Deed) hasNumber(n int) bool { return 0 <= n && n <= d.Last }

func (d Deed) tooLong() bool {
	return len(d.Turns) > api.MaxDeedTurns || len(d.Stops) > api.MaxDeedStops || len(d.Notes) > api.MaxDeedNotes
}

// valid asks about all of the deed but what is too long, and its number of truths.
func (d Deed) valid() bool {
	return 1 <= d.Cycle && d.Cycle <= api.MaxDeedCycle && 1 <= d.Last && d.Last <= api.MaxDeedLast && len(d.Turns) > 0 &&
		lists.Each(d.Turns, d.isTurn) && lists.Each(d.Stops, d.isStop) && lists.Each(d.Notes, d.isNote)
}

// isTurn relies on the turns before it, which are asked first.
func (d Deed) isTurn(i int, t Turn) bool {
	follows := t.From == 0
	if i > 0 {
		follows = t.From > d.Turns[i-1].From
	}
	return follows && t.From < d.Cycle && isFarm(t.Farm)
}

func (d Deed) isSpan(s Span) bool {
	return s.From.within(0, d.Last) && s.Till.within(0, d.Last) && s.From.Hi <= s.Till.Lo
}

func (d Deed) isStop(i int, s Span) bool {
	return d.isSpan(s) && (i == 0 || d.Stops[i-1].Till.Hi <= s.From.Lo)
}

func (d Deed) isNote(_ int, n Note) bool { return isFarm(n.Farm) && d.isSpan(n.Span) }

// unknown returns the ranges of which a truth has one number each: From and Till of the stops, and then of the notes.
func (d Deed) unknown() []Range {
	var all []Range
	for _, s := range d.Stops {
		all = append(all, s.From, s.Till)
	}
	for _, n := range d.Notes {
		all = append(all, n.Span.From, n.Span.Till)
	}
	return all
}

// tooMany stops at the limit, since an int need not hold the number of truths.
func (d Deed) tooMany() bool {
	n := 1
	for _, r := range d.unknown() {
		n *= r.size()
		if n > api.MaxDeedTruths {
			return true
		}
	}
	return false
}

// fits reports whether the truth has one time of each span.
func (d Deed) fits(t Truth) bool {
	return len(t.Stops) == len(d.Stops) && len(t.Notes) == len(d.Notes) &&
		lists.Each(t.Stops, func(i int, x Time) bool { return d.Stops[i].has(x) }) &&
		lists.Each(t.Notes, func(i int, x Time) bool { return d.Notes[i].Span.has(x) })
}
