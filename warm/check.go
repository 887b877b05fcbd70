package warm

import (
	"watercress/api"
	"watercress/lists"
)

func isWarmth(n int) bool { return -api.MaxWarmDegree <= n && n <= api.MaxWarmDegree }

// valid reports whether the range is one of warmths, and not too wide.
func (r Range) valid() bool {
	return isWarmth(r.Lo) && isWarmth(r.Hi) && r.Lo <= r.Hi && r.Hi-r.Lo <= api.MaxWarmWide
}

func (r Range) has(n int) bool { return r.Lo <= n && n <= r.Hi }

func (s Stream) hasBed(n int) bool { return 0 <= n && n < len(s.Depths) }

func (s Stream) hasHour(n int) bool { return 0 <= n && n < len(s.Air) }

func (s Stream) tooLong() bool {
	return len(s.Depths) > api.MaxWarmBeds || len(s.Air) > api.MaxWarmHours || len(s.Readings) > api.MaxWarmReadings
}

// valid asks about all of the stream but its numbers of elements that are too great.
func (s Stream) valid() bool {
	return s.Spring.valid() && 0 <= s.Rate && s.Rate <= api.MaxWarmHundred && len(s.Depths) > 0 && len(s.Air) > 0 &&
		lists.Each(s.Depths, isDepth) && lists.Each(s.Air, isAir) && lists.Each(s.Readings, s.isReading)
}

func isDepth(_, n int) bool { return 1 <= n && n <= api.MaxWarmDepth }

func isAir(_ int, r Range) bool { return r.valid() }

func (s Stream) isReading(_ int, r Reading) bool {
	return s.hasBed(r.Bed) && s.hasHour(r.Hour) && isWarmth(r.Seen) && 0 <= r.Error && r.Error <= api.MaxWarmError
}

// fits reports whether the truth has one number of each range.
func (s Stream) fits(t Truth) bool {
	return s.Spring.has(t.Spring) && len(t.Air) == len(s.Air) && lists.Each(t.Air, func(hour, n int) bool { return s.Air[hour].has(n) })
}
