package clean

import (
	"iter"

	"watercress/api"
	"watercress/lists"
)

// within reports whether the range is one, from low to high.
func (r Range) within(low, high int) bool {
	return low <= r.Lo && r.Lo <= r.Hi && r.Hi <= high
}

func (r Range) has(n int) bool { return r.Lo <= n && n <= r.Hi }

func (r Range) size() int { return r.Hi - r.Lo + 1 }

// all yields the numbers of the range.
func (r Range) all() iter.Seq[int] {
	return func(yield func(int) bool) {
		for i := range r.size() {
			if !yield(r.Lo + i) {
				return
			}
		}
	}
}

func (y Yard) hasBed(n int) bool { return 0 <= n && n < len(y.Beds) }

func (y Yard) hasWeek(n int) bool { return 0 <= n && n <= y.Last }

func (y Yard) tooLong() bool {
	return y.Last > api.MaxCleanLast || y.Hands > api.MaxCleanHands ||
		len(y.Beds) > api.MaxCleanBeds || len(y.Claims) > api.MaxCleanClaims
}

// valid asks about all of the yard but what is too long, and its number of lists of weeks.
func (y Yard) valid() bool {
	return y.hasWeek(0) && y.Hands >= 1 && lists.Each(y.Beds, y.isBed) && lists.Each(y.Claims, y.isClaim)
}

func (y Yard) isBed(_ int, b Bed) bool {
	return 1 <= b.Long && b.Long <= api.MaxCleanLong && b.Begin.within(0, y.Last)
}

func (y Yard) isClaim(_ int, c Claim) bool { return y.hasBed(c.Bed) && c.Began.within(0, y.Last) }

// sizes returns the number of lists of weeks, schedules or not.
func (y Yard) sizes() int {
	n := 1
	for _, b := range y.Beds {
		n *= b.Begin.size()
	}
	return n
}

// areBeds reports whether the list is an increasing one of beds.
func (y Yard) areBeds(list []int) bool {
	return lists.Each(list, func(i, n int) bool { return y.hasBed(n) && (i == 0 || list[i-1] < n) })
}
