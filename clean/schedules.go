package clean

import (
	"iter"
	"slices"

	"watercress/api"
	"watercress/lists"
)

// begins are the weeks in which the cleaning of each bed begins; 0 for beds that the yard lacks.
type begins [api.MaxCleanBeds]int

// place is a bed in a week.
type place struct{ bed, week int }

// work is a valid yard at work, in which some beds have been begun: which beds are empty in which weeks.
type work struct {
	Yard
	empty map[place]bool
}

// emptyFrom returns the weeks in which the bed is empty if its cleaning begins in this one.
func (b Bed) emptyFrom(week int) Range { return Range{week, week + b.Long - 1} }

// mark says whether the bed is empty because of a cleaning that begins in the week.
func (w work) mark(bed, begun int, is bool) {
	for week := range w.Beds[bed].emptyFrom(begun).all() {
		w.empty[place{bed, week}] = is
	}
}

// busy returns how many beds are empty in the week.
func (w work) busy(week int) int {
	many := 0
	for bed := range w.Beds {
		if w.empty[place{bed, week}] {
			many++
		}
	}
	return many
}

func (w work) endsInTime(bed, begun int) bool { return w.hasWeek(w.Beds[bed].emptyFrom(begun).Hi) }

// hasHands reports whether in each week of the cleaning the beds begun before leave a hand for it.
func (w work) hasHands(bed, begun int) bool {
	for week := range w.Beds[bed].emptyFrom(begun).all() {
		if w.busy(week) >= w.Hands {
			return false
		}
	}
	return true
}

// isApart reports whether in no week of the cleaning the neighbour before the bed is empty. The one after it is begun later, and asks then.
func (w work) isApart(bed, begun int) bool {
	for week := range w.Beds[bed].emptyFrom(begun).all() {
		if w.empty[place{bed - 1, week}] {
			return false
		}
	}
	return true
}

// rule is what must be so of a bed and the week in which its cleaning begins.
type rule struct{ is func(work, int, int) bool }

// allows reports whether the cleaning of the bed can begin in the week, after those begun before. A rule that is broken stays broken whichever beds are begun next, so that there is no need to wait for these.
func (w work) allows(bed, week int) bool {
	rules := []rule{{work.endsInTime}, {work.hasHands}, {work.isApart}}
	return lists.Each(rules, func(_ int, r rule) bool { return r.is(w, bed, week) })
}

// schedules yields those of these beds alone, whatever the claims say; the other beds have the week 0. The beds must rise.
func (y Yard) schedules(beds []int) iter.Seq[begins] {
	return func(yield func(begins) bool) {
		w := work{y, map[place]bool{}}
		var list begins
		var begin func(rest []int) bool
		begin = func(rest []int) bool {
			if len(rest) == 0 {
				return yield(list)
			}
			bed := rest[0]
			for week := range w.Beds[bed].Begin.all() {
				if !w.allows(bed, week) {
					continue
				}
				list[bed] = week
				w.mark(bed, week, true)
				goesOn := begin(rest[1:])
				w.mark(bed, week, false)
				if !goesOn {
					return false
				}
			}
			return true
		}
		begin(beds)
	}
}

// hasSchedule reports whether these beds alone have one.
func (y Yard) hasSchedule(beds []int) bool {
	for range y.schedules(beds) {
		return true
	}
	return false
}

// numbers returns those of all beds.
func (y Yard) numbers() []int {
	var all []int
	for bed := range y.Beds {
		all = append(all, bed)
	}
	return all
}

// anySchedules returns all schedules, whatever the claims say, or why there is none to ask about. What the call names beside the yard must be inRange.
func anySchedules(y Yard, inRange bool) ([]begins, api.Errno) {
	if e := CheckYard(y); e != api.OK {
		return nil, e
	}
	if !inRange {
		return nil, api.ErrRange
	}
	all := slices.Collect(y.schedules(y.numbers()))
	if len(all) == 0 {
		return nil, api.ErrShort
	}
	return all, api.OK
}

// ownSchedules returns those of the yard, in which all claims are right; otherwise it is as anySchedules.
func ownSchedules(y Yard, inRange bool) ([]begins, api.Errno) {
	all, e := anySchedules(y, inRange)
	if e != api.OK {
		return nil, e
	}
	own := slices.DeleteFunc(all, func(l begins) bool { return len(y.wrongIn(l)) > 0 })
	if len(own) == 0 {
		return nil, api.ErrFail
	}
	return own, api.OK
}

// wrongIn returns the claims that are wrong in the schedule.
func (y Yard) wrongIn(l begins) []int {
	var wrong []int
	for n, c := range y.Claims {
		if !c.Began.has(l[c.Bed]) {
			wrong = append(wrong, n)
		}
	}
	return wrong
}

// firstWrong returns the first claim that is wrong in the schedule; if there is none, the number of claims.
func (y Yard) firstWrong(l begins) int { return lists.Least(len(y.Claims), y.wrongIn(l)...) }

// areIn reports whether all of some numbers are in the list.
func areIn(some, list []int) bool {
	return lists.Each(some, func(_, n int) bool { return slices.Contains(list, n) })
}
