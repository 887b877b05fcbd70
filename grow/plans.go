package grow

import (
	"iter"
	"slices"

	"watercress/api"
	"watercress/lists"
)

// moments yields the bed at the end of each week, if the plan cuts it in these weeks, and whether this is one of them.
func (s Season) moments(bed int, weeks []int) iter.Seq2[moment, bool] {
	return func(yield func(moment, bool) bool) {
		last := uncut
		for week := range s.Last + 1 {
			isCut := slices.Contains(weeks, week)
			if !yield(moment{bed, last, week}, isCut) {
				return
			}
			if isCut {
				last = week
			}
		}
	}
}

// yield returns what the plan brings in the truth.
func (s Season) yield(t Truth, plan [][]int) int {
	sum := 0
	for bed, weeks := range plan {
		for now, isCut := range s.moments(bed, weeks) {
			if isCut {
				sum += s.height(t, now) - s.Stub
			}
		}
	}
	return sum
}

// holds reports whether the plan does.
func (w work) holds(plan [][]int) bool {
	var knives [api.MaxGrowLast + 1]int
	for bed, weeks := range plan {
		for now, isCut := range w.moments(bed, weeks) {
			if !w.allows(now, isCut) {
				return false
			}
			if isCut {
				knives[now.today]++
			}
		}
	}
	return slices.Max(knives[:]) <= w.Knives
}

// allows reports whether in each truth of the season the bed has not run to flower, and can be cut if it isCut. Cress that can be cut has not run to flower.
func (w work) allows(now moment, isCut bool) bool {
	asked := question{Season.hasNotFlowered}
	if isCut {
		asked = question{Season.canBeCut}
	}
	return !asked.answers(w.Season, w.had(now))[false]
}

// lastCuts are the weeks in which a plan has cut the beds last, or uncut.
type lastCuts [api.MaxGrowBeds]int

func noCuts() lastCuts {
	var l lastCuts
	for bed := range l {
		l[bed] = uncut
	}
	return l
}

// with returns the last cuts after these beds are cut in the week.
func (l lastCuts) with(beds []int, week int) lastCuts {
	for _, bed := range beds {
		l[bed] = week
	}
	return l
}

// outlook is the best that a plan can do from some week on, if it can hold: which beds it cuts in this week, and how often it cuts from then on.
type outlook struct {
	holds bool
	beds  []int
	cuts  int
}

// best returns a best plan, and whether there is one. What can still come depends on nothing but the week and the last cuts, so that each of these is searched from only once.
func (w work) best() ([][]int, bool) {
	known := make([]map[lastCuts]outlook, w.Last+1)
	for week := range known {
		known[week] = map[lastCuts]outlook{}
	}
	var from func(week int, last lastCuts) outlook
	from = func(week int, last lastCuts) outlook {
		if week > w.Last {
			return outlook{holds: true}
		}
		best, ok := known[week][last]
		if ok {
			return best
		}
		for beds := range w.cutsIn(week, last) {
			then := from(week+1, last.with(beds, week))
			if cuts := len(beds) + then.cuts; then.holds && (!best.holds || cuts > best.cuts) {
				best = outlook{true, beds, cuts}
			}
		}
		known[week][last] = best
		return best
	}
	return w.follow(from)
}

// follow returns the plan that does in each week what is best from there on, and whether it holds.
func (w work) follow(from func(week int, last lastCuts) outlook) ([][]int, bool) {
	plan, last := make([][]int, len(w.Beds)), noCuts()
	for week := range w.Last + 1 {
		best := from(week, last)
		if !best.holds {
			return nil, false
		}
		for _, bed := range best.beds {
			plan[bed] = append(plan[bed], week)
		}
		last = last.with(best.beds, week)
	}
	return plan, true
}

// cutsIn yields the lists of beds that a plan can cut in the week after these last cuts.
func (w work) cutsIn(week int, last lastCuts) iter.Seq[[]int] {
	return func(yield func([]int) bool) {
		for list := range lists.Rising(len(w.Beds)) {
			allowed := func(bed int, _ Bed) bool {
				return w.allows(moment{bed, last[bed], week}, slices.Contains(list, bed))
			}
			if len(list) <= w.Knives && lists.Each(w.Beds, allowed) && !yield(list) {
				return
			}
		}
	}
}
