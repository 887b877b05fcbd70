package plan

import (
	"slices"

	"watercress/lists"
)

// sure returns the outlook at a moment whose week is drawn, before its cuts.
func (w work) sure(m moment) outlook {
	best, ok := w.known[m]
	if ok {
		return best
	}
	for _, beds := range w.choices {
		if !w.canCut(m, beds) {
			continue
		}
		then := w.cut(stand{moment: m}, beds)
		// Cuts that change no height bring nothing, so that no cuts at all, which are tried first, do as well.
		if len(beds) > 0 && then.heights == m.heights {
			continue
		}
		later, wins := w.worst(then.moment)
		if yield := then.yield + later; wins && (!best.wins || yield > best.yield) {
			best = outlook{true, beds, yield}
		}
	}
	w.known[m] = best
	return best
}

// worst returns the yield of later weeks of which the man can be sure after the cuts of a week, whatever is drawn next, and whether he can be sure to win.
func (w work) worst(m moment) (yield int, wins bool) {
	if m.week == w.Season.Last {
		return 0, true
	}
	var yields []int
	low, high := limits(w.Season.Warm[m.week+1])
	for warm := low; warm <= high; warm++ {
		next, allowed := w.next(m, warm)
		if !allowed {
			continue
		}
		then := w.sure(next)
		if !then.wins {
			return 0, false
		}
		yields = append(yields, then.yield)
	}
	// A week that is as warm as it can be is always allowed, so that there is one.
	return lists.Least(yields[0], yields[1:]...), true
}

// reply returns the weather's reply to the plan.
func (w work) reply(plan [][]int) Reply {
	var worst Reply
search:
	for weather := range w.weathers() {
		end, holds := w.play(weather, plan)
		switch {
		case !holds:
			worst = Reply{Weather: weather}
			break search
		case !worst.Holds || end.yield < worst.Yield:
			worst = Reply{weather, true, end.yield}
		}
	}
	return worst
}

// fixed returns a best fixed plan and its yield, and whether there is one. The beds are chosen week by week, under all weathers at once: what does not hold up to a week holds in no plan.
func (w work) fixed() (plan [][]int, yield int, holds bool) {
	weathers := slices.Collect(w.weathers())
	weeks := make([][]int, w.Season.Last+1)
	var choose func(week int, stands []stand)
	choose = func(week int, stands []stand) {
		if week > w.Season.Last {
			if least := leastYield(stands); !holds || least > yield {
				plan, yield, holds = w.byBeds(weeks), least, true
			}
			return
		}
		for _, beds := range w.choices {
			weeks[week] = beds
			if then, all := w.stepAll(stands, weathers, beds); all {
				choose(week+1, then)
			}
		}
	}
	choose(0, slices.Repeat([]stand{{moment: before()}}, len(weathers)))
	return plan, yield, holds
}

// stepAll returns the stands under all weathers after the next week, if these beds are cut at its end, and whether they can be under each one.
func (w work) stepAll(stands []stand, weathers [][]int, beds []int) ([]stand, bool) {
	var all []stand
	for i, s := range stands {
		then, can := w.step(s, weathers[i][s.week+1], beds)
		if !can {
			return nil, false
		}
		all = append(all, then)
	}
	return all, true
}

func leastYield(stands []stand) int {
	least := stands[0].yield
	for _, s := range stands {
		least = lists.Least(least, s.yield)
	}
	return least
}

// byBeds returns the plan that cuts in each week these beds.
func (w work) byBeds(weeks [][]int) [][]int {
	plan := make([][]int, len(w.Season.Beds))
	for week, beds := range weeks {
		for _, bed := range beds {
			plan[bed] = append(plan[bed], week)
		}
	}
	return plan
}
