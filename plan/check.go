package plan

import (
	"watercress/api"
	"watercress/grow"
	"watercress/lists"
)

func (g Game) tooLong() bool {
	return g.Season.Last > api.MaxPlanLast || len(g.Season.Beds) > api.MaxPlanBeds
}

// valid asks about all of the game that layer 3 does not ask about, but what is too long, and its number of weathers.
func (g Game) valid() bool {
	return len(g.Season.Looks) == 0 && lists.Each(g.Season.Beds, g.isKnown) && 0 <= g.Bad && g.Bad <= api.MaxPlanBad
}

// isKnown reports whether the bed can have been cut last in one week alone.
func (g Game) isKnown(_ int, b grow.Bed) bool { return b.Cut.Lo == b.Cut.Hi }

func (g Game) tooManyWeathers() bool {
	many := 0
	for range g.weathers() {
		many++
	}
	return many > api.MaxPlanWeathers
}

func (g Game) isWeather(list []int) bool {
	return len(list) == len(g.Season.Warm) && g.isBeginning(list)
}

// isBeginning reports whether the numbers are the beginning of an allowed weather, and at least one: what is allowed up to some week can go on without a bad one.
func (g Game) isBeginning(drawn []int) bool {
	return 0 < len(drawn) && len(drawn) <= len(g.Season.Warm) && lists.Each(drawn, g.canBeDrawn) && g.allowed(drawn)
}

func (g Game) canBeDrawn(week, warm int) bool {
	return g.Season.Warm[week].Lo <= warm && warm <= g.Season.Warm[week].Hi
}

// isPlan leaves it to layer 3 what a plan is, which plays any one in any truth.
func (g Game) isPlan(plan [][]int) bool {
	_, e := grow.Play(g.Season, g.truth(g.near(0)), plan)
	return e == api.OK
}

// areBefore reports whether all cuts are made before the week. They must be a plan.
func areBefore(cuts [][]int, week int) bool {
	return lists.Each(cuts, func(_ int, weeks []int) bool { return len(weeks) == 0 || weeks[len(weeks)-1] < week })
}
