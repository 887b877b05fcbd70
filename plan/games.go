package plan

import (
	"slices"

	"watercress/api"
	"watercress/grow"
	"watercress/lists"
)

// heights are those of all beds, or what they gain.
type heights [api.MaxPlanBeds]int

func (h heights) plus(gain heights) heights {
	for bed, n := range gain {
		h[bed] += n
	}
	return h
}

// moment is all of the end of a week that counts for what can still come.
type moment struct {
	week    int
	heights heights
	sky     sky
}

// before is the moment before the first week.
func before() moment { return moment{week: -1} }

// stand is a moment, with what has been cut up to then.
type stand struct {
	moment
	yield int
}

// outlook is the greatest yield of the cuts from a moment on of which the man can be sure, if he can be sure to win, and which beds he cuts first.
type outlook struct {
	wins  bool
	beds  []int
	yield int
}

// work is a valid game at work.
type work struct {
	Game
	choices [][]int            // all lists of beds, in lexicographic order
	gains   map[draw]heights   // what beds that are not cut gain in a week
	known   map[moment]outlook // what sure has worked out
}

// open returns the game at work, or its error.
func open(g Game) (work, api.Errno) {
	if e := CheckGame(g); e != api.OK {
		return work{}, e
	}
	choices := slices.SortedFunc(lists.Rising(len(g.Season.Beds)), slices.Compare)
	return work{Game: g, choices: choices, gains: g.growth(), known: map[moment]outlook{}}, api.OK
}

// growth returns what each bed that is not cut gains in each week, by how warm this is. Until its last cut a bed has no height, and in the week of it the bed gains the Stub.
func (g Game) growth() map[draw]heights {
	all := map[draw]heights{}
	for n := range api.MaxGrowNumber + 1 {
		weather := g.near(n)
		rows, _ := grow.Play(g.Season, g.truth(weather), make([][]int, len(g.Season.Beds)))
		for week, warm := range weather {
			all[draw{week, warm}] = gained(rows, week)
		}
	}
	return all
}

// gained returns what beds with these heights at the ends of all weeks gain in the week.
func gained(rows [][]int, week int) heights {
	var gain heights
	for bed, row := range rows {
		gain[bed] = row[week]
		if week > 0 {
			gain[bed] -= row[week-1]
		}
	}
	return gain
}

// next returns the end of the next week, if it is drawn so warm, and whether it is allowed to be.
func (w work) next(m moment, warm int) (moment, bool) {
	d := draw{m.week + 1, warm}
	above, is := w.after(m.sky, d)
	return moment{d.week, m.heights.plus(w.gains[d]), above}, is
}

func (g Game) canBeCut(height int) bool {
	return g.Season.Ripe <= height && height <= g.Season.Flower
}

func (g Game) hasNotFlowered(height int) bool { return height <= g.Season.Flower }

// question is what is asked of a height.
type question struct{ is func(Game, int) bool }

// canCut reports whether no bed has run to flower, and these can be cut. Cress that can be cut has not run to flower.
func (w work) canCut(m moment, beds []int) bool {
	return len(beds) <= w.Season.Knives && lists.Each(w.Season.Beds, func(bed int, _ grow.Bed) bool {
		asked := question{Game.hasNotFlowered}
		if slices.Contains(beds, bed) {
			asked = question{Game.canBeCut}
		}
		return asked.is(w.Game, m.heights[bed])
	})
}

// cut returns the stand after these beds are cut.
func (w work) cut(s stand, beds []int) stand {
	for _, bed := range beds {
		s.yield += s.heights[bed] - w.Season.Stub
		s.heights[bed] = w.Season.Stub
	}
	return s
}

// step returns the stand after the next week, if it is drawn so warm and these beds are cut at its end, and whether they can be.
func (w work) step(s stand, warm int, beds []int) (stand, bool) {
	s.moment, _ = w.next(s.moment, warm)
	if !w.canCut(s.moment, beds) {
		return stand{}, false
	}
	return w.cut(s, beds), true
}

// play returns the stand after the weeks that were drawn, by the plan, and whether it holds up to then.
func (w work) play(drawn []int, plan [][]int) (stand, bool) {
	s := stand{moment: before()}
	for week, warm := range drawn {
		then, holds := w.step(s, warm, cutIn(plan, week))
		if !holds {
			return stand{}, false
		}
		s = then
	}
	return s, true
}

// cutIn returns the beds that the plan cuts in the week.
func cutIn(plan [][]int, week int) []int {
	var beds []int
	for bed, weeks := range plan {
		if slices.Contains(weeks, week) {
			beds = append(beds, bed)
		}
	}
	return beds
}
