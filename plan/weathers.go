package plan

import (
	"iter"

	"watercress/grow"
	"watercress/lists"
)

// draw is a week, and how warm it was drawn.
type draw struct{ week, warm int }

// sky is all of a weather that limits how it can go on: how many weeks were bad, and whether the last one was.
type sky struct {
	bad  int
	last bool
}

// after returns the sky after one more week, and whether it is allowed.
func (g Game) after(s sky, d draw) (sky, bool) {
	if d.warm == g.Season.Warm[d.week].Hi {
		return sky{s.bad, false}, true
	}
	return sky{s.bad + 1, true}, s.bad < g.Bad && !(g.Apart && s.last)
}

// allowed reports whether numbers of Warm are a weather that is allowed, or its beginning.
func (g Game) allowed(drawn []int) bool {
	var above sky
	return lists.Each(drawn, func(week, warm int) bool {
		var is bool
		above, is = g.after(above, draw{week, warm})
		return is
	})
}

func limits(r grow.Range) (low, high int) { return r.Lo, r.Hi }

// weathers yields all that are allowed, in lexicographic order, each in memory of its own.
func (g Game) weathers() iter.Seq[[]int] {
	return func(yield func([]int) bool) {
		for weather := range lists.Choices(g.Season.Warm, limits) {
			if g.allowed(weather) && !yield(weather) {
				return
			}
		}
	}
}

// near returns the weather, allowed or not, whose weeks are all as near to the number as they can be.
func (g Game) near(warm int) []int {
	var weather []int
	for _, r := range g.Season.Warm {
		weather = append(weather, min(max(warm, r.Lo), r.Hi))
	}
	return weather
}

// truth returns that of the season with this weather.
func (g Game) truth(weather []int) grow.Truth {
	t := grow.Truth{Warm: weather}
	for _, b := range g.Season.Beds {
		t.Cuts = append(t.Cuts, b.Cut.Lo)
	}
	return t
}
