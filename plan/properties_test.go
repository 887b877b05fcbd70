package plan_test

import (
	"math/rand"
	"slices"
	"testing"

	"watercress/api"
	"watercress/grow"
	"watercress/plan"
)

// The properties are asked of the calls alone, for games that are made at random.

func TestP11_6_WhateverComes(t *testing.T) {
	won, rose, more := 0, 0, 0
	for _, x := range games(600, 21) {
		sure, e := plan.Best(x.Game)
		if e != api.OK {
			continue
		}
		won++
		for _, weather := range x.weathers {
			p, last := noCuts(x.Game), sure
			for week := range weather {
				beds, n, e := plan.Move(x.Game, weather[:week+1], p)
				if e != api.OK || n < last {
					t.Fatalf("Move of %v, %v, %v: %v, %d, %v, after %d", x.Game, weather[:week+1], p, beds, n, e, last)
				}
				if n > last {
					rose++
				}
				p, last = with(p, beds, week), n
			}
			n, e := plan.Play(x.Game, weather, p)
			if n != last || e != api.OK {
				t.Fatalf("Play of %v, %v, %v: %d, %v, not %d", x.Game, weather, p, n, e, last)
			}
			if n > sure {
				more++
			}
		}
	}
	if won < 200 || rose < 200 || more < 200 {
		t.Errorf("not enough of each kind: %d, %d, %d", won, rose, more)
	}
}

func TestP11_7_Fixed(t *testing.T) {
	same, less, none := 0, 0, 0
	for _, x := range games(300, 22) {
		sure, e := plan.Best(x.Game)
		p, fixed, f := plan.Fixed(x.Game)
		if fixed > sure || f == api.OK && e != api.OK {
			t.Fatalf("Best, Fixed of %v: %d, %v; %d, %v", x.Game, sure, e, fixed, f)
		}
		if len(x.weathers) == 1 {
			same++
			if fixed != sure || e != f {
				t.Fatalf("Best, Fixed of %v with one weather: %d, %v; %d, %v", x.Game, sure, e, fixed, f)
			}
		}
		if f != api.OK {
			none++
			fixed = -1
		}
		if fixed < sure {
			less++
		}
		for _, weather := range x.weathers {
			if n, e := plan.Play(x.Game, weather, p); f == api.OK && (n < fixed || e != api.OK) {
				t.Fatalf("Play of %v, %v, %v: %d, %v, not %d", x.Game, weather, p, n, e, fixed)
			}
		}
		for _, other := range plans(x.Game) {
			if plan.ProveFixed(x.Game, other, fixed+1) {
				t.Fatalf("%v has a greater fixed yield in %v than %d of %v", other, x.Game, fixed, p)
			}
		}
	}
	if same < 30 || less < 5 || none < 50 {
		t.Errorf("not enough of each kind: %d, %d, %d", same, less, none)
	}
}

// sureAndFixed are the two yields, -1 for one that there is not.
func sureAndFixed(t *testing.T, g plan.Game) (sure, fixed int) {
	t.Helper()
	sure, e := plan.Best(g)
	_, fixed, f := plan.Fixed(g)
	for _, e := range []api.Errno{e, f} {
		if e != api.OK && e != api.ErrShort {
			t.Fatalf("Best, Fixed of %v: %v", g, e)
		}
	}
	if e != api.OK {
		sure = -1
	}
	if f != api.OK {
		fixed = -1
	}
	return sure, fixed
}

func TestP11_8_MoreBadWeeks(t *testing.T) {
	more, less, lost := 0, 0, 0
	for _, x := range games(2500, 23) {
		sure, fixed := sureAndFixed(t, x.Game)
		for _, bad := range list(x.Bad, x.Bad+1, 6) {
			for _, apart := range []bool{x.Apart, false} {
				g := skies(x.Game, bad, apart)
				all, e := plan.Weathers(g)
				if e != api.OK {
					continue
				}
				least, fix := sureAndFixed(t, g)
				if len(all) < len(x.weathers) || least > sure || fix > fixed {
					t.Fatalf("%v: %d weathers, %d and %d; %v: %d, %d and %d", x.Game, len(x.weathers), sure, fixed, g, len(all), least, fix)
				}
				if len(all) > len(x.weathers) {
					more++
				}
				if least < sure {
					less++
				}
				if least < 0 && sure >= 0 {
					lost++
				}
			}
		}
	}
	if more < 1000 || less < 300 || lost < 10 {
		t.Errorf("not enough of each kind: %d, %d, %d", more, less, lost)
	}
}

func TestP11_8_NoBadWeek(t *testing.T) {
	for _, x := range games(400, 24) {
		var best []int
		for _, r := range x.Season.Warm {
			best = append(best, r.Hi)
		}
		if l, e := plan.Weathers(skies(x.Game, 0, x.Apart)); !sameRows(l, cuts(best)) || e != api.OK {
			t.Fatalf("Weathers of %v without a bad week: %v, %v", x.Game, l, e)
		}
	}
}

func TestP11_9_Knives(t *testing.T) {
	more, won := 0, 0
	for _, x := range games(600, 25) {
		sure, fixed := sureAndFixed(t, x.Game)
		for knives := x.Season.Knives + 1; knives <= api.MaxGrowBeds; knives++ {
			g := x.Game
			g.Season.Knives = knives
			most, fix := sureAndFixed(t, g)
			if most < sure || fix < fixed {
				t.Fatalf("%v: %d and %d; with %d knives: %d and %d", x.Game, sure, fixed, knives, most, fix)
			}
			if most > sure {
				more++
			}
			if most >= 0 && sure < 0 {
				won++
			}
		}
	}
	if more < 50 || won < 10 {
		t.Errorf("not enough of each kind: %d, %d", more, won)
	}
}

func TestP11_10_Reply(t *testing.T) {
	r := rand.New(rand.NewSource(26))
	seen, first := map[bool]int{}, 0
	for _, x := range games(300, 26) {
		for _, p := range plans(x.Game) {
			if x.fixed(p) < 0 && r.Intn(40) > 0 {
				continue
			}
			reply, e := plan.Answer(x.Game, p)
			n, f := plan.Play(x.Game, reply.Weather, p)
			if e != api.OK || n != reply.Yield || (f == api.OK) != reply.Holds || !reply.Holds && f != api.ErrFail {
				t.Fatalf("Answer of %v, %v: %v, %v; Play: %d, %v", x.Game, p, reply, e, n, f)
			}
			seen[reply.Holds]++
			if slices.Equal(reply.Weather, x.weathers[0]) {
				first++
			}
			for i, weather := range x.weathers {
				n, e := plan.Play(x.Game, weather, p)
				isBefore := slices.Compare(weather, reply.Weather) < 0
				worse := reply.Holds && (e != api.OK || n < reply.Yield || isBefore && n == reply.Yield)
				if worse || !reply.Holds && isBefore && e != api.OK {
					t.Fatalf("Answer of %v, %v: %v; Play under the weather %d, %v: %d, %v", x.Game, p, reply, i, weather, n, e)
				}
			}
		}
	}
	if seen[true] < 300 || seen[false] < 300 || seen[true]+seen[false]-first < 150 {
		t.Errorf("not enough of each kind: %v, %d", seen, first)
	}
}

func TestP11_11_AsInGrow(t *testing.T) {
	r := rand.New(rand.NewSource(27))
	held, not, best, none := 0, 0, 0, 0
	for _, x := range games(800, 27) {
		g := skies(x.Game, 6, false)
		if plan.CheckGame(g) != api.OK {
			continue
		}
		for _, p := range plans(g) {
			// If it does not hold in the coldest week, or in the warmest one, both calls say so soon; most of these are left out.
			if !holds(g, x.weathers[0], p) && r.Intn(40) > 0 {
				continue
			}
			reply, e := plan.Answer(g, p)
			if e != api.OK || reply.Holds != grow.ProvePlan(g.Season, p) {
				t.Fatalf("Answer of %v, %v: %v, %v", g, p, reply, e)
			}
			if !reply.Holds {
				not++
				continue
			}
			held++
			if bounds, e := grow.Yield(g.Season, p); bounds.Lo != reply.Yield || e != api.OK {
				t.Fatalf("Answer of %v, %v: %v; Yield: %v, %v", g, p, reply, bounds, e)
			}
		}
		_, _, e := plan.Fixed(g)
		if _, _, f := grow.Best(g.Season); e != f {
			t.Fatalf("Fixed of %v: %v; grow.Best: %v", g, e, f)
		}
		if e == api.OK {
			best++
		} else {
			none++
		}
	}
	if held < 1000 || not < 1000 || best < 100 || none < 100 {
		t.Errorf("not enough of each kind: %d, %d, %d, %d", held, not, best, none)
	}
}

func TestP11_12_AfterTheLastWeek(t *testing.T) {
	r := rand.New(rand.NewSource(28))
	seen, cut := 0, map[int]int{}
	for _, x := range games(600, 28) {
		for range 8 {
			weather := x.weathers[r.Intn(len(x.weathers))]
			p := someWeeks(r, x, weather, x.Season.Last)
			beds, n, e := plan.Move(x.Game, weather, p)
			if e != api.OK {
				continue
			}
			seen++
			cut[len(beds)]++
			if m, f := plan.Play(x.Game, weather, with(p, beds, x.Season.Last)); m != n || f != api.OK {
				t.Fatalf("Move of %v, %v, %v: %v, %d; Play: %d, %v", x.Game, weather, p, beds, n, m, f)
			}
			for _, other := range someLists(len(p)) {
				if m, f := plan.Play(x.Game, weather, with(p, other, x.Season.Last)); f == api.OK && m > n {
					t.Fatalf("Move of %v, %v, %v: %v, %d; %v brings %d", x.Game, weather, p, beds, n, other, m)
				}
			}
		}
	}
	if seen < 500 || cut[0] < 100 || cut[1] < 100 || cut[2] < 50 {
		t.Errorf("not enough of each kind: %d, %v", seen, cut)
	}
}

// sureAfter is the least of what Move returns after one more week is drawn, or -1 if it returns nothing after some.
func sureAfter(x table, drawn []int, p [][]int) int {
	least := x.most()
	for _, n := range nextDraws(x.weathers, drawn) {
		_, sure, e := plan.Move(x.Game, append(slices.Clone(drawn), n), p)
		if e != api.OK {
			return -1
		}
		least = min(least, sure)
	}
	return least
}

func TestP11_13_OneWeekLater(t *testing.T) {
	r := rand.New(rand.NewSource(29))
	same, less, lost := 0, 0, 0
	for _, x := range games(1500, 29) {
		if n, _ := sureAndFixed(t, x.Game); n != sureAfter(x, nil, noCuts(x.Game)) {
			t.Fatalf("Best of %v: %d, not the least of Move after the first week", x.Game, n)
		}
		for week := range x.Season.Last {
			drawn := x.weathers[r.Intn(len(x.weathers))][:week+1]
			p := someWeeks(r, x, drawn, week)
			beds, n, e := plan.Move(x.Game, drawn, p)
			if e != api.OK {
				continue
			}
			for _, other := range someLists(len(p)) {
				if !holds(x.Game, drawn, with(p, other, week)) {
					continue
				}
				later := sureAfter(x, drawn, with(p, other, week))
				isFirst := slices.Compare(other, beds) < 0
				if later > n || slices.Equal(other, beds) && later != n || isFirst && later == n {
					t.Fatalf("Move of %v, %v, %v: %v, %d; after %v: %d", x.Game, drawn, p, beds, n, other, later)
				}
				switch later {
				case n:
					same++
				case -1:
					lost++
				default:
					less++
				}
			}
		}
	}
	if same < 500 || less < 200 || lost < 20 {
		t.Errorf("not enough of each kind: %d, %d, %d", same, less, lost)
	}
}
