package plan_test

import (
	"math/rand"
	"slices"
	"testing"

	"watercress/api"
	"watercress/grow"
	"watercress/plan"
)

// ofChapter is the game of the chapter's examples, with another Flower.
func ofChapter(flower int) plan.Game {
	s := grow.Season{
		Last: 5, Stub: 2, Ripe: 8, Flower: flower, Knives: 1,
		Light: list(3, 3, 3, 4, 4, 4), Warm: ranges(3, 3, 3, 3, 2, 3, 3, 3, 4, 4, 4, 4),
		Beds: []grow.Bed{{Flow: 4, Cut: to(0, 0)}},
	}
	return plan.Game{Season: s, Bad: 1}
}

func cold() []int { return list(3, 3, 2, 3, 4, 4) }

func warm() []int { return list(3, 3, 3, 3, 4, 4) }

// sunny has a Stub of 1, light for all that warmth and flow let grow, and weeks with these ranges of Warm, of which all may be bad. Its beds have these flows, and were cut in the week 0.
func sunny(ripe, flower, knives int, flows []int, warm ...int) plan.Game {
	s := grow.Season{Last: len(warm)/2 - 1, Stub: 1, Ripe: ripe, Flower: flower, Knives: knives, Warm: ranges(warm...)}
	s.Light = slices.Repeat(list(9), len(s.Warm))
	for _, flow := range flows {
		s.Beds = append(s.Beds, grow.Bed{Flow: flow})
	}
	return plan.Game{Season: s, Bad: 6}
}

// cutIn is the game with other weeks in which the beds were cut last.
func cutIn(g plan.Game, weeks ...int) plan.Game {
	return but(g, func(g *plan.Game) {
		for bed, week := range weeks {
			g.Season.Beds[bed].Cut = to(week, week)
		}
	})
}

// stubOf is the game with another Stub.
func stubOf(g plan.Game, stub int) plan.Game {
	g.Season.Stub = stub
	return g
}

// skies is the game with other limits of its bad weeks.
func skies(g plan.Game, bad int, apart bool) plan.Game {
	g.Bad, g.Apart = bad, apart
	return g
}

func one() []int { return list(9) }

func two() []int { return list(9, 9) }

func TestP11_1_CheckGame(t *testing.T) {
	for _, x := range games(200, 11) {
		if e := plan.CheckGame(x.Game); e != api.OK {
			t.Errorf("CheckGame of %v: %v", x.Game, e)
		}
	}
	if e := plan.CheckGame(ofChapter(14)); e != api.OK {
		t.Errorf("CheckGame of the chapter's game: %v", e)
	}
	if e := plan.CheckGame(plan.Game{}); e != api.ErrArg {
		t.Errorf("CheckGame of nothing: %v", e)
	}
}

func TestP11_1_Weathers(t *testing.T) {
	wide := sunny(4, 9, 1, one(), 2, 3, 4, 4, 1, 2)
	near := sunny(4, 9, 1, one(), 2, 3, 1, 2, 5, 5)
	three := sunny(4, 9, 1, one(), 0, 2, 7, 9)
	for _, x := range []struct {
		g    plan.Game
		want [][]int
	}{
		// The chapter's example.
		{ofChapter(14), cuts(cold(), warm())},
		{skies(ofChapter(14), 0, false), cuts(warm())}, {skies(ofChapter(14), 6, true), cuts(cold(), warm())},
		// Only so many bad weeks: a week is bad with each number that is less than the greatest one.
		{wide, cuts(list(2, 4, 1), list(2, 4, 2), list(3, 4, 1), list(3, 4, 2))}, {skies(wide, 2, false), cuts(list(2, 4, 1), list(2, 4, 2), list(3, 4, 1), list(3, 4, 2))}, {skies(wide, 1, false), cuts(list(2, 4, 2), list(3, 4, 1), list(3, 4, 2))}, {skies(wide, 0, false), cuts(list(3, 4, 2))},
		{skies(three, 1, false), cuts(list(0, 9), list(1, 9), list(2, 7), list(2, 8), list(2, 9))}, {skies(three, 0, true), cuts(list(2, 9))},
		// Bad weeks that are apart have a week between them; one of the same number each time is not bad.
		{skies(wide, 6, true), cuts(list(2, 4, 1), list(2, 4, 2), list(3, 4, 1), list(3, 4, 2))}, {skies(near, 6, true), cuts(list(2, 2, 5), list(3, 1, 5), list(3, 2, 5))}, {near, cuts(list(2, 1, 5), list(2, 2, 5), list(3, 1, 5), list(3, 2, 5))}, {skies(three, 2, true), cuts(list(0, 9), list(1, 9), list(2, 7), list(2, 8), list(2, 9))},
		// One week.
		{sunny(4, 9, 1, one(), 0, 3), cuts(list(0), list(1), list(2), list(3))}, {skies(sunny(4, 9, 1, one(), 0, 3), 0, false), cuts(list(3))}, {skies(sunny(4, 9, 1, one(), 5, 5), 0, true), cuts(list(5))},
	} {
		if l, e := plan.Weathers(x.g); !sameRows(l, x.want) || e != api.OK {
			t.Errorf("Weathers of %v: %v, %v, not %v", x.g, l, e, x.want)
		}
	}
}

func TestP11_1_WeathersOfTheLongestGame(t *testing.T) {
	g := sunny(4, 99, 1, one(), 1, 2, 1, 2, 1, 2, 1, 2, 1, 2, 1, 2)
	for bad, want := range list(1, 7, 22, 42, 57, 63, 64) {
		if l, e := plan.Weathers(skies(g, bad, false)); len(l) != want || e != api.OK {
			t.Errorf("%d weathers with %d bad weeks, %v", len(l), bad, e)
		}
	}
	// Three bad weeks can be apart in four ways, and four of them in none.
	for bad, want := range list(1, 7, 17, 21, 21, 21, 21) {
		if l, e := plan.Weathers(skies(g, bad, true)); len(l) != want || e != api.OK {
			t.Errorf("%d weathers with %d bad weeks that are apart, %v", len(l), bad, e)
		}
	}
}

func TestP11_1_WeathersAgreeWithTheDefinitions(t *testing.T) {
	less := map[bool]int{}
	for _, x := range games(1000, 12) {
		l, e := plan.Weathers(x.Game)
		if !sameRows(l, x.weathers) || e != api.OK {
			t.Fatalf("Weathers of %v: %v, %v, not %v", x.Game, l, e, x.weathers)
		}
		if len(l) < len(weathers(skies(x.Game, 6, false))) {
			less[x.Apart]++
		}
	}
	if less[true] < 100 || less[false] < 100 {
		t.Errorf("not enough of each kind: %v", less)
	}
}

func TestP11_2_Play(t *testing.T) {
	// The cress of slow has the heights 1, 4, 7, 10 if all weeks are bad, and 1, 5, 9, 13 if none is.
	slow := sunny(4, 9, 1, one(), 0, 0, 3, 4, 3, 4, 3, 4)
	both := sunny(4, 9, 1, list(9, 3), 0, 0, 3, 4, 3, 4)
	for _, x := range []struct {
		g       plan.Game
		weather []int
		plan    [][]int
		want    int
		e       api.Errno
	}{
		// The chapter's examples.
		{ofChapter(14), cold(), cuts(list(3, 5)), 16, api.OK}, {ofChapter(14), cold(), cuts(list(4)), 12, api.OK}, {ofChapter(14), warm(), cuts(list(3, 5)), 17, api.OK}, {ofChapter(14), warm(), cuts(list(4)), 0, api.ErrFail},
		// Cut once, or again and again.
		{slow, list(0, 3, 3, 3), cuts(list(1)), 3, api.OK}, {slow, list(0, 3, 3, 3), cuts(list(2)), 6, api.OK}, {slow, list(0, 3, 3, 3), cuts(list(1, 2, 3)), 9, api.OK}, {slow, list(0, 4, 3, 4), cuts(list(1, 2, 3)), 11, api.OK}, {slow, list(0, 3, 3, 3), cuts(list(1, 3)), 9, api.OK}, {slow, list(0, 4, 4, 4), cuts(list(1, 3)), 12, api.OK},
		// At Flower it can be cut, above it cannot; at Ripe it can be cut, below it cannot.
		{slow, list(0, 4, 4, 4), cuts(list(2)), 8, api.OK}, {slow, list(0, 3, 3, 3), cuts(list(3)), 0, api.ErrFail}, {sunny(4, 10, 1, one(), 0, 0, 3, 4, 3, 4, 3, 4), list(0, 3, 3, 3), cuts(list(3)), 9, api.OK}, {sunny(5, 9, 1, one(), 0, 0, 3, 4, 3, 4, 3, 4), list(0, 3, 4, 4), cuts(list(1)), 0, api.ErrFail}, {sunny(5, 9, 1, one(), 0, 0, 3, 4, 3, 4, 3, 4), list(0, 4, 4, 4), cuts(list(1)), 4, api.OK}, {slow, list(0, 3, 3, 3), cuts(list(0, 2)), 0, api.ErrFail},
		// Never cut: it must not run to flower at the end of the last week, either.
		{slow, list(0, 3, 3, 3), cuts(nil), 0, api.ErrFail}, {sunny(4, 10, 1, one(), 0, 0, 3, 4, 3, 4, 3, 4), list(0, 3, 3, 3), cuts(nil), 0, api.OK}, {sunny(4, 10, 1, one(), 0, 0, 3, 4, 3, 4, 3, 4), list(0, 3, 3, 4), cuts(nil), 0, api.ErrFail}, {slow, list(0, 4, 4, 4), cuts(list(1)), 4, api.OK},
		// Knives are for one week, and for all beds.
		{both, list(0, 4, 4), cuts(list(2), list(1)), 11, api.OK}, {both, list(0, 4, 4), cuts(list(1), list(2)), 10, api.OK}, {both, list(0, 4, 4), cuts(list(2), list(2)), 0, api.ErrFail}, {sunny(4, 9, 2, list(9, 3), 0, 0, 3, 4, 3, 4), list(0, 4, 4), cuts(list(2), list(2)), 14, api.OK}, {sunny(4, 9, 0, list(9, 3), 0, 0, 3, 4, 3, 4), list(0, 4, 4), cuts(nil, nil), 0, api.OK}, {sunny(4, 9, 0, list(9, 3), 0, 0, 3, 4, 3, 4), list(0, 4, 4), cuts(nil, list(2)), 0, api.ErrFail},
		// Before its last cut a bed cannot be cut, in the week of it only if it is ripe at once.
		{cutIn(slow, 1), list(0, 3, 4, 3), cuts(list(2)), 4, api.OK}, {cutIn(slow, 1), list(0, 3, 4, 3), cuts(list(1)), 0, api.ErrFail}, {cutIn(slow, 1), list(0, 3, 4, 3), cuts(list(0)), 0, api.ErrFail}, {stubOf(cutIn(slow, 1), 4), list(0, 3, 4, 3), cuts(list(1, 2)), 4, api.OK}, {stubOf(cutIn(slow, 1), 4), list(0, 3, 4, 3), cuts(list(0, 2)), 0, api.ErrFail}, {cutIn(slow, 3), list(0, 3, 4, 3), cuts(nil), 0, api.OK}, {stubOf(cutIn(slow, 3), 4), list(0, 3, 4, 3), cuts(list(3)), 0, api.OK},
		// A Stub that is above Flower.
		{stubOf(cutIn(sunny(1, 8, 1, one(), 0, 0, 3, 4), 1), 9), list(0, 4), cuts(nil), 0, api.ErrFail}, {stubOf(cutIn(sunny(1, 9, 1, one(), 0, 0, 3, 4), 1), 9), list(0, 4), cuts(nil), 0, api.OK},
		// The warmest weeks that there can be.
		{sunny(4, 9, 1, one(), 0, 0, 7, 9), list(0, 9), cuts(nil), 0, api.ErrFail}, {sunny(4, 10, 1, one(), 0, 0, 7, 9), list(0, 9), cuts(list(1)), 9, api.OK}, {sunny(4, 10, 1, one(), 0, 0, 7, 9), list(0, 8), cuts(list(1)), 8, api.OK}, {sunny(4, 10, 1, one(), 0, 0, 9, 9), list(0, 9), cuts(list(1)), 9, api.OK},
		// Light and Flow limit what grows.
		{sunny(4, 9, 1, list(3), 0, 0, 3, 4), list(0, 4), cuts(list(1)), 3, api.OK}, {but(slow, func(g *plan.Game) { g.Season.Light[2] = 1 }), list(0, 4, 4, 3), cuts(list(2)), 5, api.OK}, {sunny(1, 9, 1, list(0), 0, 0, 3, 4), list(0, 4), cuts(list(1)), 0, api.OK},
	} {
		if n, e := plan.Play(x.g, x.weather, x.plan); n != x.want || e != x.e {
			t.Errorf("Play of %v, %v, %v: %d, %v, not %d, %v", x.g, x.weather, x.plan, n, e, x.want, x.e)
		}
	}
}

func TestP11_2_Answer(t *testing.T) {
	slow := sunny(4, 9, 1, one(), 0, 0, 3, 4, 3, 4, 3, 4)
	for _, x := range []struct {
		g    plan.Game
		plan [][]int
		want plan.Reply
	}{
		// The chapter's examples.
		{ofChapter(14), cuts(list(3, 5)), plan.Reply{Weather: cold(), Holds: true, Yield: 16}}, {ofChapter(14), cuts(list(4)), plan.Reply{Weather: warm()}},
		// The first weather under which it does not hold, be it too cold for a cut, or too warm for a wait.
		{ofChapter(14), cuts(nil), plan.Reply{Weather: cold()}}, {ofChapter(14), cuts(list(2, 5)), plan.Reply{Weather: cold()}}, {ofChapter(10), cuts(list(3, 5)), plan.Reply{Weather: warm()}}, {sunny(5, 9, 1, one(), 0, 0, 3, 4, 3, 4), cuts(list(1)), plan.Reply{Weather: list(0, 3, 3)}}, {sunny(4, 8, 1, one(), 0, 0, 3, 4, 3, 4), cuts(nil), plan.Reply{Weather: list(0, 4, 4)}}, {sunny(4, 7, 1, one(), 0, 0, 3, 4, 3, 4), cuts(nil), plan.Reply{Weather: list(0, 3, 4)}}, {skies(sunny(4, 7, 1, one(), 0, 0, 3, 4, 3, 4), 1, false), cuts(nil), plan.Reply{Weather: list(0, 3, 4)}}, {skies(sunny(4, 8, 1, one(), 0, 0, 3, 4, 3, 4), 0, false), cuts(nil), plan.Reply{Weather: list(0, 4, 4)}},
		// What it brings under a weather before that one does not count.
		{slow, cuts(list(2, 3)), plan.Reply{Weather: list(0, 3, 3, 3), Holds: true, Yield: 9}}, {sunny(4, 8, 1, one(), 0, 0, 3, 4, 3, 4, 3, 4), cuts(list(2, 3)), plan.Reply{Weather: list(0, 4, 4, 3)}},
		// The first one of those with the minimum.
		{slow, cuts(list(1)), plan.Reply{Weather: list(0, 3, 3, 3), Holds: true, Yield: 3}}, {skies(slow, 1, false), cuts(list(1)), plan.Reply{Weather: list(0, 3, 4, 4), Holds: true, Yield: 3}}, {skies(slow, 1, false), cuts(list(2)), plan.Reply{Weather: list(0, 3, 4, 4), Holds: true, Yield: 7}}, {skies(slow, 1, false), cuts(list(2, 3)), plan.Reply{Weather: list(0, 3, 4, 4), Holds: true, Yield: 11}}, {skies(sunny(4, 20, 1, one(), 0, 0, 3, 4, 1, 4, 3, 4), 1, false), cuts(list(3)), plan.Reply{Weather: list(0, 4, 1, 4), Holds: true, Yield: 9}}, {skies(sunny(4, 20, 1, one(), 0, 0, 3, 4, 1, 4, 3, 4), 2, true), cuts(list(3)), plan.Reply{Weather: list(0, 4, 1, 4), Holds: true, Yield: 9}}, {skies(sunny(4, 20, 1, one(), 0, 0, 1, 4, 1, 4, 3, 4), 2, true), cuts(list(3)), plan.Reply{Weather: list(0, 1, 4, 3), Holds: true, Yield: 8}}, {skies(sunny(4, 20, 1, one(), 0, 0, 3, 4, 3, 4, 3, 4), 2, true), cuts(nil), plan.Reply{Weather: list(0, 3, 4, 3), Holds: true}}, {sunny(2, 20, 1, list(2), 0, 0, 2, 4, 1, 3), cuts(list(2)), plan.Reply{Weather: list(0, 2, 1), Holds: true, Yield: 3}},
		// Too many beds in a week, under any weather.
		{sunny(4, 20, 1, two(), 0, 0, 3, 4), cuts(list(1), list(1)), plan.Reply{Weather: list(0, 3)}}, {sunny(4, 20, 2, two(), 0, 0, 3, 4), cuts(list(1), list(1)), plan.Reply{Weather: list(0, 3), Holds: true, Yield: 6}},
	} {
		if r, e := plan.Answer(x.g, x.plan); !sameReply(r, x.want) || e != api.OK {
			t.Errorf("Answer of %v, %v: %v, %v, not %v", x.g, x.plan, r, e, x.want)
		}
		if plan.ProveFixed(x.g, x.plan, x.want.Yield) != x.want.Holds || plan.ProveFixed(x.g, x.plan, x.want.Yield+1) || plan.ProveFixed(x.g, x.plan, -1) != x.want.Holds {
			t.Errorf("ProveFixed of %v, %v with %d", x.g, x.plan, x.want.Yield)
		}
	}
}

func TestP11_2_P11_5_PlansAgreeWithTheDefinitions(t *testing.T) {
	r := rand.New(rand.NewSource(13))
	played, replies := map[api.Errno]int{}, map[bool]int{}
	for _, x := range games(300, 13) {
		for _, p := range plans(x.Game) {
			weather := x.weathers[r.Intn(len(x.weathers))]
			sum, want := 0, api.ErrFail
			if holds(x.Game, weather, p) {
				sum, want = yield(x.Game, weather, p), api.OK
			} else if r.Intn(8) > 0 {
				continue
			}
			played[want]++
			if n, e := plan.Play(x.Game, weather, p); n != sum || e != want {
				t.Fatalf("Play of %v, %v, %v: %d, %v, not %d, %v", x.Game, weather, p, n, e, sum, want)
			}
			reply := x.reply(p)
			replies[reply.Holds]++
			if got, e := plan.Answer(x.Game, p); !sameReply(got, reply) || e != api.OK {
				t.Fatalf("Answer of %v, %v: %v, %v, not %v", x.Game, p, got, e, reply)
			}
			least := r.Intn(20)
			if plan.ProveFixed(x.Game, p, least) != (x.fixed(p) >= least) {
				t.Fatalf("ProveFixed of %v, %v, %d is not %v", x.Game, p, least, x.fixed(p) >= least)
			}
		}
	}
	if played[api.OK] < 1000 || played[api.ErrFail] < 1000 || replies[true] < 1000 || replies[false] < 1000 {
		t.Errorf("not enough of each kind: %v, %v", played, replies)
	}
}

// inTurn has two beds that are ripe from the week 1 on, of which one has to be cut in the week 1, and the other one in the week 2, before they run to flower.
func inTurn() plan.Game { return sunny(3, 8, 1, two(), 0, 0, 3, 3, 3, 3, 3, 3) }

// cool has heights of 1, 3, 6 and 9 in a game without a bad week, which is lost; a bad week 1 makes 1, 2, 5 and 8 of them.
func cool() plan.Game { return sunny(7, 8, 1, one(), 0, 0, 1, 2, 3, 3, 3, 3) }

func TestP11_3_P11_5_Best(t *testing.T) {
	slow := sunny(4, 9, 1, one(), 0, 0, 3, 4, 3, 4, 3, 4)
	for _, x := range []struct {
		g           plan.Game
		best, fixed int // or -1
	}{
		// The chapter's examples.
		{ofChapter(14), 16, 16}, {ofChapter(10), 13, -1},
		// Nothing can be cut, or need be cut.
		{sunny(4, 9, 1, one(), 0, 3), 0, 0}, {sunny(4, 9, 0, one(), 0, 0, 3, 4), 0, 0}, {sunny(4, 4, 0, one(), 0, 0, 3, 4), -1, -1}, {sunny(4, 4, 1, one(), 0, 0, 3, 4), -1, -1}, {sunny(4, 5, 1, one(), 0, 0, 3, 4), 3, 3}, {sunny(5, 5, 1, one(), 0, 0, 3, 4), 0, 0}, {sunny(9, 9, 3, one(), 0, 0, 3, 4), 0, 0},
		// Each week can be bad, or only one, or none.
		{slow, 9, 9}, {skies(slow, 1, false), 11, 11}, {skies(slow, 0, false), 12, 12}, {skies(slow, 2, true), 10, 10}, {skies(slow, 2, false), 10, 10}, {skies(slow, 3, true), 10, 10},
		// As many knives as beds, or fewer.
		{sunny(4, 20, 1, two(), 0, 0, 3, 4), 3, 3}, {sunny(4, 20, 2, two(), 0, 0, 3, 4), 6, 6}, {sunny(4, 20, 3, two(), 0, 0, 3, 4), 6, 6}, {inTurn(), 15, 15}, {but(inTurn(), func(g *plan.Game) { g.Season.Knives = 2 }), 18, 18}, {but(inTurn(), func(g *plan.Game) { g.Season.Knives = 0 }), -1, -1},
		// Lost in one weather, though it can be won in others.
		{cool(), -1, -1}, {skies(cool(), 0, false), -1, -1}, {but(cool(), func(g *plan.Game) { g.Season.Flower = 9 }), 7, 7}, {but(cool(), func(g *plan.Game) { g.Season.Flower, g.Season.Ripe = 9, 9 }), 0, 0},
		// Whoever sees the weather can wait in a cold week, and not in a warm one; but nobody knows the next week.
		{sunny(5, 8, 1, one(), 0, 0, 3, 4, 4, 4), 7, -1}, {sunny(5, 8, 1, one(), 0, 0, 3, 4, 3, 4), 4, -1}, {sunny(5, 9, 1, one(), 0, 0, 3, 4, 4, 4), 7, 7}, {skies(sunny(5, 8, 1, one(), 0, 0, 3, 4, 4, 4), 0, false), 8, 8}, {sunny(5, 7, 1, one(), 0, 0, 4, 4, 3, 4), 4, 4},
		// Beds that were cut later.
		{cutIn(slow, 1), 6, 6}, {cutIn(slow, 3), 0, 0}, {stubOf(cutIn(slow, 3), 9), 0, 0}, {stubOf(cutIn(sunny(4, 8, 1, one(), 0, 0, 3, 4, 3, 4, 3, 4), 3), 9), -1, -1}, {stubOf(slow, 9), -1, -1},
	} {
		want, none := x.best, api.OK
		if want < 0 {
			want, none = 0, api.ErrShort
		}
		if n, e := plan.Best(x.g); n != want || e != none {
			t.Errorf("Best of %v: %d, %v, not %d, %v", x.g, n, e, want, none)
		}
		want, none = x.fixed, api.OK
		if want < 0 {
			want, none = 0, api.ErrShort
		}
		p, n, e := plan.Fixed(x.g)
		if n != want || e != none || plan.ProveFixed(x.g, p, n) != (e == api.OK) || e != api.OK && len(p) > 0 {
			t.Errorf("Fixed of %v: %v, %d, %v, not %d, %v", x.g, p, n, e, want, none)
		}
	}
}

func TestP11_5_FixedOfTheChapter(t *testing.T) {
	if p, n, e := plan.Fixed(ofChapter(14)); !sameRows(p, cuts(list(3, 5))) || n != 16 || e != api.OK {
		t.Errorf("Fixed: %v, %d, %v", p, n, e)
	}
}

func TestP11_4_Move(t *testing.T) {
	slow := sunny(4, 9, 1, one(), 0, 0, 3, 4, 3, 4, 3, 4)
	knives := func(g plan.Game, many int) plan.Game {
		g.Season.Knives = many
		return g
	}
	for _, x := range []struct {
		g     plan.Game
		drawn []int
		cuts  [][]int
		beds  []int
		yield int
	}{
		// The chapter's examples.
		{ofChapter(10), list(3, 3, 2), cuts(nil), nil, 16}, {ofChapter(10), list(3, 3, 3), cuts(nil), list(0), 13},
		{ofChapter(10), list(3), cuts(nil), nil, 13}, {ofChapter(10), list(3, 3), cuts(nil), nil, 13}, {ofChapter(10), list(3, 3, 3, 3), cuts(list(2)), nil, 13}, {ofChapter(10), list(3, 3, 3, 3, 4), cuts(list(2)), list(0), 13}, {ofChapter(10), warm(), cuts(list(2, 4)), nil, 13}, {ofChapter(10), list(3, 3, 2, 3), cuts(nil), list(0), 16}, {ofChapter(10), cold(), cuts(list(3)), list(0), 16}, {ofChapter(10), list(3, 3, 2, 3, 4), cuts(list(3)), nil, 16},
		// In the last week all is cut that brings something, if there are knives for it.
		{sunny(4, 20, 2, two(), 0, 0, 3, 4), list(0, 3), cuts(nil, nil), list(0, 1), 6}, {sunny(4, 20, 1, two(), 0, 0, 3, 4), list(0, 3), cuts(nil, nil), list(0), 3}, {sunny(4, 20, 0, two(), 0, 0, 3, 4), list(0, 3), cuts(nil, nil), nil, 0}, {sunny(4, 20, 1, list(3, 9), 0, 0, 3, 4), list(0, 4), cuts(nil, nil), list(1), 4}, {sunny(5, 20, 2, list(3, 9), 0, 0, 3, 4), list(0, 4), cuts(nil, nil), list(1), 4}, {sunny(5, 20, 2, list(9, 3), 0, 0, 3, 4), list(0, 4), cuts(nil, nil), list(0), 4}, {sunny(5, 20, 2, two(), 0, 0, 3, 4), list(0, 3), cuts(nil, nil), nil, 0},
		// The lexicographically first list: a cut that brings nothing is not made alone, but it is made with one that brings something after it.
		{sunny(1, 20, 2, two(), 0, 0, 0, 0), list(0), cuts(nil, nil), nil, 0}, {sunny(1, 20, 2, list(0, 9), 0, 0, 4, 4), list(0, 4), cuts(nil, nil), list(0, 1), 4}, {sunny(1, 20, 2, list(9, 0), 0, 0, 4, 4), list(0, 4), cuts(nil, nil), list(0), 4}, {sunny(1, 20, 1, list(0, 9), 0, 0, 4, 4), list(0, 4), cuts(nil, nil), list(1), 4}, {stubOf(cutIn(sunny(4, 20, 2, two(), 0, 0, 4, 4), 1, 0), 4), list(0, 4), cuts(nil, nil), list(0, 1), 4},
		{knives(inTurn(), 2), list(0, 3, 3), cuts(list(1), nil), list(0, 1), 18},
		// What can be cut later as well is left.
		{slow, list(0, 3), cuts(nil), nil, 9}, {slow, list(0, 4), cuts(nil), nil, 10}, {slow, list(0, 3, 3), cuts(nil), list(0), 9}, {slow, list(0, 3, 4), cuts(nil), list(0), 10}, {slow, list(0, 4, 4), cuts(list(1)), nil, 11}, {slow, list(0, 4, 4), cuts(nil), list(0), 11}, {slow, list(0, 4, 4, 3), cuts(list(1)), list(0), 11}, {slow, list(0, 4, 4, 4), cuts(list(1, 2)), list(0), 12}, {slow, list(0, 3, 3, 3), cuts(list(1, 2)), list(0), 9}, {slow, list(0), cuts(nil), nil, 9},
		// What has been cut counts, be it little or much.
		{inTurn(), list(0), cuts(nil, nil), nil, 15}, {inTurn(), list(0, 3), cuts(nil, nil), list(0), 15}, {inTurn(), list(0, 3, 3), cuts(list(1), nil), list(1), 15}, {inTurn(), list(0, 3, 3), cuts(nil, list(1)), list(0), 15}, {inTurn(), list(0, 3, 3, 3), cuts(list(1), list(2)), list(0), 15}, {inTurn(), list(0, 3, 3, 3), cuts(list(2), list(1)), list(1), 15}, {knives(inTurn(), 2), list(0, 3), cuts(nil, nil), nil, 18}, {knives(inTurn(), 2), list(0, 3, 3), cuts(nil, nil), list(0, 1), 18},
		// Sure only since the week that was cold.
		{cool(), list(0, 1), cuts(nil), nil, 7}, {cool(), list(0, 1, 3), cuts(nil), nil, 7}, {cool(), list(0, 1, 3, 3), cuts(nil), list(0), 7},
		// When a bad week was drawn, the next ones are better known.
		{skies(slow, 1, false), list(0, 3), cuts(nil), nil, 11}, {skies(slow, 1, false), list(0, 4), cuts(nil), nil, 11}, {skies(slow, 1, false), list(0, 4, 3), cuts(nil), list(0), 11}, {skies(slow, 1, false), list(0, 4, 4), cuts(nil), list(0), 11}, {skies(sunny(5, 8, 1, one(), 0, 0, 3, 4, 3, 4), 1, false), list(0, 3), cuts(nil), nil, 7}, {sunny(5, 8, 1, one(), 0, 0, 3, 4, 3, 4), list(0, 3), cuts(nil), nil, 6}, {skies(sunny(5, 8, 1, one(), 0, 0, 3, 4, 3, 4), 2, true), list(0, 3), cuts(nil), nil, 7}, {sunny(5, 8, 1, one(), 0, 0, 3, 4, 3, 4), list(0, 4), cuts(nil), list(0), 4},
	} {
		l, n, e := plan.Move(x.g, x.drawn, x.cuts)
		if !slices.Equal(l, x.beds) || n != x.yield || e != api.OK {
			t.Errorf("Move of %v, %v, %v: %v, %d, %v, not %v, %d", x.g, x.drawn, x.cuts, l, n, e, x.beds, x.yield)
		}
	}
}

func TestP11_3_P11_5_AgreeWithTheDefinitions(t *testing.T) {
	lost, none, less, much := 0, 0, 0, 0
	for _, x := range games(1500, 15) {
		best, want := max(x.sure(), 0), api.OK
		if x.sure() < 0 {
			want = api.ErrShort
			lost++
		}
		if n, e := plan.Best(x.Game); n != best || e != want {
			t.Fatalf("Best of %v: %d, %v, not %d, %v", x.Game, n, e, best, want)
		}
		fixed := x.bestFixed()
		p, n, e := plan.Fixed(x.Game)
		switch {
		case fixed < 0:
			if len(p) > 0 || n != 0 || e != api.ErrShort {
				t.Fatalf("Fixed of %v: %v, %d, %v, not %v", x.Game, p, n, e, api.ErrShort)
			}
			if want == api.OK {
				none++
			}
		case n != fixed || e != api.OK || len(p) != len(x.Season.Beds) || x.fixed(p) != fixed:
			t.Fatalf("Fixed of %v: %v, %d, %v, not %d", x.Game, p, n, e, fixed)
		case fixed < best:
			less++
		case fixed > 0:
			much++
		}
	}
	if lost < 100 || none < 20 || less < 5 || much < 100 {
		t.Errorf("not enough of each kind: %d, %d, %d, %d", lost, none, less, much)
	}
}

// someWeeks are cuts that can have been made before the week, mostly in good time.
func someWeeks(r *rand.Rand, x table, weather []int, before int) [][]int {
	p := noCuts(x.Game)
	for week := range before {
		for bed := range p {
			h := height(x.Game, weather, p, bed, week)
			if due := h >= x.Season.Ripe; due && r.Intn(3) == 0 || r.Intn(60) == 0 {
				p[bed] = append(p[bed], week)
			}
		}
	}
	return p
}

func TestP11_4_MoveAgreesWithTheDefinitions(t *testing.T) {
	r := rand.New(rand.NewSource(16))
	seen, lengths, since := map[api.Errno]int{}, map[int]int{}, 0
	for _, x := range games(600, 16) {
		lost := x.sure() < 0
		for range 10 {
			weather := x.weathers[r.Intn(len(x.weathers))]
			drawn := weather[:1+r.Intn(len(weather))]
			p := someWeeks(r, x, weather, len(drawn)-1)
			var beds []int
			sum, want := 0, api.ErrFail
			if holds(x.Game, drawn, p) {
				beds, sum = x.move(drawn, p)
				want = api.OK
			}
			if sum < 0 {
				beds, sum, want = nil, 0, api.ErrShort
			}
			l, n, e := plan.Move(x.Game, drawn, p)
			if !slices.Equal(l, beds) || n != sum || e != want {
				t.Fatalf("Move of %v, %v, %v: %v, %d, %v, not %v, %d, %v", x.Game, drawn, p, l, n, e, beds, sum, want)
			}
			seen[want]++
			lengths[len(l)]++
			if lost && e == api.OK {
				since++
			}
		}
	}
	if seen[api.OK] < 1000 || seen[api.ErrFail] < 300 || seen[api.ErrShort] < 300 || lengths[1] < 500 || lengths[2] < 50 || since < 20 {
		t.Errorf("not enough of each kind: %v, %v, %d", seen, lengths, since)
	}
}
