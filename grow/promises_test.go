package grow_test

import (
	"slices"
	"testing"

	"watercress/api"
	"watercress/grow"
)

// ofChapter is the season of the chapter's examples, with looks.
func ofChapter(looks ...grow.Look) grow.Season {
	return grow.Season{
		Last: 6, Stub: 2, Ripe: 8, Flower: 14, Knives: 1,
		Light: weeks(3, 3, 3, 4, 4, 4, 4),
		Warm:  []grow.Range{to(3, 3), to(3, 3), to(2, 3), to(3, 3), to(4, 4), to(4, 4), to(4, 4)},
		Beds:  []grow.Bed{{Flow: 4}},
		Looks: looks,
	}
}

// The looks of the chapter's examples: the second one contradicts the first.
func first() grow.Look  { return look(0, 2, 7, 7) }
func second() grow.Look { return look(0, 4, 15, 15) }

// The truths of the season of the chapter.
func cool() grow.Truth { return truth(weeks(3, 3, 2, 3, 4, 4, 4), 0) }
func hot() grow.Truth  { return truth(weeks(3, 3, 3, 3, 4, 4, 4), 0) }

// steady has the Stub 0 and beds that were cut in the week 0; they grow by 5 a week, and are ripe from 5 on.
func steady(last, flower, knives, beds int) grow.Season {
	s := grow.Season{Last: last, Ripe: 5, Flower: flower, Knives: knives}
	for range last + 1 {
		s.Light, s.Warm = append(s.Light, 5), append(s.Warm, to(5, 5))
	}
	for range beds {
		s.Beds = append(s.Beds, grow.Bed{Flow: 5})
	}
	return s
}

func TestP3_1_PlayOfTheChapter(t *testing.T) {
	for _, s := range []grow.Season{ofChapter(), ofChapter(first()), ofChapter(first(), second())} {
		for _, x := range []struct {
			plan []int
			want []int
		}{
			{nil, weeks(2, 5, 7, 10, 14, 18, 22)}, {weeks(3, 5), weeks(2, 5, 7, 10, 6, 10, 6)}, {weeks(6), weeks(2, 5, 7, 10, 14, 18, 22)},
		} {
			if l, e := grow.Play(s, cool(), plan(x.plan)); !sameRows(l, plan(x.want)) || e != api.OK {
				t.Errorf("Play of %v by %v: %v, %v", s, x.plan, l, e)
			}
		}
	}
}

func TestP3_1_PlayGrowsFrom2By3To5(t *testing.T) {
	for _, x := range []struct{ light, warm, flow int }{{3, 9, 9}, {9, 3, 9}, {9, 9, 3}, {3, 3, 3}} {
		s := grow.Season{Last: 1, Stub: 2, Ripe: 1, Flower: 9, Light: weeks(0, x.light), Warm: []grow.Range{to(0, 0), to(x.warm, x.warm)}, Beds: []grow.Bed{{Flow: x.flow}}}
		if l, e := grow.Play(s, truth(weeks(0, x.warm), 0), plan(nil)); !sameRows(l, plan(weeks(2, 5))) || e != api.OK {
			t.Errorf("Play of %v: %v, %v", s, l, e)
		}
	}
}

func TestP3_1_PlayBeforeAndAfterTheCuts(t *testing.T) {
	s := steady(5, 99, 1, 2)
	s.Stub = 3
	s.Beds[0].Cut, s.Beds[1].Cut = to(2, 5), to(0, 3)
	for _, x := range []struct {
		cuts []int
		plan [][]int
		want [][]int
	}{
		{weeks(2, 3), plan(nil, nil), plan(weeks(0, 0, 3, 8, 13, 18), weeks(0, 0, 0, 3, 8, 13))},
		{weeks(5, 0), plan(nil, nil), plan(weeks(0, 0, 0, 0, 0, 3), weeks(3, 8, 13, 18, 23, 28))},
		// A plan that cuts before the truth has the bed cut, or in the same week, changes nothing.
		{weeks(2, 3), plan(weeks(0, 1, 2), weeks(2)), plan(weeks(0, 0, 3, 8, 13, 18), weeks(0, 0, 0, 3, 8, 13))},
		{weeks(2, 0), plan(weeks(1, 3, 5), weeks(0, 3, 4)), plan(weeks(0, 0, 3, 8, 8, 13), weeks(3, 8, 13, 18, 8, 8))},
	} {
		if l, e := grow.Play(s, truth(weeks(5, 5, 5, 5, 5, 5), x.cuts...), x.plan); !sameRows(l, x.want) || e != api.OK {
			t.Errorf("Play of %v by %v: %v, %v, not %v", x.cuts, x.plan, l, e, x.want)
		}
	}
}

func TestP3_1_PlayDoesNotAskWhetherThePlanHolds(t *testing.T) {
	s := steady(2, 5, 0, 2)
	if l, e := grow.Play(s, truth(weeks(5, 5, 5), 0, 0), plan(weeks(1), weeks(1))); !sameRows(l, plan(weeks(0, 5, 5), weeks(0, 5, 5))) || e != api.OK {
		t.Errorf("Play with no knives: %v, %v", l, e)
	}
}

func TestP3_1_ProveTruthOfTheChapter(t *testing.T) {
	for _, x := range []struct {
		s    grow.Season
		t    grow.Truth
		want bool
	}{
		{ofChapter(), cool(), true}, {ofChapter(), hot(), true}, {ofChapter(first()), cool(), true}, {ofChapter(first()), hot(), false},
		{ofChapter(second()), cool(), false}, {ofChapter(second()), hot(), true}, {ofChapter(first(), second()), cool(), false}, {ofChapter(first(), second()), hot(), false},
		{ofChapter(look(0, 2, 7, 8)), hot(), true}, {ofChapter(look(0, 2, 6, 7)), cool(), true}, {ofChapter(look(0, 2, 8, 99)), cool(), false}, {ofChapter(look(0, 2, 0, 6)), cool(), false},
		{ofChapter(), truth(hot().Warm, 1), false}, {ofChapter(), truth(hot().Warm), false}, {ofChapter(), truth(hot().Warm, 0, 0), false}, {ofChapter(), truth(hot().Warm[:6], 0), false},
		{ofChapter(), truth(weeks(3, 3, 4, 3, 4, 4, 4), 0), false}, {ofChapter(), truth(weeks(3, 3, 1, 3, 4, 4, 4), 0), false}, {grow.Season{}, grow.Truth{}, false},
	} {
		if grow.ProveTruth(x.s, x.t) != x.want {
			t.Errorf("ProveTruth of %v, %v is not %v", x.s, x.t, x.want)
		}
	}
}

func TestP3_1_CheckSeasonPlayAndProveTruthAgreeWithTheDefinitions(t *testing.T) {
	for _, s := range seasons(150, 11) {
		if e := grow.CheckSeason(s); e != api.OK {
			t.Fatalf("CheckSeason of %v: %v", s, e)
		}
		all := allLists(s.Last + 1)
		for n, tr := range choices(s) {
			p := noPlan(s)
			for bed := range p {
				p[bed] = all[(n*7+bed*5)%len(all)]
			}
			want := noPlan(s)
			for bed := range want {
				for week := range s.Last + 1 {
					want[bed] = append(want[bed], height(s, tr, p, bed, week))
				}
			}
			if l, e := grow.Play(s, tr, p); !sameRows(l, want) || e != api.OK {
				t.Fatalf("Play of %v, %v, %v: %v, %v, not %v", s, tr, p, l, e, want)
			}
			is := true
			for _, l := range s.Looks {
				is = is && right(s, tr, l)
			}
			if grow.ProveTruth(s, tr) != is {
				t.Fatalf("ProveTruth of %v, %v is not %v", s, tr, is)
			}
		}
	}
}

func TestP3_2_HeightAndRipeOfTheChapter(t *testing.T) {
	for week, x := range []struct {
		height grow.Range
		ripe   int
	}{
		{to(2, 2), grow.Never}, {to(5, 5), grow.Never}, {to(7, 8), grow.Perhaps}, {to(10, 11), grow.Always}, {to(14, 15), grow.Perhaps}, {to(18, 19), grow.Never}, {to(22, 23), grow.Never},
	} {
		r, e := grow.Height(ofChapter(), 0, week)
		v, f := grow.Ripe(ofChapter(), 0, week)
		if r != x.height || e != api.OK || v != x.ripe || f != api.OK {
			t.Errorf("Height, Ripe of the week %d: %v, %v; %d, %v", week, r, e, v, f)
		}
	}
	if v, e := grow.Ripe(ofChapter(first()), 0, 4); v != grow.Always || e != api.OK {
		t.Errorf("Ripe with the look: %d, %v", v, e)
	}
	if r, e := grow.Height(ofChapter(second()), 0, 2); r != to(8, 8) || e != api.OK {
		t.Errorf("Height with a later look: %v, %v", r, e)
	}
}

func TestP3_2_NumbersOfTheKinds(t *testing.T) {
	if grow.Always != 1 || grow.Never != 2 || grow.Perhaps != 3 {
		t.Errorf("%d, %d, %d", grow.Always, grow.Never, grow.Perhaps)
	}
}

func TestP3_2_RipeFromRipeToFlower(t *testing.T) {
	// The heights of the weeks 1 and 2 are 5 and 10.
	for _, x := range []struct{ ripe, flower, one, two int }{
		{5, 9, grow.Always, grow.Never}, {6, 9, grow.Never, grow.Never}, {6, 10, grow.Never, grow.Always}, {5, 10, grow.Always, grow.Always}, {1, 4, grow.Never, grow.Never}, {10, 10, grow.Never, grow.Always}, {11, 99, grow.Never, grow.Never},
	} {
		s := steady(2, x.flower, 1, 1)
		s.Ripe = x.ripe
		one, e := grow.Ripe(s, 0, 1)
		two, f := grow.Ripe(s, 0, 2)
		if one != x.one || e != api.OK || two != x.two || f != api.OK {
			t.Errorf("Ripe of %v: %d, %v; %d, %v", s, one, e, two, f)
		}
	}
}

func TestP3_2_AHighStubIsRipeAtOnce(t *testing.T) {
	s := steady(2, 99, 1, 1)
	s.Stub, s.Beds[0].Cut = 5, to(0, 1)
	for week, want := range []int{grow.Perhaps, grow.Always, grow.Always} {
		if v, e := grow.Ripe(s, 0, week); v != want || e != api.OK {
			t.Errorf("Ripe of the week %d: %d, %v", week, v, e)
		}
	}
}

func TestP3_2_LooksAtOtherBedsCount(t *testing.T) {
	// The bed 1 tells how warm it was for the bed 0 too.
	s := steady(2, 99, 1, 2)
	s.Warm[1] = to(1, 5)
	s.Looks = []grow.Look{look(1, 1, 2, 3)}
	if r, e := grow.Height(s, 0, 2); r != to(7, 8) || e != api.OK {
		t.Errorf("Height: %v, %v", r, e)
	}
	// But not when it was cut.
	s.Beds[0].Cut = to(0, 1)
	if r, e := grow.Height(s, 0, 2); r != to(5, 8) || e != api.OK {
		t.Errorf("Height: %v, %v", r, e)
	}
}

func TestP3_2_HeightAndRipeAgreeWithTheDefinitions(t *testing.T) {
	seen := map[int]int{}
	for _, s := range seasons(400, 12) {
		own := truths(s)
		for bed := range s.Beds {
			for week := range s.Last + 1 {
				r, e := grow.Height(s, bed, week)
				v, f := grow.Ripe(s, bed, week)
				if len(own) == 0 {
					seen[0]++
					if r != (grow.Range{}) || e != api.ErrFalse || v != 0 || f != api.ErrFalse {
						t.Fatalf("Height, Ripe of %v: %v, %v; %d, %v", s, r, e, v, f)
					}
					continue
				}
				height, kind := ends(heights(s, own, bed, week)), ripe(s, own, bed, week)
				seen[kind]++
				if r != height || e != api.OK || v != kind || f != api.OK {
					t.Fatalf("Height, Ripe of %v, %d, %d: %v, %v; %d, %v, not %v; %d", s, bed, week, r, e, v, f, height, kind)
				}
			}
		}
	}
	for v := range 4 {
		if seen[v] < 100 {
			t.Errorf("only %d of the kind %d", seen[v], v)
		}
	}
}

func TestP3_3_BestOfTheChapter(t *testing.T) {
	for _, s := range []grow.Season{ofChapter(), ofChapter(first())} {
		p, n, e := grow.Best(s)
		if n != 2 || e != api.OK || cuts(p) != 2 || !holds(s, truths(s), p) || !grow.ProvePlan(s, p) {
			t.Errorf("Best of %v: %v, %d, %v", s, p, n, e)
		}
	}
}

func TestP3_3_ProvePlanOfTheChapter(t *testing.T) {
	for _, x := range []struct {
		s    grow.Season
		plan [][]int
		want bool
	}{
		{ofChapter(), plan(weeks(3, 5)), true}, {ofChapter(), plan(weeks(3, 6)), true}, {ofChapter(), plan(weeks(3)), true}, {ofChapter(), plan(weeks(4, 6)), false}, {ofChapter(first()), plan(weeks(4, 6)), true},
		{ofChapter(), plan(weeks(2, 5)), false}, {ofChapter(), plan(weeks(3, 4)), false}, {ofChapter(), plan(nil), false}, {ofChapter(), plan(weeks(3, 5), nil), false}, {ofChapter(), nil, false},
		{ofChapter(), plan(weeks(5, 3)), false}, {ofChapter(), plan(weeks(3, 3)), false}, {ofChapter(), plan(weeks(3, 7)), false}, {ofChapter(), plan(weeks(-1, 3)), false},
		{ofChapter(first(), second()), plan(weeks(3, 5)), false}, {grow.Season{}, nil, false},
	} {
		if grow.ProvePlan(x.s, x.plan) != x.want {
			t.Errorf("ProvePlan of %v, %v is not %v", x.s, x.plan, x.want)
		}
	}
}

func TestP3_3_CressThatRunsToFlowerAfterTheLastCutDoesNotHold(t *testing.T) {
	s := steady(4, 14, 1, 1)
	for _, x := range []struct {
		plan []int
		want bool
	}{{weeks(1), false}, {weeks(2), true}, {weeks(1, 2), true}, {weeks(1, 3), true}, {weeks(3), false}, {weeks(1, 4), false}} {
		if grow.ProvePlan(s, plan(x.plan)) != x.want {
			t.Errorf("ProvePlan of %v is not %v", x.plan, x.want)
		}
	}
}

func TestP3_3_Knives(t *testing.T) {
	for _, x := range []struct {
		s    grow.Season
		cuts int
		e    api.Errno
	}{
		{steady(4, 99, 0, 3), 0, api.OK}, {steady(4, 99, 1, 3), 4, api.OK}, {steady(4, 99, 2, 3), 8, api.OK}, {steady(4, 99, 3, 3), 12, api.OK}, {steady(4, 99, 3, 1), 4, api.OK},
		{steady(4, 14, 0, 1), 0, api.ErrShort}, {steady(4, 14, 1, 2), 4, api.OK}, {steady(4, 14, 1, 3), 0, api.ErrShort}, {steady(4, 9, 1, 2), 0, api.ErrShort}, {steady(4, 9, 2, 2), 8, api.OK}, {steady(0, 5, 1, 1), 0, api.OK},
	} {
		p, n, e := grow.Best(x.s)
		if n != x.cuts || e != x.e || e == api.OK && (cuts(p) != n || len(p) != len(x.s.Beds) || !holds(x.s, truths(x.s), p)) || e != api.OK && len(p) > 0 {
			t.Errorf("Best of %v: %v, %d, %v", x.s, p, n, e)
		}
	}
	for knives, want := range []bool{false, true, true} {
		s := steady(3, 99, knives, 2)
		if grow.ProvePlan(s, plan(weeks(1), weeks(2))) != want || grow.ProvePlan(s, plan(weeks(1), weeks(1))) != (knives > 1) {
			t.Errorf("ProvePlan with %d knives", knives)
		}
	}
}

func TestP3_3_BedsTakeTurnsWithOneKnife(t *testing.T) {
	// No bed can wait for more than one week.
	p, n, e := grow.Best(steady(3, 10, 1, 2))
	if n != 3 || e != api.OK || !sameRows(p, plan(weeks(1, 3), weeks(2))) && !sameRows(p, plan(weeks(2), weeks(1, 3))) {
		t.Errorf("Best: %v, %d, %v", p, n, e)
	}
}

func TestP3_3_ACutMayBeTooEarlyForWhatComes(t *testing.T) {
	// After a cut in the week 1 the height is 4 in the week 3, which is too low, and 7 in the week 4, which is too high.
	s := grow.Season{Last: 4, Ripe: 5, Flower: 6, Knives: 1, Light: weeks(0, 5, 1, 3, 3), Warm: slices.Repeat([]grow.Range{to(9, 9)}, 5), Beds: []grow.Bed{{Flow: 9}}}
	if p, n, e := grow.Best(s); !sameRows(p, plan(weeks(2, 4))) || n != 2 || e != api.OK {
		t.Errorf("Best: %v, %d, %v", p, n, e)
	}
}

func TestP3_3_AWeekMayBeTooEarlyInOneTruthAndTooLateInAnother(t *testing.T) {
	s := steady(2, 9, 1, 1)
	s.Warm[1] = to(4, 5)
	if p, n, e := grow.Best(s); len(p) > 0 || n != 0 || e != api.ErrShort {
		t.Errorf("Best: %v, %d, %v", p, n, e)
	}
	for low, cut := range map[int][]int{4: weeks(2), 5: weeks(1, 2)} {
		s.Looks = []grow.Look{look(0, 1, low, low)}
		if p, n, e := grow.Best(s); !sameRows(p, plan(cut)) || n != len(cut) || e != api.OK {
			t.Errorf("Best with the height %d: %v, %d, %v", low, p, n, e)
		}
	}
}

func TestP3_3_BestAndProvePlanAgreeWithTheDefinitions(t *testing.T) {
	seen := map[int]int{}
	for _, s := range shortSeasons(500, 13) {
		own := truths(s)
		p, n, e := grow.Best(s)
		want := most(s, own)
		switch {
		case len(own) == 0:
			seen[-2]++
			if len(p) > 0 || n != 0 || e != api.ErrFalse {
				t.Fatalf("Best of %v: %v, %d, %v", s, p, n, e)
			}
		case want < 0:
			seen[-1]++
			if len(p) > 0 || n != 0 || e != api.ErrShort {
				t.Fatalf("Best of %v: %v, %d, %v", s, p, n, e)
			}
		default:
			seen[want]++
			if n != want || e != api.OK || len(p) != len(s.Beds) || cuts(p) != n || !holds(s, own, p) {
				t.Fatalf("Best of %v: %v, %d, %v, not %d", s, p, n, e, want)
			}
		}
		for _, p := range plans(s) {
			if grow.ProvePlan(s, p) != (len(own) > 0 && holds(s, own, p)) {
				t.Fatalf("ProvePlan of %v, %v", s, p)
			}
		}
	}
	for n := -2; n <= 4; n++ {
		if seen[n] < 5 {
			t.Errorf("only %d seasons with %d cuts", seen[n], n)
		}
	}
}

func TestP3_4_YieldOfTheChapter(t *testing.T) {
	for _, x := range []struct {
		s    grow.Season
		plan []int
		want grow.Range
		e    api.Errno
	}{
		{ofChapter(), weeks(3, 5), to(16, 17), api.OK}, {ofChapter(), weeks(3), to(8, 9), api.OK}, {ofChapter(), weeks(3, 6), to(20, 21), api.OK}, {ofChapter(first()), weeks(4, 6), to(20, 20), api.OK},
		{ofChapter(), weeks(4, 6), to(0, 0), api.ErrFail}, {ofChapter(second()), weeks(4, 6), to(0, 0), api.ErrFail}, {ofChapter(), nil, to(0, 0), api.ErrFail},
	} {
		if r, e := grow.Yield(x.s, plan(x.plan)); r != x.want || e != x.e {
			t.Errorf("Yield of %v, %v: %v, %v", x.s, x.plan, r, e)
		}
	}
}

func TestP3_4_YieldOfAllBedsTogether(t *testing.T) {
	// Where one bed brings more the other brings less, as the bed 1 is cut before and after the week 2.
	s := steady(3, 99, 2, 2)
	s.Warm[2] = to(1, 5)
	if r, e := grow.Yield(s, plan(weeks(1), weeks(3))); r != to(16, 20) || e != api.OK {
		t.Errorf("Yield: %v, %v", r, e)
	}
	s.Beds[0].Cut = to(0, 1)
	if r, e := grow.Yield(s, plan(weeks(3), weeks(3))); r != to(17, 30) || e != api.OK {
		t.Errorf("Yield: %v, %v", r, e)
	}
	if r, e := grow.Yield(s, plan(nil, nil)); r != to(0, 0) || e != api.OK {
		t.Errorf("Yield without cuts: %v, %v", r, e)
	}
}

func TestP3_4_YieldAgreesWithTheDefinition(t *testing.T) {
	hold, wide := 0, 0
	for _, s := range shortSeasons(250, 14) {
		own := truths(s)
		for _, p := range plans(s) {
			r, e := grow.Yield(s, p)
			if len(own) == 0 || !holds(s, own, p) {
				want := api.ErrFail
				if len(own) == 0 {
					want = api.ErrFalse
				}
				if r != (grow.Range{}) || e != want {
					t.Fatalf("Yield of %v, %v: %v, %v", s, p, r, e)
				}
				continue
			}
			hold++
			var all []int
			for _, tr := range own {
				all = append(all, yield(s, tr, p))
			}
			if r != ends(all) || e != api.OK {
				t.Fatalf("Yield of %v, %v: %v, %v, not %v", s, p, r, e, ends(all))
			}
			if r.Lo < r.Hi {
				wide++
			}
		}
	}
	if hold < 500 || wide < 100 {
		t.Errorf("only %d plans hold, %d yields are not exact", hold, wide)
	}
}

func TestP3_5_FirstAndLeaveOfTheChapter(t *testing.T) {
	s := ofChapter(first(), second())
	if n, e := grow.First(s); n != 1 || e != api.OK {
		t.Errorf("First: %d, %v", n, e)
	}
	if l, e := grow.Leave(s); !slices.Equal(l, []int{0}) || e != api.OK {
		t.Errorf("Leave: %v, %v", l, e)
	}
}

func TestP3_5_NothingIsLeftOutOfATruth(t *testing.T) {
	for _, s := range []grow.Season{ofChapter(), ofChapter(first()), ofChapter(second(), second(), second(), second(), second()), ofChapter(look(0, 2, 0, 99), first())} {
		if n, e := grow.First(s); n != 0 || e != api.ErrNone {
			t.Errorf("First of %v: %d, %v", s, n, e)
		}
		if l, e := grow.Leave(s); len(l) > 0 || e != api.OK {
			t.Errorf("Leave of %v: %v, %v", s, l, e)
		}
	}
}

func TestP3_5_FirstOfSeveralSmallestSets(t *testing.T) {
	for _, x := range []struct {
		looks []grow.Look
		first int
		leave []int
	}{
		{[]grow.Look{second(), first()}, 1, []int{0}},
		{[]grow.Look{first(), second(), look(0, 3, 10, 10)}, 1, []int{1}},
		{[]grow.Look{first(), look(0, 5, 0, 17), second()}, 1, []int{0, 1}},
		{[]grow.Look{first(), look(0, 6, 22, 22), look(0, 4, 0, 99), second(), second()}, 3, []int{0, 1}},
		{[]grow.Look{look(0, 0, 3, 9), first(), second()}, 0, []int{0, 1}},
		{[]grow.Look{look(0, 4, 0, 99), look(0, 0, 3, 9)}, 1, []int{1}},
	} {
		s := ofChapter(x.looks...)
		n, e := grow.First(s)
		l, f := grow.Leave(s)
		if n != x.first || e != api.OK || !slices.Equal(l, x.leave) || f != api.OK {
			t.Errorf("First, Leave of %v: %d, %v; %v, %v", s, n, e, l, f)
		}
	}
}

func TestP3_5_AllLooksMayBeFalse(t *testing.T) {
	wrong := look(0, 0, 3, 99)
	s := ofChapter(wrong, wrong, wrong, wrong, wrong)
	if l, e := grow.Leave(s); !slices.Equal(l, []int{0, 1, 2, 3, 4}) || e != api.OK {
		t.Errorf("Leave: %v, %v", l, e)
	}
	if n, e := grow.First(s); n != 0 || e != api.OK {
		t.Errorf("First: %d, %v", n, e)
	}
}
