package train_test

import (
	"math/rand"
	"slices"
	"testing"

	"watercress/api"
	"watercress/bunch"
	"watercress/train"
)

// ofChapter is the morning of the chapter's examples, with a minute of the train, and reports.
func ofChapter(minute int, reports ...train.Report) train.Morning {
	day := bunch.Day{Hand: 1, Flat: 4, Women: []bunch.Range{of(10, 10)}, Lots: []bunch.Lot{lot(0, 238, 241)}}
	return train.Morning{Day: day, Load: 2, Start: 100, Train: minute, Out: to(20, 22), Back: to(10, 10), Reports: reports}
}

// ofTruth is a truth of the chapter's morning, with known ways.
func ofTruth(stems, out, back int) train.Truth {
	return train.Truth{Bunch: bunch.Truth{Feels: list(10), Stems: list(stems)}, Out: out, Back: back}
}

// The reports of the chapter's examples: the third one contradicts the first two, since 5 or 6 flats never reach the train of the minute 160.
func first() train.Report  { return report(train.Last, 181, 183) }
func second() train.Report { return report(train.Flats, 5, 5) }
func third() train.Report  { return report(train.Caught, 5, 6) }

// alone is a morning on which flats of one stem each are all that there is; the number of them and the ways are known.
func alone(flats, load, start, minute, out, back int) train.Morning {
	day := bunch.Day{Hand: 1, Flat: 1, Women: []bunch.Range{of(1, 1)}, Lots: []bunch.Lot{lot(0, flats, flats)}}
	return train.Morning{Day: day, Load: load, Start: start, Train: minute, Out: to(out, out), Back: to(back, back)}
}

// only is the truth of a morning that has one alone.
func only(m train.Morning) train.Truth { return choices(m)[0] }

// counted is the morning of the chapter whose day has counts.
func counted(minute int, counts ...bunch.Count) train.Morning {
	m := ofChapter(minute)
	m.Day.Counts = counts
	return m
}

// noTruth is a morning whose day has none.
func noTruth(reports ...train.Report) train.Morning {
	m := counted(160, count(bunch.Flats, 9, 9))
	m.Reports = reports
	return m
}

func TestP6_1_PlayOfTheChapter(t *testing.T) {
	want := train.Run{Flats: 6, Trips: 3, Caught: 4, Last: 186}
	for _, m := range []train.Morning{ofChapter(160), ofChapter(160, first(), second(), third()), counted(160, count(bunch.Hands, 23, 23)), noTruth(third())} {
		if r, e := train.Play(m, ofTruth(241, 22, 10)); r != want || e != api.OK {
			t.Errorf("Play of %v: %v, %v", m, r, e)
		}
	}
}

func TestP6_1_PlayAtTheEdges(t *testing.T) {
	for _, x := range []struct {
		m    train.Morning
		want []int
	}{
		// No flats: nothing is late, whenever the train leaves.
		{alone(0, 3, 50, 60, 9, 9), list(0, 0, 0, 50)}, {alone(0, 3, 50, 0, 9, 9), list(0, 0, 0, 50)}, {alone(0, 1, 600, 0, 60, 60), list(0, 0, 0, 600)},
		// One trip: with one flat, with just a load, and with one more a second trip.
		{alone(1, 3, 50, 59, 9, 9), list(1, 1, 1, 59)}, {alone(3, 3, 50, 59, 9, 9), list(3, 1, 3, 59)}, {alone(4, 3, 50, 59, 9, 9), list(4, 2, 3, 77)}, {alone(6, 3, 50, 77, 9, 9), list(6, 2, 6, 77)}, {alone(7, 3, 50, 77, 9, 9), list(7, 3, 6, 95)},
		// The train leaves in the minute in which a trip arrives, one before it, and one after it.
		{alone(5, 2, 10, 40, 6, 6), list(5, 3, 5, 40)}, {alone(5, 2, 10, 39, 6, 6), list(5, 3, 4, 40)}, {alone(5, 2, 10, 41, 6, 6), list(5, 3, 5, 40)}, {alone(5, 2, 10, 16, 6, 6), list(5, 3, 2, 40)}, {alone(5, 2, 10, 15, 6, 6), list(5, 3, 0, 40)},
		// The train leaves before the boy does.
		{alone(5, 2, 10, 9, 6, 6), list(5, 3, 0, 40)}, {alone(5, 2, 600, 0, 60, 60), list(5, 3, 0, 900)},
		// The ways take no minutes: all are in time, or none.
		{alone(7, 2, 10, 10, 0, 0), list(7, 4, 7, 10)}, {alone(7, 2, 11, 10, 0, 0), list(7, 4, 0, 11)}, {alone(7, 2, 0, 600, 0, 0), list(7, 4, 7, 0)},
		// One of the ways takes none.
		{alone(5, 1, 0, 9, 0, 4), list(5, 5, 3, 16)}, {alone(5, 1, 0, 8, 0, 4), list(5, 5, 3, 16)}, {alone(5, 1, 0, 7, 0, 4), list(5, 5, 2, 16)}, {alone(5, 1, 0, 9, 3, 0), list(5, 5, 3, 15)}, {alone(5, 1, 0, 2, 3, 0), list(5, 5, 0, 15)},
		// The way back of the last trip is not asked.
		{alone(2, 2, 0, 30, 30, 60), list(2, 1, 2, 30)}, {alone(4, 2, 0, 120, 30, 60), list(4, 2, 4, 120)},
		// The last minute can be after MaxTrainMinute.
		{alone(100, 10, 600, 600, 60, 60), list(100, 10, 0, 1740)}, {alone(5000, 1, 600, 600, 60, 60), list(5000, 5000, 0, 600+4999*120+60)}, {alone(5000, 10, 0, 600, 0, 1), list(5000, 500, 5000, 499)},
	} {
		if r, e := train.Play(x.m, only(x.m)); !slices.Equal(numbers(r), x.want) || e != api.OK {
			t.Errorf("Play of %v: %v, %v, not %v", x.m, r, e, x.want)
		}
	}
}

func TestP6_1_FlatsAreThoseOfLayer5(t *testing.T) {
	// 23 and 24 bunches are 7 hands, of which one flat is packed; with the feel 20 there are two.
	day := bunch.Day{Hand: 6, Flat: 4, Women: []bunch.Range{of(20, 22), of(25, 25)}, Lots: []bunch.Lot{lot(0, 500, 502), lot(1, 610, 610)}}
	m := train.Morning{Day: day, Load: 1, Train: 9, Out: to(5, 5), Back: to(5, 5)}
	for _, x := range []struct {
		feel int
		want []int
	}{{21, list(1, 1, 1, 5)}, {20, list(2, 2, 1, 15)}} {
		tr := train.Truth{Bunch: bunch.Truth{Feels: list(x.feel, 25), Stems: list(500, 610)}, Out: 5, Back: 5}
		if r, e := train.Play(m, tr); !slices.Equal(numbers(r), x.want) || e != api.OK {
			t.Errorf("Play of the feel %d: %v, %v, not %v", x.feel, r, e, x.want)
		}
	}
}

func TestP6_1_ProveTruthOfTheChapter(t *testing.T) {
	for _, x := range []struct {
		m    train.Morning
		t    train.Truth
		want bool
	}{
		{ofChapter(160), ofTruth(241, 22, 10), true}, {ofChapter(160), ofTruth(238, 20, 10), true}, {ofChapter(160, third()), ofTruth(241, 22, 10), false}, {ofChapter(160, second()), ofTruth(241, 22, 10), false}, {ofChapter(160, second()), ofTruth(238, 22, 10), true},
		{ofChapter(160, first(), second()), ofTruth(239, 21, 10), true}, {ofChapter(160, first(), second()), ofTruth(239, 22, 10), false}, {ofChapter(160, first(), second()), ofTruth(240, 21, 10), false}, {ofChapter(160, first(), second(), third()), ofTruth(239, 21, 10), false},
		// All counts of the day have to be right.
		{counted(160, count(bunch.Hands, 23, 23)), ofTruth(238, 22, 10), true}, {counted(160, count(bunch.Hands, 23, 23)), ofTruth(240, 22, 10), false}, {counted(160, count(bunch.Spare, 3, 3)), ofTruth(239, 20, 10), true}, {noTruth(), ofTruth(238, 22, 10), false},
		// It must have one number of each range.
		{ofChapter(160), ofTruth(237, 22, 10), false}, {ofChapter(160), ofTruth(242, 22, 10), false}, {ofChapter(160), ofTruth(241, 19, 10), false}, {ofChapter(160), ofTruth(241, 23, 10), false}, {ofChapter(160), ofTruth(241, 22, 9), false}, {ofChapter(160), ofTruth(241, 22, 11), false},
		{ofChapter(160), train.Truth{Bunch: bunch.Truth{Stems: list(241)}, Out: 22, Back: 10}, false}, {ofChapter(160), train.Truth{Bunch: bunch.Truth{Feels: list(10)}, Out: 22, Back: 10}, false}, {ofChapter(160), train.Truth{Bunch: bunch.Truth{Feels: list(10), Stems: list(241, 241)}, Out: 22, Back: 10}, false}, {ofChapter(160), train.Truth{}, false},
		// The morning must be valid.
		{train.Morning{}, train.Truth{}, false}, {alone(0, 1, 0, 0, 0, 0), only(alone(0, 1, 0, 0, 0, 0)), true}, {alone(0, 0, 0, 0, 0, 0), only(alone(0, 0, 0, 0, 0, 0)), false},
	} {
		if train.ProveTruth(x.m, x.t) != x.want {
			t.Errorf("ProveTruth of %v, %v is not %v", x.m, x.t, x.want)
		}
	}
}

func TestP6_1_WhatEachKindReports(t *testing.T) {
	if l := list(train.Flats, train.Trips, train.Caught, train.Last); !slices.Equal(l, list(0, 1, 2, 3)) {
		t.Errorf("the kinds are %v", l)
	}
	// All numbers are different: 7 flats, 4 trips, 6 caught, and the last minute 33.
	m := alone(7, 2, 12, 32, 3, 3)
	for kind, number := range list(7, 4, 6, 33) {
		for n := range 40 {
			m.Reports = []train.Report{report(kind, n, n)}
			if train.ProveTruth(m, only(m)) != (n == number) {
				t.Errorf("ProveTruth with %v is not %v", m.Reports, n == number)
			}
		}
		for _, x := range []struct {
			low, high int
			want      bool
		}{{number - 1, number, true}, {number, number + 1, true}, {0, 3000000, true}, {0, number - 1, false}, {number + 1, 3000000, false}} {
			m.Reports = []train.Report{report(kind, x.low, x.high)}
			if train.ProveTruth(m, only(m)) != x.want {
				t.Errorf("ProveTruth with %v is not %v", m.Reports, x.want)
			}
		}
	}
}

func TestP6_1_CheckMorningPlayAndProveTruthAgreeWithTheDefinitions(t *testing.T) {
	seen := map[bool]int{}
	r := rand.New(rand.NewSource(11))
	for _, m := range mornings(400, 11) {
		if e := train.CheckMorning(m); e != api.OK {
			t.Fatalf("CheckMorning of %v: %v", m, e)
		}
		own := truths(m)
		for _, tr := range choices(m) {
			if w, e := train.Play(m, tr); w != run(m, tr) || e != api.OK {
				t.Fatalf("Play of %v, %v: %v, %v, not %v", m, tr, w, e, run(m, tr))
			}
			is := slices.ContainsFunc(own, func(o train.Truth) bool { return equal(o, tr) })
			if train.ProveTruth(m, tr) != is {
				t.Fatalf("ProveTruth of %v, %v is not %v", m, tr, is)
			}
			seen[is]++
		}
		// One number that is perhaps not of its range.
		tr := choices(m)[0]
		tr.Out += r.Intn(5) - 2
		_, e := train.Play(m, tr)
		if is := has(m.Out, tr.Out); is != (e == api.OK) || !is && (e != api.ErrRange || train.ProveTruth(m, tr)) {
			t.Fatalf("Play, ProveTruth of %v, %v: %v", m, tr, e)
		}
	}
	if seen[true] < 500 || seen[false] < 500 {
		t.Errorf("not enough of each kind: %v", seen)
	}
}

func equal(a, b train.Truth) bool {
	return slices.Equal(a.Bunch.Feels, b.Bunch.Feels) && slices.Equal(a.Bunch.Stems, b.Bunch.Stems) && a.Out == b.Out && a.Back == b.Back
}

func TestP6_2_BoundsAndReachOfTheChapter(t *testing.T) {
	flats, trips := to(5, 6), to(3, 3)
	for _, x := range []struct {
		m     train.Morning
		want  []train.Range
		reach int
	}{
		{ofChapter(160), []train.Range{flats, trips, to(4, 4), to(180, 186)}, train.Never}, {ofChapter(182), []train.Range{flats, trips, to(4, 6), to(180, 186)}, train.Perhaps}, {ofChapter(186), []train.Range{flats, trips, to(5, 6), to(180, 186)}, train.Always},
		{ofChapter(183, first()), []train.Range{flats, trips, to(5, 6), to(183, 183)}, train.Always},
		// One minute before, and after: with the last minute 180, 183 or 186 all are in time, or not.
		{ofChapter(179), []train.Range{flats, trips, to(4, 4), to(180, 186)}, train.Never}, {ofChapter(180), []train.Range{flats, trips, to(4, 6), to(180, 186)}, train.Perhaps}, {ofChapter(185), []train.Range{flats, trips, to(4, 6), to(180, 186)}, train.Perhaps}, {ofChapter(600), []train.Range{flats, trips, to(5, 6), to(180, 186)}, train.Always},
		{ofChapter(182, first()), []train.Range{flats, trips, to(4, 4), to(183, 183)}, train.Never}, {ofChapter(182, report(train.Last, 180, 182)), []train.Range{flats, trips, to(5, 6), to(180, 180)}, train.Always},
		// Of the first trip, which arrives from 120 to 122 on.
		{ofChapter(121), []train.Range{flats, trips, to(0, 2), to(180, 186)}, train.Never}, {ofChapter(119), []train.Range{flats, trips, to(0, 0), to(180, 186)}, train.Never}, {ofChapter(122), []train.Range{flats, trips, to(2, 2), to(180, 186)}, train.Never},
	} {
		b, e := train.Bounds(x.m)
		v, f := train.Reach(x.m)
		if !slices.Equal(ranges(b), x.want) || e != api.OK || v != x.reach || f != api.OK {
			t.Errorf("Bounds, Reach of %v: %v, %v; %d, %v, not %v; %d", x.m, b, e, v, f, x.want, x.reach)
		}
	}
}

func TestP6_2_ReportsAndCountsTellOfWhatTheyDoNotReport(t *testing.T) {
	one := to(3, 3)
	withCount := counted(182, count(bunch.Loose, 0, 0), count(bunch.Spare, 3, 3))
	withBoth := counted(182, count(bunch.Spare, 0, 0))
	withBoth.Reports = []train.Report{report(train.Caught, 4, 5)}
	for _, x := range []struct {
		m     train.Morning
		want  []train.Range
		reach int
	}{
		// 5 that are caught are all, which tells of the last minute; 4 are not all.
		{ofChapter(182, report(train.Caught, 5, 5)), []train.Range{to(5, 5), one, to(5, 5), to(180, 180)}, train.Always}, {ofChapter(182, report(train.Caught, 4, 4)), []train.Range{to(5, 6), one, to(4, 4), to(183, 186)}, train.Never}, {ofChapter(182, report(train.Caught, 4, 5)), []train.Range{to(5, 6), one, to(4, 5), to(180, 186)}, train.Perhaps},
		{withCount, []train.Range{to(5, 5), one, to(4, 5), to(180, 186)}, train.Perhaps}, {withBoth, []train.Range{to(6, 6), one, to(4, 4), to(183, 186)}, train.Never},
		// A report that is right in each truth tells nothing.
		{ofChapter(160, report(train.Last, 0, 3000000), report(train.Trips, 3, 3)), []train.Range{to(5, 6), one, to(4, 4), to(180, 186)}, train.Never},
	} {
		b, e := train.Bounds(x.m)
		v, f := train.Reach(x.m)
		if !slices.Equal(ranges(b), x.want) || e != api.OK || v != x.reach || f != api.OK {
			t.Errorf("Bounds, Reach of %v: %v, %v; %d, %v, not %v; %d", x.m, b, e, v, f, x.want, x.reach)
		}
	}
}

func TestP6_2_WithoutFlatsAllReachTheTrain(t *testing.T) {
	m := alone(0, 1, 600, 0, 60, 60)
	if v, e := train.Reach(m); v != train.Always || e != api.OK {
		t.Errorf("Reach: %d, %v", v, e)
	}
	m.Day.Lots = nil
	if v, e := train.Reach(m); v != train.Always || e != api.OK {
		t.Errorf("Reach without lots: %d, %v", v, e)
	}
	if b, e := train.Bounds(m); !slices.Equal(ranges(b), []train.Range{{}, {}, {}, to(600, 600)}) || e != api.OK {
		t.Errorf("Bounds: %v, %v", b, e)
	}
	// With no flat, or with one that is too late.
	m.Day.Lots = []bunch.Lot{lot(0, 0, 1)}
	if v, e := train.Reach(m); v != train.Perhaps || e != api.OK {
		t.Errorf("Reach of at most one flat: %d, %v", v, e)
	}
	if b, e := train.Bounds(m); !slices.Equal(ranges(b), []train.Range{to(0, 1), to(0, 1), {}, to(600, 660)}) || e != api.OK {
		t.Errorf("Bounds of at most one flat: %v, %v", b, e)
	}
}

func TestP6_2_NumbersOfTheKinds(t *testing.T) {
	if train.Always != 1 || train.Never != 2 || train.Perhaps != 3 {
		t.Errorf("%d, %d, %d", train.Always, train.Never, train.Perhaps)
	}
}

func TestP6_2_BoundsAndReachAgreeWithTheDefinitions(t *testing.T) {
	errors, kinds := map[api.Errno]int{}, map[int]int{}
	for _, m := range mornings(1200, 12) {
		in := truths(m)
		b, e := train.Bounds(m)
		v, f := train.Reach(m)
		errors[e]++
		kinds[v]++
		if len(in) == 0 {
			code := api.ErrFail
			if len(ofDay(m)) == 0 {
				code = api.ErrFalse
			}
			if e != code || f != code {
				t.Fatalf("Bounds, Reach of %v, which has no truth: %v, %v, not %v", m, e, f, code)
			}
			continue
		}
		if want := bounds(m, in); !slices.Equal(ranges(b), want) || e != api.OK {
			t.Fatalf("Bounds of %v: %v, %v, not %v", m, b, e, want)
		}
		if want := reach(m, in); v != want || f != api.OK {
			t.Fatalf("Reach of %v: %d, %v, not %d", m, v, f, want)
		}
	}
	if errors[api.OK] < 300 || errors[api.ErrFail] < 200 || errors[api.ErrFalse] < 20 {
		t.Errorf("not enough of each kind: %v", errors)
	}
	if kinds[train.Always] < 100 || kinds[train.Never] < 100 || kinds[train.Perhaps] < 100 {
		t.Errorf("not enough of each kind: %v", kinds)
	}
}

func TestP6_3_LatestAndLeastOfTheChapter(t *testing.T) {
	for _, x := range []struct {
		m             train.Morning
		latest, least int
	}{
		{ofChapter(160), 74, 3}, {ofChapter(182), 96, 3}, {ofChapter(185), 99, 3}, {ofChapter(186), 100, 2}, {ofChapter(600), 514, 1},
		// Reports are not asked, even if none of them can be true.
		{ofChapter(160, first()), 74, 3}, {ofChapter(160, report(train.Last, 180, 180), report(train.Flats, 5, 5)), 74, 3}, {ofChapter(160, third(), report(train.Flats, 0, 0)), 74, 3},
		// The counts are: 5 flats need one trip less if they are taken singly.
		{counted(122, count(bunch.Hands, 23, 23)), 36, 5}, {ofChapter(122), 36, 6}, {counted(250, count(bunch.Hands, 23, 23)), 164, 1}, {ofChapter(250), 164, 2}, {counted(282, count(bunch.Hands, 24, 24)), 196, 1},
		// The latest minute is 0, and the greatest one.
		{alone(21, 10, 0, 300, 60, 60), 0, 7}, {alone(1, 1, 5, 600, 0, 60), 600, 1}, {alone(1, 1, 5, 600, 1, 60), 599, 1}, {alone(7, 2, 10, 10, 0, 0), 10, 1}, {alone(0, 3, 50, 0, 9, 9), 600, 1}, {alone(10, 1, 0, 9, 9, 0), -1, 10}, {alone(10, 1, 0, 90, 9, 0), 0, 1},
		{alone(11, 1, 0, 9, 9, 0), -1, 11}, {alone(11, 10, 0, 9, 9, 0), -1, 11}, {alone(11, 10, 10, 18, 9, 0), 0, 11}, {alone(1, 1, 10, 18, 9, 0), 9, 11}, {ofChapter(85), -1, 11}, {ofChapter(86), 0, 11}, {ofChapter(121), 35, 11},
	} {
		start, e := train.Latest(x.m)
		load, f := train.Least(x.m)
		if x.latest < 0 && (start != 0 || e != api.ErrShort) || x.latest >= 0 && (start != x.latest || e != api.OK) {
			t.Errorf("Latest of %v: %d, %v, not %d", x.m, start, e, x.latest)
		}
		if x.least > 10 && (load != 0 || f != api.ErrShort) || x.least <= 10 && (load != x.least || f != api.OK) {
			t.Errorf("Least of %v: %d, %v, not %d", x.m, load, f, x.least)
		}
	}
}

func TestP6_3_LeastAsksAllWaysBack(t *testing.T) {
	// With its own load all go in one trip, after which it does not matter how long the way back is; with a smaller one it does.
	for _, x := range []struct {
		back, minute, want int
	}{{0, 30, 1}, {7, 29, 1}, {7, 28, 2}, {8, 30, 2}, {20, 30, 2}, {20, 29, 3}, {20, 55, 1}, {20, 54, 2}, {60, 5, 3}} {
		m := alone(3, 10, 0, x.minute, 5, 0)
		m.Back = to(0, x.back)
		if n, e := train.Least(m); n != x.want || e != api.OK {
			t.Errorf("Least of %v: %d, %v, not %d", m, n, e, x.want)
		}
	}
}

func TestP6_3_LeastDoesNotDependOnTheLoad(t *testing.T) {
	several := 0
	for _, m := range mornings(150, 27) {
		want, code := train.Least(m)
		for m.Load = 1; m.Load <= 10; m.Load++ {
			if n, e := train.Least(m); n != want || e != code {
				t.Fatalf("Least of %v: %d, %v, but %d, %v with another load", m, n, e, want, code)
			}
		}
		if code == api.OK && want > 1 {
			several++
		}
	}
	if several < 20 {
		t.Errorf("only %d mornings need a load of more than one", several)
	}
}

func TestP6_3_LatestDoesNotDependOnTheStart(t *testing.T) {
	several := 0
	for _, m := range mornings(150, 28) {
		want, code := train.Latest(m)
		for m.Start = 0; m.Start <= 600; m.Start += 40 {
			if n, e := train.Latest(m); n != want || e != code {
				t.Fatalf("Latest of %v: %d, %v, but %d, %v with another start", m, n, e, want, code)
			}
		}
		if code == api.OK && want < 600 {
			several++
		}
	}
	if several < 50 {
		t.Errorf("only %d mornings have a latest start before 600", several)
	}
}

func TestP6_3_LatestAndLeastAgreeWithTheDefinitions(t *testing.T) {
	seen := map[string]int{}
	for _, m := range mornings(250, 13) {
		start, e := train.Latest(m)
		load, f := train.Least(m)
		if len(ofDay(m)) == 0 {
			if e != api.ErrFalse || f != api.ErrFalse {
				t.Fatalf("Latest, Least of %v, whose day has no truth: %v, %v", m, e, f)
			}
			continue
		}
		want := latest(m)
		if want < 0 && e != api.ErrShort || want >= 0 && (start != want || e != api.OK) {
			t.Fatalf("Latest of %v: %d, %v, not %d", m, start, e, want)
		}
		seen["latest "+e.Error()]++
		want = least(m)
		if want > 10 && f != api.ErrShort || want <= 10 && (load != want || f != api.OK) {
			t.Fatalf("Least of %v: %d, %v, not %d", m, load, f, want)
		}
		seen["least "+f.Error()]++
		if f == api.OK && load > 1 {
			seen["more than one"]++
		}
		if e == api.OK && start > 0 && start < 600 {
			seen["between"]++
		}
	}
	for kind, many := range map[string]int{"latest cress 0": 100, "latest cress 10": 20, "least cress 0": 50, "least cress 10": 20, "more than one": 40, "between": 60} {
		if seen[kind] < many {
			t.Errorf("not enough of each kind: %v", seen)
		}
	}
}

func TestP6_4_FirstAndLeaveOfTheChapter(t *testing.T) {
	five, six := report(train.Flats, 5, 5), report(train.Flats, 6, 6)
	for _, x := range []struct {
		m     train.Morning
		first int
		e     api.Errno
		leave []int
	}{
		{ofChapter(160), 0, api.ErrNone, nil}, {ofChapter(160, first()), 0, api.ErrNone, nil}, {ofChapter(160, first(), second()), 0, api.ErrNone, nil}, {ofChapter(160, first(), second(), third()), 2, api.OK, list(2)},
		// In no truth 5 or 6 flats are caught, so that this report is false wherever it stands.
		{ofChapter(160, third()), 0, api.OK, list(0)}, {ofChapter(160, third(), first(), second()), 0, api.OK, list(0)}, {ofChapter(160, first(), third(), second()), 1, api.OK, list(1)},
		// Either of two reports can be left out: the first one is; with a third one it is the one that both contradict.
		{ofChapter(160, five, six), 1, api.OK, list(0)}, {ofChapter(160, five, six, report(train.Flats, 0, 5)), 1, api.OK, list(1)}, {ofChapter(160, five, six, report(train.Flats, 6, 9)), 1, api.OK, list(0)}, {ofChapter(160, five, six, six, five), 1, api.OK, list(0, 3)}, {ofChapter(160, five, six, five, five), 1, api.OK, list(1)},
		{ofChapter(160, report(train.Trips, 2, 2), report(train.Last, 184, 185), report(train.Trips, 3, 3)), 0, api.OK, list(0, 1)}, {ofChapter(182, report(train.Caught, 5, 6), report(train.Last, 180, 180), report(train.Last, 186, 186)), 2, api.OK, list(2)},
		// A late trip, and 5 that are caught: the last one contradicts these two only together.
		{ofChapter(182, report(train.Caught, 4, 5), report(train.Last, 180, 182), report(train.Flats, 6, 6)), 2, api.OK, list(0)},
		{ofChapter(160, reports(5, third())...), 0, api.OK, list(0, 1, 2, 3, 4)}, {ofChapter(160, reports(5, five)...), 0, api.ErrNone, nil}, {ofChapter(160, five, five, five, five, third()), 4, api.OK, list(4)},
		// A count of the day is never left out.
		{withReports(counted(160, count(bunch.Hands, 23, 23)), six), 0, api.OK, list(0)}, {withReports(counted(160, count(bunch.Hands, 23, 23)), five, six, six), 1, api.OK, list(1, 2)},
	} {
		n, e := train.First(x.m)
		l, f := train.Leave(x.m)
		if n != x.first || e != x.e || !slices.Equal(l, x.leave) || f != api.OK {
			t.Errorf("First, Leave of %v: %d, %v; %v, %v, not %d, %v; %v", x.m, n, e, l, f, x.first, x.e, x.leave)
		}
	}
}

func withReports(m train.Morning, reports ...train.Report) train.Morning {
	m.Reports = reports
	return m
}

// firstOf tries the reports up to each one; there may be none that is wrong.
func firstOf(m train.Morning) (int, api.Errno) {
	for i := range m.Reports {
		if len(truths(withReports(m, m.Reports[:i+1]...))) == 0 {
			return i, api.OK
		}
	}
	return 0, api.ErrNone
}

// leaveOf tries all lists.
func leaveOf(m train.Morning) []int {
	for _, out := range allLists(len(m.Reports)) {
		if len(truthsBut(m, out)) > 0 {
			return out
		}
	}
	return nil
}

func TestP6_4_FirstAndLeaveAgreeWithTheDefinitions(t *testing.T) {
	seen := map[int]int{}
	for _, m := range mornings(900, 14) {
		n, e := train.First(m)
		l, f := train.Leave(m)
		if len(ofDay(m)) == 0 {
			if e != api.ErrFalse || f != api.ErrFalse {
				t.Fatalf("First, Leave of %v, whose day has no truth: %v, %v", m, e, f)
			}
			continue
		}
		if want, code := firstOf(m); n != want || e != code {
			t.Fatalf("First of %v: %d, %v, not %d, %v", m, n, e, want, code)
		}
		if want := leaveOf(m); !slices.Equal(l, want) || f != api.OK {
			t.Fatalf("Leave of %v: %v, %v, not %v", m, l, f, want)
		}
		seen[len(l)]++
	}
	for length, many := range list(300, 150, 60, 15) {
		if seen[length] < many {
			t.Errorf("not enough of each kind: %v", seen)
		}
	}
}
