package deed_test

import (
	"math"
	"math/rand"
	"slices"
	"testing"

	"watercress/api"
	"watercress/deed"
)

// asked is what calls are asked beside the deed.
type asked struct {
	truth                            deed.Truth
	clock, minute, farm, from, count int
}

// answer is what a call returns, whatever it is called: numbers, and the error.
type answer struct {
	name    string
	numbers []int
	e       api.Errno
}

// answers calls everything that has an error, with these arguments.
func answers(d deed.Deed, x asked) []answer {
	var all []answer
	add := func(name string, e api.Errno, numbers ...int) { all = append(all, answer{name, numbers, e}) }
	add("CheckDeed", deed.CheckDeed(d))
	n, e := deed.Turning(d, x.clock)
	add("Turning", e, unlessZero(n)...)
	n, e = deed.Owner(d, x.truth, x.minute)
	add("Owner", e, unlessZero(n)...)
	y, e := deed.Play(d, x.truth)
	add("Play", e, unlessZero(append(y.Due[:], y.Over[:]...)...)...)
	var l []int
	bounds, e := deed.Due(d)
	for _, r := range bounds {
		l = append(l, r.Lo, r.Hi)
	}
	add("Due", e, l...)
	r, e := deed.Over(d, x.farm)
	add("Over", e, unlessZero(r.Lo, r.Hi)...)
	n, e = deed.Guilty(d, x.farm)
	add("Guilty", e, unlessZero(n)...)
	r, e = deed.When(d, x.farm, x.from, x.count)
	add("When", e, unlessZero(r.Lo, r.Hi)...)
	n, e = deed.First(d)
	add("First", e, unlessZero(n)...)
	l, e = deed.Leave(d)
	add("Leave", e, l...)
	return all
}

// unlessZero has the numbers of a result that is not zero.
func unlessZero(l ...int) []int {
	if slices.Equal(l, make([]int, len(l))) {
		return nil
	}
	return l
}

// checkErrors asks for the errors that are named; with each error there must be nothing else.
func checkErrors(t *testing.T, all []answer, want map[string]api.Errno) {
	t.Helper()
	for _, a := range all {
		if e, ok := want[a.name]; ok && a.e != e {
			t.Errorf("%s: %v, not %v", a.name, a.e, e)
		}
		if a.e != api.OK && len(a.numbers) > 0 {
			t.Errorf("%s: %v together with %v", a.name, a.numbers, a.e)
		}
	}
}

func everyCall(e api.Errno) map[string]api.Errno {
	want := map[string]api.Errno{}
	for _, a := range answers(deed.Deed{}, asked{}) {
		want[a.name] = e
	}
	return want
}

// fine is of the chapter's deed with its first two notes; all of it is in range.
func fine() asked {
	return asked{truth: ofTruth(30, 50, 56, 56, 60), clock: 19, minute: 29, farm: 1, from: 25, count: 10}
}

// nowhere has nothing that is in range.
func nowhere() asked { return asked{clock: -1, minute: -1, farm: -1, from: -1, count: -1} }

// tooMany makes the sizes of the stop and of the first note 2, 20, 10 and 6: these are 2400 together.
func tooMany(d *deed.Deed) {
	d.Stops[0], d.Notes[0].Span = span(30, 31, 31, 50), span(70, 79, 80, 85)
}

func TestErrorsOfTheDeed(t *testing.T) {
	for _, x := range []struct {
		what   string
		change func(d *deed.Deed)
		want   api.Errno
	}{
		{"nine turns", func(d *deed.Deed) { d.Turns = turns(0, 0, 1, 1, 2, 2, 3, 0, 4, 1, 5, 2, 6, 0, 7, 1, 8, 2) }, api.ErrLimit},
		{"nine turns that are not valid", func(d *deed.Deed) { d.Turns = make([]deed.Turn, 9) }, api.ErrLimit},
		{"three stops", func(d *deed.Deed) { d.Stops = slices.Repeat([]deed.Span{span(30, 30, 30, 30)}, 3) }, api.ErrLimit},
		{"three stops that are not valid", func(d *deed.Deed) { d.Stops = slices.Repeat([]deed.Span{span(9, 8, 7, 6)}, 3) }, api.ErrLimit},
		{"six notes", func(d *deed.Deed) { d.Notes = notes(6, first()) }, api.ErrLimit},
		{"six notes that are not valid", func(d *deed.Deed) { d.Notes = notes(6, note(3, 9, 8, 7, 6)) }, api.ErrLimit},
		{"nine turns, and the Cycle 0", func(d *deed.Deed) { d.Cycle, d.Turns = 0, make([]deed.Turn, 9) }, api.ErrLimit},
		{"three stops, and no turns", func(d *deed.Deed) { d.Turns, d.Stops = nil, make([]deed.Span, 3) }, api.ErrLimit},
		{"six notes, and the Last 0", func(d *deed.Deed) { d.Last, d.Notes = 0, make([]deed.Note, 6) }, api.ErrLimit},
		{"six notes, and too many truths", func(d *deed.Deed) { tooMany(d); d.Notes = slices.Concat(d.Notes, make([]deed.Note, 4)) }, api.ErrLimit},
		{"the Cycle 0", func(d *deed.Deed) { d.Cycle = 0 }, api.ErrArg},
		{"a Cycle below 0", func(d *deed.Deed) { d.Cycle = -1 }, api.ErrArg},
		{"the least Cycle", func(d *deed.Deed) { d.Cycle = math.MinInt }, api.ErrArg},
		{"the Cycle 1441", func(d *deed.Deed) { d.Cycle = 1441 }, api.ErrArg},
		{"the greatest Cycle", func(d *deed.Deed) { d.Cycle = math.MaxInt }, api.ErrArg},
		{"a Cycle in which the last turn is not", func(d *deed.Deed) { d.Cycle = 45 }, api.ErrArg},
		{"the Last 0", func(d *deed.Deed) { d.Last = 0 }, api.ErrArg},
		{"the Last 0, without stops and notes", func(d *deed.Deed) { d.Last, d.Stops, d.Notes = 0, nil, nil }, api.ErrArg},
		{"a Last below 0", func(d *deed.Deed) { d.Last, d.Stops, d.Notes = -1, nil, nil }, api.ErrArg},
		{"the least Last", func(d *deed.Deed) { d.Last, d.Stops, d.Notes = math.MinInt, nil, nil }, api.ErrArg},
		{"the Last 1441", func(d *deed.Deed) { d.Last = 1441 }, api.ErrArg},
		{"the greatest Last", func(d *deed.Deed) { d.Last = math.MaxInt }, api.ErrArg},
		{"a Last before the end of a note", func(d *deed.Deed) { d.Last = 59 }, api.ErrArg},
		{"a Last before the end of a stop", func(d *deed.Deed) { d.Last, d.Notes = 39, nil }, api.ErrArg},
		{"no turns", func(d *deed.Deed) { d.Turns = nil }, api.ErrArg},
		{"a list of no turns", func(d *deed.Deed) { d.Turns = turns() }, api.ErrArg},
		{"a first turn that is not from 0", func(d *deed.Deed) { d.Turns[0].From = 1 }, api.ErrArg},
		{"a first turn below 0", func(d *deed.Deed) { d.Turns[0].From = -1 }, api.ErrArg},
		{"one turn, which is not from 0", func(d *deed.Deed) { d.Turns = turns(20, 1) }, api.ErrArg},
		{"two turns from 0", func(d *deed.Deed) { d.Turns[1].From = 0 }, api.ErrArg},
		{"two turns from 45", func(d *deed.Deed) { d.Turns[1].From = 45 }, api.ErrArg},
		{"turns that do not rise", func(d *deed.Deed) { d.Turns[1].From = 46 }, api.ErrArg},
		{"a second turn below 0", func(d *deed.Deed) { d.Turns[1].From = math.MinInt }, api.ErrArg},
		{"a turn from Cycle", func(d *deed.Deed) { d.Turns[2].From = 60 }, api.ErrArg},
		{"a turn from the greatest number", func(d *deed.Deed) { d.Turns[2].From = math.MaxInt }, api.ErrArg},
		{"a turn of the farm 3", func(d *deed.Deed) { d.Turns[1].Farm = 3 }, api.ErrArg},
		{"a first turn of the farm 3", func(d *deed.Deed) { d.Turns[0].Farm = 3 }, api.ErrArg},
		{"a turn of a farm below 0", func(d *deed.Deed) { d.Turns[2].Farm = -1 }, api.ErrArg},
		{"a turn of the greatest farm", func(d *deed.Deed) { d.Turns[2].Farm = math.MaxInt }, api.ErrArg},
		{"a From of a stop that is no range", func(d *deed.Deed) { d.Stops[0].From = to(31, 30) }, api.ErrArg},
		{"a From of a stop below 0", func(d *deed.Deed) { d.Stops[0].From = to(-1, 31) }, api.ErrArg},
		{"a Till of a stop that is no range", func(d *deed.Deed) { d.Stops[0].Till = to(41, 40) }, api.ErrArg},
		{"a Till of a stop above Last", func(d *deed.Deed) { d.Stops[0].Till = to(40, 151) }, api.ErrArg},
		{"a From and a Till of a stop above Last", func(d *deed.Deed) { d.Stops[0] = span(151, 151, 151, 151) }, api.ErrArg},
		{"a stop as wide as ints are", func(d *deed.Deed) { d.Stops[0].From = to(math.MinInt, math.MaxInt) }, api.ErrArg},
		{"a From of a stop that can be after its Till", func(d *deed.Deed) { d.Stops[0] = span(30, 32, 31, 40) }, api.ErrArg},
		{"a second stop that is not valid", func(d *deed.Deed) { d.Stops = append(d.Stops, span(45, 44, 46, 46)) }, api.ErrArg},
		{"a second stop that can begin before the end of the first one", func(d *deed.Deed) { d.Stops = append(d.Stops, span(39, 41, 42, 42)) }, api.ErrArg},
		{"stops in the other order", func(d *deed.Deed) { d.Stops = append(d.Stops, span(5, 6, 7, 7)) }, api.ErrArg},
		{"stops without minutes in the other order", func(d *deed.Deed) { d.Stops = []deed.Span{span(9, 9, 9, 9), span(8, 8, 8, 8)} }, api.ErrArg},
		{"a first stop that can end after the second one begins", func(d *deed.Deed) { d.Stops = []deed.Span{span(30, 31, 40, 43), span(42, 42, 44, 44)} }, api.ErrArg},
		{"a note of the farm 3", func(d *deed.Deed) { d.Notes[1].Farm = 3 }, api.ErrArg},
		{"a note of a farm below 0", func(d *deed.Deed) { d.Notes[1].Farm = -1 }, api.ErrArg},
		{"a note of the least farm", func(d *deed.Deed) { d.Notes[0].Farm = math.MinInt }, api.ErrArg},
		{"a From of a note that is no range", func(d *deed.Deed) { d.Notes[1].Span.From = to(56, 55) }, api.ErrArg},
		{"a From of a note below 0", func(d *deed.Deed) { d.Notes[1].Span.From = to(-1, 0) }, api.ErrArg},
		{"a Till of a note that is no range", func(d *deed.Deed) { d.Notes[1].Span.Till = to(60, 59) }, api.ErrArg},
		{"a Till of a note above Last", func(d *deed.Deed) { d.Notes[1].Span.Till = to(150, 151) }, api.ErrArg},
		{"a note as wide as ints are", func(d *deed.Deed) { d.Notes[1].Span.Till = to(math.MinInt, math.MaxInt) }, api.ErrArg},
		{"a From of a note that can be after its Till", func(d *deed.Deed) { d.Notes[1].Span = span(56, 61, 60, 60) }, api.ErrArg},
		{"too many truths", tooMany, api.ErrLimit},
		{"too many truths of a note alone", func(d *deed.Deed) { d.Stops, d.Notes[0].Span = nil, span(0, 49, 50, 99) }, api.ErrLimit},
		{"too many truths of a stop alone", func(d *deed.Deed) { d.Notes, d.Stops[0] = nil, span(0, 49, 50, 99) }, api.ErrLimit},
		{"2001 truths", func(d *deed.Deed) {
			d.Last, d.Notes[0].Span, d.Stops, d.Notes[1].Span = 1440, span(0, 22, 22, 50), nil, span(1000, 1002, 1440, 1440)
		}, api.ErrLimit},
		{"as many truths as there can be", func(d *deed.Deed) {
			d.Last, d.Stops, d.Notes = 1440, nil, notes(5, note(0, 0, 720, 720, 1440))
		}, api.ErrLimit},
		{"sizes whose product is 0 in 64 bits", func(d *deed.Deed) {
			d.Last, d.Stops, d.Notes = 1440, []deed.Span{span(1, 32, 32, 32)}, notes(5, note(0, 1, 512, 512, 1023))
		}, api.ErrLimit},
		{"too many truths, and the Cycle 1441", func(d *deed.Deed) { tooMany(d); d.Cycle = 1441 }, api.ErrArg},
		{"too many truths, and a note that is not valid", func(d *deed.Deed) { tooMany(d); d.Notes[1].Farm = 3 }, api.ErrArg},
		{"too many truths, and a turn that is not valid", func(d *deed.Deed) { tooMany(d); d.Turns[2].From = 20 }, api.ErrArg},
	} {
		d := ofChapter(first(), second())
		x.change(&d)
		t.Run(x.what, func(t *testing.T) {
			// What is asked is wrong too, which does not count before the deed.
			checkErrors(t, answers(d, nowhere()), everyCall(x.want))
			checkErrors(t, answers(d, fine()), everyCall(x.want))
			if deed.ProveTruth(d, fine().truth) || deed.ProveTruth(d, deed.Truth{}) || sizes(d) == 1 && deed.ProveTruth(d, choices(d)[0]) {
				t.Error("proved of a deed that is not valid")
			}
		})
	}
}

func TestLimitsThatAreReached(t *testing.T) {
	for _, x := range []struct {
		what   string
		change func(d *deed.Deed)
	}{
		{"the Cycle 1", func(d *deed.Deed) { d.Cycle, d.Turns = 1, turns(0, 2) }},
		{"the Cycle 1440", func(d *deed.Deed) { d.Cycle = 1440; d.Turns = append(d.Turns, turns(1439, 0)...) }},
		{"a Cycle in which the last turn has one minute", func(d *deed.Deed) { d.Cycle = 46 }},
		{"the Last 1", func(d *deed.Deed) {
			d.Last, d.Stops, d.Notes = 1, []deed.Span{span(0, 1, 1, 1)}, notes(1, note(2, 0, 0, 0, 1))
		}},
		{"the Last 1440", func(d *deed.Deed) { d.Last = 1440; d.Notes[1].Span = span(1440, 1440, 1440, 1440) }},
		{"a Last in which notes and stops just are", func(d *deed.Deed) { d.Last = 60 }},
		{"one turn", func(d *deed.Deed) { d.Turns = turns(0, 1) }},
		{"eight turns", func(d *deed.Deed) { d.Turns = turns(0, 0, 1, 1, 2, 2, 3, 0, 4, 1, 5, 2, 6, 0, 59, 1) }},
		{"two turns of a farm, one after the other", func(d *deed.Deed) { d.Turns[1].Farm = 0 }},
		{"no stops", func(d *deed.Deed) { d.Stops = nil }},
		{"a stop whose From and Till just touch", func(d *deed.Deed) { d.Stops[0] = span(30, 31, 31, 40) }},
		{"two stops that touch", func(d *deed.Deed) { d.Stops = append(d.Stops, span(40, 41, 42, 42)) }},
		{"a stop of no minutes in the midst of nowhere", func(d *deed.Deed) { d.Stops[0] = span(150, 150, 150, 150) }},
		{"all minutes stopped", func(d *deed.Deed) { d.Stops[0] = span(0, 0, 150, 150) }},
		{"no notes", func(d *deed.Deed) { d.Notes = nil }},
		{"five notes", func(d *deed.Deed) { d.Notes = notes(5, second()) }},
		{"notes in any order, one over the other", func(d *deed.Deed) { d.Notes = append(d.Notes, note(0, 0, 1, 149, 150), note(1, 3, 3, 3, 3)) }},
		{"2000 truths", func(d *deed.Deed) { d.Stops[0], d.Notes[0].Span = span(30, 31, 31, 50), span(70, 79, 80, 84) }},
		{"2000 truths of a note alone", func(d *deed.Deed) {
			d.Stops, d.Notes[0].Span, d.Notes[1].Span = nil, span(0, 49, 50, 89), second().Span
		}},
	} {
		d := ofChapter(first(), second())
		x.change(&d)
		t.Run(x.what, func(t *testing.T) {
			checkErrors(t, answers(d, asked{truth: choices(d)[0]}), map[string]api.Errno{"CheckDeed": api.OK, "Turning": api.OK, "Owner": api.OK, "Play": api.OK, "Leave": api.OK})
		})
	}
}

func TestErrRangeOfTurning(t *testing.T) {
	for _, d := range []deed.Deed{ofChapter(), ofChapter(first()), noTruth(), plain(7, 9, turns(0, 2))} {
		for clock, want := range map[int]api.Errno{-1: api.ErrRange, 0: api.OK, 8: api.OK, 10: api.OK, 150: api.OK, 1440: api.OK, 1441: api.ErrRange, math.MinInt: api.ErrRange, math.MaxInt: api.ErrRange} {
			checkErrors(t, answers(d, asked{clock: clock}), map[string]api.Errno{"CheckDeed": api.OK, "Turning": want})
			if t.Failed() {
				t.Fatalf("Turning of %v, %d", d, clock)
			}
		}
	}
}

func TestErrRangeOfPlayAndOwner(t *testing.T) {
	one := times(50, 57)
	for _, tr := range []deed.Truth{
		{}, {Stops: times(30, 40)}, {Notes: one}, {Stops: one, Notes: times(30, 40)}, {Stops: times(30, 40, 40, 40), Notes: one}, {Stops: times(30, 40), Notes: times(50, 57, 50, 57)}, {Stops: times(30, 40, 50, 57)},
		ofTruth(29, 50, 57), ofTruth(32, 50, 57), ofTruth(30, 49, 57), ofTruth(30, 51, 57), ofTruth(30, 50, 55), ofTruth(30, 50, 58), ofTruth(30, 57, 50), {Stops: times(30, 39), Notes: one}, {Stops: times(30, 41), Notes: one}, {Stops: times(40, 30), Notes: one},
		ofTruth(math.MinInt, 50, 57), ofTruth(math.MaxInt, 50, 57), ofTruth(30, math.MinInt, math.MaxInt), ofTruth(30, 50, math.MaxInt), {Stops: times(math.MinInt, math.MaxInt), Notes: one},
	} {
		for _, d := range []deed.Deed{ofChapter(first()), ofChapter(note(1, 50, 50, 57, 57))} {
			checkErrors(t, answers(d, asked{truth: tr, minute: 3}), map[string]api.Errno{"CheckDeed": api.OK, "Play": api.ErrRange, "Owner": api.ErrRange})
			if t.Failed() || deed.ProveTruth(d, tr) {
				t.Fatalf("Play, Owner, ProveTruth of %v, %v", d, tr)
			}
		}
	}
	for minute, want := range map[int]api.Errno{-1: api.ErrRange, 0: api.OK, 35: api.OK, 149: api.OK, 150: api.ErrRange, 1440: api.ErrRange, math.MinInt: api.ErrRange, math.MaxInt: api.ErrRange} {
		checkErrors(t, answers(ofChapter(first()), asked{truth: ofTruth(30, 50, 57), minute: minute}), map[string]api.Errno{"Play": api.OK, "Owner": want})
		checkErrors(t, answers(noTruth(), asked{truth: ofTruth(30, 50, 57, 56, 60, 58, 59), minute: minute}), map[string]api.Errno{"Play": api.OK, "Owner": want})
		checkErrors(t, answers(noTruth(), asked{minute: minute}), map[string]api.Errno{"Play": api.ErrRange, "Owner": api.ErrRange})
	}
}

func TestErrRangeComesBeforeErrFalse(t *testing.T) {
	for _, d := range []deed.Deed{ofChapter(first()), noTruth()} {
		for _, n := range list(-1, 3, math.MinInt, math.MaxInt) {
			checkErrors(t, answers(d, asked{farm: n}), map[string]api.Errno{"Over": api.ErrRange, "Guilty": api.ErrRange, "When": api.ErrRange})
		}
		for _, n := range list(-1, 151, 1440, math.MinInt, math.MaxInt) {
			checkErrors(t, answers(d, asked{from: n}), map[string]api.Errno{"When": api.ErrRange})
		}
		for _, n := range list(-1, 1441, math.MinInt, math.MaxInt) {
			checkErrors(t, answers(d, asked{count: n}), map[string]api.Errno{"When": api.ErrRange})
		}
	}
	for farm := range 3 {
		for _, x := range [][2]int{{0, 0}, {150, 0}, {0, 1440}, {150, 1440}} {
			ask := asked{farm: farm, from: x[0], count: x[1]}
			checkErrors(t, answers(noTruth(), ask), map[string]api.Errno{"Due": api.ErrFalse, "Over": api.ErrFalse, "Guilty": api.ErrFalse, "When": api.ErrFalse, "First": api.OK, "Leave": api.OK})
			want := map[string]api.Errno{"Due": api.OK, "Over": api.OK, "Guilty": api.OK, "When": api.OK, "First": api.ErrNone, "Leave": api.OK}
			if x[1] > 0 {
				want["When"] = api.ErrShort
			}
			checkErrors(t, answers(ofChapter(first()), ask), want)
		}
	}
}

func TestErrShortOfWhen(t *testing.T) {
	// In the truth in which the stop begins at 31 there are 51 minutes of the farm 1, in the other one there are 50.
	known := note(1, 30, 30, 31, 31)
	for _, x := range []struct {
		d                deed.Deed
		farm, from, many int
		want             api.Errno
	}{
		{ofChapter(), 1, 0, 50, api.OK}, {ofChapter(), 1, 0, 51, api.ErrShort}, {ofChapter(known), 1, 0, 51, api.OK}, {ofChapter(known), 1, 0, 52, api.ErrShort}, {ofChapter(known), 1, 21, 51, api.ErrShort}, {ofChapter(known), 1, 20, 51, api.OK},
		{ofChapter(), 0, 0, 60, api.OK}, {ofChapter(), 0, 0, 61, api.ErrShort}, {ofChapter(), 2, 0, 31, api.ErrShort}, {ofChapter(), 0, 150, 1, api.ErrShort}, {ofChapter(), 0, 150, 0, api.OK}, {ofChapter(), 0, 149, 1, api.ErrShort},
		// A farm without turns has had no minute, and all but that.
		{plain(9, 1440, turns(0, 1)), 0, 0, 0, api.OK}, {plain(9, 1440, turns(0, 1)), 0, 0, 1, api.ErrShort}, {plain(9, 1440, turns(0, 1)), 1, 0, 1440, api.OK}, {plain(9, 1440, turns(0, 1)), 1, 1, 1440, api.ErrShort}, {plain(9, 1439, turns(0, 1)), 1, 0, 1440, api.ErrShort},
	} {
		checkErrors(t, answers(x.d, asked{farm: x.farm, from: x.from, count: x.many}), map[string]api.Errno{"When": x.want})
		if t.Failed() {
			t.Fatalf("When of %v, %d, %d, %d", x.d, x.farm, x.from, x.many)
		}
	}
}

// wildNumber is near a limit, or far from all of them.
func wildNumber(r *rand.Rand) int {
	l := list(math.MinInt, -2, -1, 0, 1, 2, 3, 4, 9, 10, 20, 44, 45, 1439, 1440, 1441, math.MaxInt)
	return l[r.Intn(len(l))]
}

func wildRange(r *rand.Rand) deed.Range {
	if r.Intn(2) == 0 {
		return to(wildNumber(r), wildNumber(r))
	}
	low := r.Intn(40) - 1
	return to(low, low+r.Intn(12)-1)
}

func wildDeed(r *rand.Rand) deed.Deed {
	d := bareDeed(r)
	addNotes(r, &d, r.Intn(4), r.Intn(2) == 0)
	for range r.Intn(3) {
		switch n := r.Intn(len(d.Turns)); r.Intn(9) {
		case 0:
			d.Cycle = wildNumber(r)
		case 1:
			d.Last = wildNumber(r)
		case 2:
			d.Turns[n].From = wildNumber(r)
		case 3:
			d.Turns[n].Farm = wildNumber(r)
		case 4:
			d.Turns = append(d.Turns, slices.Repeat(d.Turns, r.Intn(5))...)
		case 5:
			d.Stops = append(d.Stops, deed.Span{From: wildRange(r), Till: wildRange(r)})
		case 6:
			d.Notes = append(d.Notes, deed.Note{Farm: wildNumber(r), Span: deed.Span{From: wildRange(r), Till: wildRange(r)}})
		case 7:
			d.Notes = append(d.Notes, notes(r.Intn(5), note(r.Intn(4)-1, 0, 0, d.Last, d.Last))...)
		case 8:
			d.Notes = append(d.Notes, note(0, 0, r.Intn(20), 20, 20+r.Intn(100)))
			d.Last = max(d.Last, 120)
		}
	}
	return d
}

func isRange(r deed.Range, low, high int) bool { return r.Lo >= low && r.Hi <= high && r.Lo <= r.Hi }

// checked says what CheckDeed has to return, in the words of the chapter.
func checked(d deed.Deed) api.Errno {
	if len(d.Turns) > 8 || len(d.Stops) > 2 || len(d.Notes) > 5 {
		return api.ErrLimit
	}
	ok := d.Cycle >= 1 && d.Cycle <= 1440 && d.Last >= 1 && d.Last <= 1440 && len(d.Turns) >= 1
	for i, x := range d.Turns {
		ok = ok && x.From >= 0 && x.From <= d.Cycle-1 && x.Farm >= 0 && x.Farm <= 2 && (i > 0 || x.From == 0) && (i == 0 || x.From > d.Turns[i-1].From)
	}
	many := 1.0
	for _, s := range spans(d) {
		ok = ok && isRange(s.From, 0, d.Last) && isRange(s.Till, 0, d.Last) && s.From.Hi <= s.Till.Lo
		many *= (float64(s.From.Hi) - float64(s.From.Lo) + 1) * (float64(s.Till.Hi) - float64(s.Till.Lo) + 1)
	}
	ok = ok && (len(d.Stops) < 2 || d.Stops[0].Till.Hi <= d.Stops[1].From.Lo)
	for _, what := range d.Notes {
		ok = ok && what.Farm >= 0 && what.Farm <= 2
	}
	switch {
	case !ok:
		return api.ErrArg
	case many > 2000:
		return api.ErrLimit
	}
	return api.OK
}

func wildTimes(r *rand.Rand, many int) []deed.Time {
	var l []int
	for range 2 * many {
		l = append(l, wildNumber(r))
	}
	return times(l...)
}

func TestP1_AnyArguments(t *testing.T) {
	r := rand.New(rand.NewSource(1))
	seen := map[api.Errno]int{}
	for range 4000 {
		d := wildDeed(r)
		ask := asked{deed.Truth{Stops: wildTimes(r, r.Intn(4)), Notes: wildTimes(r, r.Intn(7))}, wildNumber(r), wildNumber(r), wildNumber(r), wildNumber(r), wildNumber(r)}
		if r.Intn(2) == 0 {
			ask.truth = deed.Truth{Stops: wildTimes(r, len(d.Stops)), Notes: wildTimes(r, len(d.Notes))}
		}
		want := checked(d)
		seen[want]++
		if e := deed.CheckDeed(d); e != want {
			t.Fatalf("CheckDeed of %v: %v, not %v", d, e, want)
		}
		all, proved := answers(d, ask), deed.ProveTruth(d, ask.truth)
		if want != api.OK {
			checkErrors(t, all, everyCall(want))
			if proved {
				t.Fatalf("%v, %v is proved", d, ask.truth)
			}
		}
		checkErrors(t, all, nil)
		if t.Failed() {
			t.Fatalf("with %v, %v", d, ask)
		}
	}
	if seen[api.OK] < 300 || seen[api.ErrArg] < 300 || seen[api.ErrLimit] < 300 {
		t.Errorf("not enough of each kind: %v", seen)
	}
}

func TestP1_TheLargestDeeds(t *testing.T) {
	// The farm 1 has 960 of 1440 minutes; 2000 truths have 0 to 19 minutes less, in the turn of the farm 0.
	d := deed.Deed{Cycle: 1440, Last: 1440, Turns: turns(0, 0, 480, 1), Stops: []deed.Span{span(0, 0, 0, 9), span(400, 400, 400, 409)}, Notes: []deed.Note{note(1, 600, 603, 1436, 1440)}}
	if l, e := deed.Due(d); !slices.Equal(l, []deed.Range{to(480, 480), to(942, 960), to(0, 0)}) || e != api.OK {
		t.Errorf("Due: %v, %v", l, e)
	}
	if w, e := deed.When(d, 1, 0, 942); w != to(1422, 1440) || e != api.OK {
		t.Errorf("When: %v, %v", w, e)
	}
	if w, e := deed.When(d, 1, 0, 943); w != to(0, 0) || e != api.ErrShort {
		t.Errorf("When of one minute more: %v, %v", w, e)
	}
	d.Notes[0].Farm = 0
	if r, e := deed.Over(d, 0); r != to(833, 840) || e != api.OK {
		t.Errorf("Over: %v, %v", r, e)
	}
	// Five notes of two farms, of which those of one farm have to be left out.
	long := note(0, 600, 601, 700, 701)
	d.Stops = []deed.Span{span(0, 0, 0, 1)}
	d.Notes = []deed.Note{long, note(1, 601, 602, 698, 699), long, note(1, 690, 691, 900, 901), note(0, 650, 650, 651, 651)}
	if l, e := deed.Leave(d); !slices.Equal(l, list(1, 3)) || e != api.OK {
		t.Errorf("Leave: %v, %v", l, e)
	}
	if n, e := deed.First(d); n != 1 || e != api.OK {
		t.Errorf("First: %d, %v", n, e)
	}
}

func TestR3_EmptyIsNil(t *testing.T) {
	d := plain(10, 25, turns(0, 0, 4, 2))
	g := d
	g.Stops, g.Notes = []deed.Span{}, []deed.Note{}
	empty := deed.Truth{Stops: []deed.Time{}, Notes: []deed.Time{}}
	a, b := answers(d, asked{farm: 2, from: 3, count: 8}), answers(g, asked{truth: empty, farm: 2, from: 3, count: 8})
	for i := range a {
		if a[i].e != b[i].e || !slices.Equal(a[i].numbers, b[i].numbers) {
			t.Errorf("%s: %v, and %v of lists without elements", a[i].name, a[i], b[i])
		}
	}
	if !deed.ProveTruth(d, empty) || !deed.ProveTruth(g, deed.Truth{}) {
		t.Error("nil and a list without elements are not the same")
	}
}

func TestR4_ArgumentsAreNotWrittenTo(t *testing.T) {
	for _, d := range deeds(150, 4) {
		was := copied(d)
		tr := choices(d)[0]
		stops, taken := slices.Clone(tr.Stops), slices.Clone(tr.Notes)
		ask := asked{truth: tr, count: 1}
		before := answers(d, ask)
		deed.ProveTruth(d, tr)
		if !same(d, was) || !slices.Equal(tr.Stops, stops) || !slices.Equal(tr.Notes, taken) {
			t.Fatalf("%v became %v, or %v was written to", was, d, tr)
		}
		for i, a := range answers(d, ask) {
			if a.e != before[i].e || !slices.Equal(a.numbers, before[i].numbers) {
				t.Fatalf("%s of %v: %v, and then %v", a.name, d, before[i], a)
			}
		}
	}
}

func TestR4_ListsWithRoomAreNotWrittenTo(t *testing.T) {
	// Behind each list there is memory that belongs to somebody else.
	d := ofChapter(first(), second())
	given, stops, said := append(d.Turns, turns(9, 9)...), append(d.Stops, span(9, 9, 9, 9)), append(d.Notes, note(9, 9, 9, 9, 9))
	stopped, taken := times(30, 40, 99, 99), times(50, 56, 56, 60, 99, 99)
	d.Turns, d.Stops, d.Notes = given[:3], stops[:1], said[:2]
	ask := fine()
	ask.truth = deed.Truth{Stops: stopped[:1], Notes: taken[:2]}
	checkErrors(t, answers(d, ask), map[string]api.Errno{"Play": api.OK, "Owner": api.OK})
	if !deed.ProveTruth(d, ask.truth) {
		t.Errorf("%v, %v is not proved", d, ask.truth)
	}
	if given[3] != (deed.Turn{From: 9, Farm: 9}) || stops[1] != span(9, 9, 9, 9) || said[2] != note(9, 9, 9, 9, 9) || stopped[1] != (deed.Time{From: 99, Till: 99}) || taken[2] != stopped[1] {
		t.Errorf("%v, %v, %v, %v or %v was written to", given, stops, said, stopped, taken)
	}
}

func TestR4_ResultsAreInMemoryOfTheirOwn(t *testing.T) {
	d := ofChapter(note(1, 35, 35, 36, 36), first(), note(0, 35, 35, 36, 36))
	l, e := deed.Leave(d)
	if !slices.Equal(l, list(0, 2)) || e != api.OK {
		t.Fatalf("Leave: %v, %v", l, e)
	}
	l[0], l[1] = 99, 99
	_ = append(l, 98)
	if again, e := deed.Leave(d); !slices.Equal(again, list(0, 2)) || e != api.OK {
		t.Errorf("Leave, after its result was written to: %v, %v", again, e)
	}
	due, e := deed.Due(ofChapter())
	if len(due) != 3 || e != api.OK {
		t.Fatalf("Due: %v, %v", due, e)
	}
	due[0] = to(99, 99)
	_ = append(due, to(98, 98))
	if again, e := deed.Due(ofChapter()); !slices.Equal(again, []deed.Range{to(60, 60), to(50, 51), to(30, 30)}) || e != api.OK {
		t.Errorf("Due, after its result was written to: %v, %v", again, e)
	}
}

func TestExampleOfTheReadme(t *testing.T) {
	share := deed.Deed{
		Cycle: 60, Last: 150,
		Turns: []deed.Turn{{From: 0, Farm: 0}, {From: 20, Farm: 1}, {From: 45, Farm: 2}},
		Stops: []deed.Span{{From: deed.Range{Lo: 30, Hi: 31}, Till: deed.Range{Lo: 40, Hi: 40}}},
		Notes: []deed.Note{{Farm: 1, Span: deed.Span{From: deed.Range{Lo: 50, Hi: 50}, Till: deed.Range{Lo: 54, Hi: 57}}}},
	}
	if n, e := deed.Turning(share, 105); n != 2 || e != api.OK {
		t.Errorf("Turning: %d, %v", n, e)
	}
	if l, e := deed.Due(share); !slices.Equal(l, []deed.Range{to(60, 60), to(50, 51), to(30, 30)}) || e != api.OK {
		t.Errorf("Due: %v, %v", l, e)
	}
	if v, e := deed.Guilty(share, 1); v != deed.Perhaps || e != api.OK {
		t.Errorf("Guilty: %d, %v", v, e)
	}
	if r, e := deed.Over(share, 1); r != to(0, 3) || e != api.OK {
		t.Errorf("Over: %v, %v", r, e)
	}
	if r, e := deed.When(share, 1, 25, 10); r != to(44, 45) || e != api.OK {
		t.Errorf("When: %v, %v", r, e)
	}
	if l, e := deed.Leave(share); len(l) > 0 || e != api.OK {
		t.Errorf("Leave: %v, %v", l, e)
	}
}
