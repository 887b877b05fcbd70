package drain_test

import (
	"math"
	"math/rand"
	"slices"
	"testing"

	"watercress/api"
	"watercress/bed"
	"watercress/drain"
)

// asked is what calls are asked beside the foul.
type asked struct {
	truth     drain.Truth
	bed, hour int
}

// answer is what a call returns, whatever it is called: numbers, and the error.
type answer struct {
	name    string
	numbers []int
	e       api.Errno
}

// answers calls everything that has an error, with these arguments.
func answers(f drain.Foul, x asked) []answer {
	var all []answer
	add := func(name string, e api.Errno, numbers ...int) { all = append(all, answer{name, numbers, e}) }
	add("CheckFoul", drain.CheckFoul(f))
	l, e := drain.Play(f, x.truth)
	add("Play", e, l...)
	n, e := drain.Reached(f, x.bed, x.hour)
	add("Reached", e, unlessZero(n)...)
	n, e = drain.Earliest(f, x.bed)
	add("Earliest", e, unlessZero(n)...)
	l, e = drain.Drains(f)
	add("Drains", e, l...)
	n, e = drain.First(f)
	add("First", e, unlessZero(n)...)
	l, e = drain.Leave(f)
	add("Leave", e, l...)
	return all
}

// unlessZero has the number of a result that is not zero.
func unlessZero(n int) []int {
	if n == 0 {
		return nil
	}
	return list(n)
}

// checkErrors asks for the errors that are named; with each error there must be nothing else.
func checkErrors(t *testing.T, all []answer, want map[string]api.Errno) {
	t.Helper()
	for _, a := range all {
		if e, ok := want[a.name]; ok && a.e != e {
			t.Errorf("%s: %v, not %v", a.name, a.e, e)
		}
		if a.e != api.OK && len(a.numbers) > 0 {
			t.Errorf("%s: %v together with %v", a.name, a.numbers, a.e)
		}
	}
}

func everyCall(e api.Errno) map[string]api.Errno {
	want := map[string]api.Errno{}
	for _, a := range answers(drain.Foul{}, asked{}) {
		want[a.name] = e
	}
	return want
}

// fine is of the chapter's foul; all of it is in range.
func fine() asked {
	return asked{truth: truth(list(5, 6), list(1, 1, 2, 0), 0, 4), bed: 2, hour: 6}
}

// nowhere has nothing that is in range.
func nowhere() asked { return asked{bed: -1, hour: -1} }

// tooMany makes the sizes of the flows, of the hours and of the openings 4, 7 times 6 times 4, and 3: these are 2016 together.
func tooMany(f *drain.Foul) { f.Hours = ranges(0, 6, 0, 5, 0, 3, 0, 0) }

// widest is as wide as ints are.
func widest() drain.Range { return to(math.MinInt, math.MaxInt) }

func TestErrorsOfTheFoul(t *testing.T) {
	for _, x := range []struct {
		what   string
		change func(f *drain.Foul)
		want   api.Errno
	}{
		{"nine beds", func(f *drain.Foul) { f.Farm.Beds = make([]bed.Bed, 9) }, api.ErrLimit},
		{"five springs", func(f *drain.Foul) { f.Farm.Springs = make([]bed.Spring, 5) }, api.ErrLimit},
		{"six looks", func(f *drain.Foul) { f.Farm.Looks = make([]bed.Look, 6) }, api.ErrLimit},
		{"no beds", func(f *drain.Foul) { f.Farm.Beds, f.Hours = nil, nil }, api.ErrArg},
		{"a bed that is its own Down", func(f *drain.Foul) { f.Farm.Beds[3].Down = 3 }, api.ErrArg},
		{"a spring of no bed", func(f *drain.Foul) { f.Farm.Springs[0].Bed = 4 }, api.ErrArg},
		{"a look at no bed", func(f *drain.Foul) { f.Farm.Looks = []bed.Look{over(4, 0, 0)} }, api.ErrArg},
		{"too many truths of the farm", func(f *drain.Foul) {
			f.Farm.Springs = []bed.Spring{spring(0, 0, 30), spring(0, 0, 30), spring(0, 0, 2)}
		}, api.ErrLimit},
		{"no beds, and the Last 25", func(f *drain.Foul) { f.Farm.Beds, f.Last = nil, 25 }, api.ErrArg},
		{"a spring of no bed, and five drains", func(f *drain.Foul) { f.Farm.Springs[0].Bed, f.Drains = 4, make([]drain.Drain, 5) }, api.ErrArg},
		{"too many truths of the farm, and no drains", func(f *drain.Foul) {
			f.Farm.Springs, f.Drains = []bed.Spring{spring(0, 0, 30), spring(0, 0, 30), spring(0, 0, 2)}, nil
		}, api.ErrLimit},
		{"nine beds, and no hours", func(f *drain.Foul) { f.Farm.Beds, f.Hours = make([]bed.Bed, 9), nil }, api.ErrLimit},
		{"the Last 25", func(f *drain.Foul) { f.Last = 25 }, api.ErrLimit},
		{"the greatest Last", func(f *drain.Foul) { f.Last = math.MaxInt }, api.ErrLimit},
		{"five drains", func(f *drain.Foul) { f.Drains = make([]drain.Drain, 5) }, api.ErrLimit},
		{"five drains that are not valid", func(f *drain.Foul) { f.Drains = slices.Repeat([]drain.Drain{opened(9, 9, 8)}, 5) }, api.ErrLimit},
		{"seven cases", func(f *drain.Foul) { f.Cases = fevers(7, fever(0, 0)) }, api.ErrLimit},
		{"seven cases that are not valid", func(f *drain.Foul) { f.Cases = fevers(7, fever(9, 99)) }, api.ErrLimit},
		{"the Last 25, and no hours", func(f *drain.Foul) { f.Last, f.Hours = 25, nil }, api.ErrLimit},
		{"the Last 25, and no drains", func(f *drain.Foul) { f.Last, f.Drains = 25, nil }, api.ErrLimit},
		{"five drains, and a Last below 0", func(f *drain.Foul) { f.Last, f.Drains = -1, make([]drain.Drain, 5) }, api.ErrLimit},
		{"seven cases, and hours that are no range", func(f *drain.Foul) { f.Hours[0], f.Cases = to(2, 1), fevers(7, fever(0, 0)) }, api.ErrLimit},
		{"seven cases, and no drains", func(f *drain.Foul) { f.Drains, f.Cases = nil, fevers(7, fever(0, 0)) }, api.ErrLimit},
		{"a Last below 0", func(f *drain.Foul) { f.Last = -1 }, api.ErrArg},
		{"the least Last", func(f *drain.Foul) { f.Last = math.MinInt }, api.ErrArg},
		{"a Last before the drain is opened", func(f *drain.Foul) { f.Last = 3 }, api.ErrArg},
		{"a Last before the case", func(f *drain.Foul) { f.Last = 4 }, api.ErrArg},
		{"no hours", func(f *drain.Foul) { f.Hours = nil }, api.ErrArg},
		{"hours of three beds", func(f *drain.Foul) { f.Hours = f.Hours[:3] }, api.ErrArg},
		{"hours of five beds", func(f *drain.Foul) { f.Hours = append(f.Hours, to(0, 0)) }, api.ErrArg},
		{"hours of many beds", func(f *drain.Foul) { f.Hours = make([]drain.Range, 10000) }, api.ErrArg},
		{"hours that are no range", func(f *drain.Foul) { f.Hours[0] = to(2, 1) }, api.ErrArg},
		{"hours below 0", func(f *drain.Foul) { f.Hours[3] = to(-1, 0) }, api.ErrArg},
		{"hours above 6", func(f *drain.Foul) { f.Hours[3] = to(6, 7) }, api.ErrArg},
		{"the widest hours", func(f *drain.Foul) { f.Hours[3] = widest() }, api.ErrArg},
		{"no drains", func(f *drain.Foul) { f.Drains = nil }, api.ErrArg},
		{"a drain of no bed", func(f *drain.Foul) { f.Drains[0].Bed = 4 }, api.ErrArg},
		{"a drain of a bed below 0", func(f *drain.Foul) { f.Drains[1].Bed = -1 }, api.ErrArg},
		{"a drain of the least bed", func(f *drain.Foul) { f.Drains[1].Bed = math.MinInt }, api.ErrArg},
		{"a drain of the greatest bed", func(f *drain.Foul) { f.Drains[1].Bed = math.MaxInt }, api.ErrArg},
		{"an Opened that is no range", func(f *drain.Foul) { f.Drains[0].Opened = to(3, 2) }, api.ErrArg},
		{"an Opened below 0", func(f *drain.Foul) { f.Drains[0].Opened = to(-1, 2) }, api.ErrArg},
		{"an Opened after Last", func(f *drain.Foul) { f.Drains[1].Opened = to(12, 13) }, api.ErrArg},
		{"the widest Opened", func(f *drain.Foul) { f.Drains[1].Opened = widest() }, api.ErrArg},
		{"a case of no bed", func(f *drain.Foul) { f.Cases[0].Bed = 4 }, api.ErrArg},
		{"a case of a bed below 0", func(f *drain.Foul) { f.Cases[1].Bed = -1 }, api.ErrArg},
		{"a case of the least bed", func(f *drain.Foul) { f.Cases[1].Bed = math.MinInt }, api.ErrArg},
		{"a case of the greatest bed", func(f *drain.Foul) { f.Cases[1].Bed = math.MaxInt }, api.ErrArg},
		{"a case below the hour 0", func(f *drain.Foul) { f.Cases[0].Hour = -1 }, api.ErrArg},
		{"a case after Last", func(f *drain.Foul) { f.Cases[1].Hour = 13 }, api.ErrArg},
		{"a case in the least hour", func(f *drain.Foul) { f.Cases[1].Hour = math.MinInt }, api.ErrArg},
		{"a case in the greatest hour", func(f *drain.Foul) { f.Cases[1].Hour = math.MaxInt }, api.ErrArg},
		{"too many truths", tooMany, api.ErrLimit},
		{"2001 truths, of two flows and three openings", func(f *drain.Foul) {
			f.Farm.Springs[0], f.Farm.Springs[1], f.Hours[0] = spring(0, 0, 28), spring(1, 0, 22), to(1, 1)
		}, api.ErrLimit},
		{"too many truths of the flows", func(f *drain.Foul) { f.Farm.Springs[0], f.Farm.Springs[1] = spring(0, 0, 30), spring(0, 0, 10) }, api.ErrLimit},
		{"too many openings of one drain", func(f *drain.Foul) {
			f.Hours, f.Drains = ranges(0, 4, 0, 4, 0, 4, 0, 0), []drain.Drain{opened(0, 0, 4)}
		}, api.ErrLimit},
		{"too many drains that are opened in one hour", func(f *drain.Foul) {
			f.Hours, f.Drains = ranges(0, 5, 0, 4, 0, 4, 0, 0), make([]drain.Drain, 4)
		}, api.ErrLimit},
		{"as many truths as there can be", func(f *drain.Foul) {
			f.Farm.Beds, f.Farm.Springs = slices.Repeat([]bed.Bed{{Down: -1}}, 8), []bed.Spring{spring(0, 0, 19), spring(0, 0, 9), spring(0, 0, 9)}
			f.Last, f.Hours, f.Drains = 24, slices.Repeat(ranges(0, 6), 8), slices.Repeat([]drain.Drain{opened(7, 0, 24)}, 4)
		}, api.ErrLimit},
		{"too many truths, and a Last below 0", func(f *drain.Foul) { tooMany(f); f.Last = -1 }, api.ErrArg},
		{"too many truths, and hours that are no range", func(f *drain.Foul) { tooMany(f); f.Hours[3] = to(1, 0) }, api.ErrArg},
		{"too many truths, and a drain of no bed", func(f *drain.Foul) { tooMany(f); f.Drains[1].Bed = 4 }, api.ErrArg},
		{"too many truths, and a case of no bed", func(f *drain.Foul) { tooMany(f); f.Cases[1].Bed = 4 }, api.ErrArg},
	} {
		f := ofChapter(fever(2, 5), fever(3, 8))
		x.change(&f)
		t.Run(x.what, func(t *testing.T) {
			// What is asked is wrong too, and so is the farm, which does not count before the foul.
			checkErrors(t, answers(f, fine()), everyCall(x.want))
			checkErrors(t, answers(f, nowhere()), everyCall(x.want))
			if drain.ProveTruth(f, fine().truth) || drain.ProveTruth(f, drain.Truth{}) {
				t.Error("proved of a foul that is not valid")
			}
			if len(f.Farm.Looks) > 0 {
				return
			}
			f.Farm.Looks = []bed.Look{over(0, 9, 9)}
			checkErrors(t, answers(f, fine()), everyCall(x.want))
		})
	}
}

func TestLimitsThatAreReached(t *testing.T) {
	for _, x := range []struct {
		what   string
		change func(f *drain.Foul)
	}{
		{"the Last 24", func(f *drain.Foul) { f.Last = 24 }},
		{"the Last in which all of it ends", func(f *drain.Foul) { f.Last = 8 }},
		{"the Last 0", func(f *drain.Foul) {
			f.Last, f.Drains, f.Cases = 0, []drain.Drain{opened(0, 0, 0)}, fevers(1, fever(0, 0))
		}},
		{"hours from 0 to 6", func(f *drain.Foul) { f.Hours[3] = to(0, 6) }},
		{"6 hours", func(f *drain.Foul) { f.Hours[3] = to(6, 6) }},
		{"one drain", func(f *drain.Foul) { f.Drains = f.Drains[:1] }},
		{"four drains", func(f *drain.Foul) { f.Drains = append(f.Drains, make([]drain.Drain, 2)...) }},
		{"a drain of the last bed", func(f *drain.Foul) { f.Drains[1].Bed = 3 }},
		{"an Opened that is all hours", func(f *drain.Foul) { f.Drains[0].Opened = to(0, 12) }},
		{"no cases", func(f *drain.Foul) { f.Cases = nil }},
		{"six cases", func(f *drain.Foul) { f.Cases = fevers(6, fever(3, 8)) }},
		{"a case of the last bed in Last", func(f *drain.Foul) { f.Cases[0] = fever(3, 12) }},
		{"a case in the hour 0", func(f *drain.Foul) { f.Cases[0] = fever(0, 0) }},
		{"2000 truths", func(f *drain.Foul) {
			f.Hours, f.Drains[0], f.Drains[1] = ranges(0, 4, 0, 4, 0, 3, 0, 0), opened(0, 3, 5), opened(1, 2, 3)
		}},
		{"2000 truths of four drains that are opened in one hour", func(f *drain.Foul) {
			f.Hours, f.Drains = ranges(0, 4, 0, 4, 0, 4, 0, 0), make([]drain.Drain, 4)
		}},
		{"drains with many openings", func(f *drain.Foul) { f.Drains = slices.Repeat([]drain.Drain{opened(0, 0, 12)}, 4) }},
		{"one bed", func(f *drain.Foul) {
			*f = chain(9, ranges(0, 0), opened(0, 0, 9))
		}},
		{"eight beds", func(f *drain.Foul) { *f = chain(9, make([]drain.Range, 8), opened(7, 0, 9)) }},
		{"no springs", func(f *drain.Foul) { f.Farm.Springs = nil }},
	} {
		f := ofChapter(fever(2, 5), fever(3, 8))
		x.change(&f)
		checkErrors(t, answers(f, asked{}), map[string]api.Errno{"CheckFoul": api.OK, "Drains": api.OK, "Leave": api.OK})
		if t.Failed() {
			t.Fatalf("with %s", x.what)
		}
	}
}

func TestErrRangeOfPlay(t *testing.T) {
	flows, hours := list(5, 6), list(1, 1, 2, 0)
	for _, tr := range []drain.Truth{
		{}, {Flows: flows, Opened: 3}, {Hours: hours, Opened: 3}, truth(hours, flows, 0, 3),
		truth(list(5), hours, 0, 4), truth(list(5, 6, 6), hours, 0, 4), truth(list(3, 6), hours, 0, 4), truth(list(6, 6), hours, 0, 4), truth(list(5, 4), hours, 0, 4), truth(list(5, 7), hours, 0, 4), truth(list(math.MinInt, math.MaxInt), hours, 0, 4),
		truth(flows, list(1, 1, 2), 0, 4), truth(flows, list(1, 1, 2, 0, 0), 0, 4), truth(flows, list(0, 1, 2, 0), 0, 4), truth(flows, list(3, 1, 2, 0), 0, 4), truth(flows, list(1, 1, 2, 1), 0, 4), truth(flows, list(1, 1, 2, -1), 0, 4), truth(flows, list(1, 1, 2, math.MaxInt), 0, 4),
		// As many numbers as there are ranges, but not of each kind.
		truth(list(5), list(6, 1, 1, 2, 0), 0, 4), truth(list(5, 6, 1), list(1, 2, 0), 0, 4),
		truth(flows, hours, 0, 2), truth(flows, hours, 0, 5), truth(flows, hours, 1, 1), truth(flows, hours, 1, 3), truth(flows, hours, 2, 3), truth(flows, hours, -1, 3), truth(flows, hours, math.MaxInt, 3), truth(flows, hours, math.MinInt, 3), truth(flows, hours, 0, math.MaxInt), truth(flows, hours, 0, math.MinInt),
	} {
		for _, f := range []drain.Foul{ofChapter(), ofChapter(fever(0, 6)), ofChapter(fever(3, 5), fever(0, 6)), noTruth()} {
			checkErrors(t, answers(f, asked{truth: tr}), map[string]api.Errno{"CheckFoul": api.OK, "Play": api.ErrRange})
			if t.Failed() || drain.ProveTruth(f, tr) {
				t.Fatalf("Play, ProveTruth of %v, %v", f, tr)
			}
		}
	}
}

func TestErrRangeOfReachedAndEarliest(t *testing.T) {
	// It comes before all that the foul lacks.
	for _, f := range []drain.Foul{ofChapter(), ofChapter(fever(2, 5), fever(3, 5)), ofChapter(fever(3, 5), fever(0, 6)), noTruth(), noTruth(fever(3, 5), fever(0, 6))} {
		for _, n := range list(-1, 4, 7, math.MinInt, math.MaxInt) {
			for _, hour := range list(-1, 0, 12, 13) {
				checkErrors(t, answers(f, asked{bed: n, hour: hour}), map[string]api.Errno{"Reached": api.ErrRange, "Earliest": api.ErrRange})
			}
		}
		for _, hour := range list(-1, 13, 24, math.MinInt, math.MaxInt) {
			checkErrors(t, answers(f, asked{bed: 1, hour: hour}), map[string]api.Errno{"Reached": api.ErrRange})
			if _, e := drain.Earliest(f, 1); e == api.ErrRange {
				t.Errorf("Earliest of %v: %v", f, e)
			}
		}
		if t.Failed() {
			t.Fatalf("with %v", f)
		}
	}
	for _, x := range []asked{{bed: 0, hour: 0}, {bed: 3, hour: 12}} {
		if _, e := drain.Reached(ofChapter(), x.bed, x.hour); e != api.OK {
			t.Errorf("Reached of %d, %d: %v", x.bed, x.hour, e)
		}
	}
}

func TestErrorsOfFoulsThatAreValid(t *testing.T) {
	none := chain(9, ranges(0, 0, 0, 0), opened(1, 2, 2))
	for _, x := range []struct {
		f                           drain.Foul
		reached, earliest, wrong, e api.Errno
	}{
		{ofChapter(), api.OK, api.OK, api.ErrNone, api.OK},
		{ofChapter(fever(0, 6)), api.OK, api.OK, api.ErrNone, api.OK},
		{ofChapter(fever(2, 5), fever(3, 5)), api.OK, api.ErrNone, api.ErrNone, api.OK},
		{none, api.OK, api.ErrNone, api.ErrNone, api.OK},
		// That no truth explains the foul comes before a bed that is not reached.
		{ofChapter(fever(3, 5), fever(0, 6)), api.ErrFail, api.ErrFail, api.OK, api.OK},
		{withCases(none, fever(0, 9)), api.ErrFail, api.ErrFail, api.OK, api.OK},
		// That the farm has no truth comes before all of it.
		{noTruth(), api.ErrFalse, api.ErrFalse, api.ErrFalse, api.ErrFalse},
		{noTruth(fever(0, 6)), api.ErrFalse, api.ErrFalse, api.ErrFalse, api.ErrFalse},
		{noTruth(fever(3, 5), fever(0, 6)), api.ErrFalse, api.ErrFalse, api.ErrFalse, api.ErrFalse},
		{looked(none, over(0, 1, 1), over(1, 2, 9)), api.ErrFalse, api.ErrFalse, api.ErrFalse, api.ErrFalse},
	} {
		checkErrors(t, answers(x.f, asked{truth: choices(x.f)[0]}), map[string]api.Errno{
			"CheckFoul": api.OK, "Play": api.OK, "Reached": x.reached, "Earliest": x.earliest, "Drains": x.e, "First": x.wrong, "Leave": x.e,
		})
		if t.Failed() {
			t.Fatalf("with %v", x.f)
		}
	}
}

// wildNumber is near a limit, or far from all of them.
func wildNumber(r *rand.Rand) int {
	l := list(math.MinInt, -2, -1, 0, 1, 2, 3, 4, 5, 6, 7, 8, 9, 12, 23, 24, 25, 30, 31, math.MaxInt)
	return l[r.Intn(len(l))]
}

func wildRange(r *rand.Rand) drain.Range {
	if r.Intn(2) == 0 {
		return to(wildNumber(r), wildNumber(r))
	}
	low := r.Intn(8) - 1
	return to(low, low+r.Intn(5)-1)
}

func wildFoul(r *rand.Rand) drain.Foul {
	f := bareFoul(r)
	addCases(r, &f, r.Intn(4), r.Intn(2) == 0)
	for range r.Intn(3) {
		switch n := r.Intn(len(f.Farm.Beds)); r.Intn(13) {
		case 0:
			f.Last = wildNumber(r)
		case 1:
			f.Last = r.Intn(25)
		case 2:
			f.Hours = append(f.Hours, slices.Repeat(f.Hours[:1], r.Intn(2))...)
		case 3:
			f.Hours = slices.Repeat(ranges(0, r.Intn(8)), len(f.Farm.Beds))
		case 4:
			f.Hours = slices.Repeat([]drain.Range{wildRange(r)}, len(f.Farm.Beds))
		case 5:
			f.Drains = append(f.Drains, drain.Drain{Bed: wildNumber(r), Opened: wildRange(r)})
		case 6:
			f.Drains = append(f.Drains, slices.Repeat([]drain.Drain{opened(n, 0, f.Last)}, r.Intn(4))...)
		case 7:
			f.Drains = f.Drains[:r.Intn(2)*len(f.Drains)]
		case 8:
			f.Cases = append(f.Cases, fever(wildNumber(r), wildNumber(r)))
		case 9:
			f.Cases = append(f.Cases, fevers(r.Intn(6), fever(n, 0))...)
		case 10:
			f.Farm.Beds[n].Down = wildNumber(r)
		case 11:
			f.Farm.Springs = append(f.Farm.Springs, spring(n, 0, r.Intn(32)))
		case 12:
			f.Farm.Looks = append(f.Farm.Looks, over(wildNumber(r), 0, wildNumber(r)))
		}
	}
	return f
}

func isRange(r drain.Range, low, high int) bool { return r.Lo >= low && r.Hi <= high && r.Lo <= r.Hi }

// checked says what CheckFoul has to return, in the words of the chapter.
func checked(f drain.Foul) api.Errno {
	if e := bed.CheckFarm(f.Farm); e != api.OK {
		return e
	}
	if f.Last > 24 || len(f.Drains) > 4 || len(f.Cases) > 6 {
		return api.ErrLimit
	}
	ok := f.Last >= 0 && len(f.Hours) == len(f.Farm.Beds) && len(f.Drains) >= 1
	for _, x := range f.Hours {
		ok = ok && isRange(x, 0, 6)
	}
	for _, x := range f.Drains {
		ok = ok && x.Bed >= 0 && x.Bed < len(f.Farm.Beds) && isRange(x.Opened, 0, f.Last)
	}
	for _, x := range f.Cases {
		ok = ok && x.Bed >= 0 && x.Bed < len(f.Farm.Beds) && x.Hour >= 0 && x.Hour <= f.Last
	}
	switch {
	case !ok:
		return api.ErrArg
	case sizes(f) > 2000:
		return api.ErrLimit
	}
	return api.OK
}

func wildNumbers(r *rand.Rand, many int) []int {
	var l []int
	for range many {
		l = append(l, wildNumber(r))
	}
	return l
}

func TestP1_AnyArguments(t *testing.T) {
	r := rand.New(rand.NewSource(1))
	seen := map[api.Errno]int{}
	for range 4000 {
		f := wildFoul(r)
		ask := asked{truth(wildNumbers(r, r.Intn(5)), wildNumbers(r, r.Intn(9)), wildNumber(r), wildNumber(r)), wildNumber(r), wildNumber(r)}
		if r.Intn(2) == 0 {
			ask.truth.Flows, ask.truth.Hours = wildNumbers(r, len(f.Farm.Springs)), wildNumbers(r, len(f.Hours))
		}
		want := checked(f)
		seen[want]++
		if e := drain.CheckFoul(f); e != want {
			t.Fatalf("CheckFoul of %v: %v, not %v", f, e, want)
		}
		all, proved := answers(f, ask), drain.ProveTruth(f, ask.truth)
		if want != api.OK {
			checkErrors(t, all, everyCall(want))
			if proved {
				t.Fatalf("%v, %v is proved", f, ask.truth)
			}
		}
		checkErrors(t, all, nil)
		if t.Failed() {
			t.Fatalf("with %v, %v", f, ask)
		}
	}
	if seen[api.OK] < 300 || seen[api.ErrArg] < 300 || seen[api.ErrLimit] < 300 {
		t.Errorf("not enough of each kind: %v", seen)
	}
}

func TestP1_TheLargestFouls(t *testing.T) {
	// 500 flows and hours, and four drains that are opened in the last hour; only without any flow no water goes on.
	f := chain(24, slices.Repeat(ranges(6, 6), 8), slices.Repeat([]drain.Drain{opened(0, 24, 24)}, 4)...)
	f.Hours[0], f.Hours[3], f.Hours[6] = to(2, 6), to(2, 6), to(2, 6)
	f.Farm.Springs = []bed.Spring{spring(0, 0, 3)}
	for n := range 8 {
		least := 24 + list(0, 2, 8, 14, 16, 22, 28, 30)[n]
		if hour, e := drain.Earliest(f, n); hour != least || e != api.OK {
			t.Errorf("Earliest of the bed %d: %d, %v, not %d", n, hour, e, least)
		}
	}
	if v, e := drain.Reached(f, 0, 24); v != always || e != api.OK {
		t.Errorf("Reached: %d, %v", v, e)
	}
	if v, e := drain.Reached(f, 1, 24); v != never || e != api.OK {
		t.Errorf("Reached of the bed below: %d, %v", v, e)
	}
	// No truth explains any case of the bed below, since it is reached after the last hour.
	f.Cases = append(fevers(5, fever(1, 24)), fever(0, 24))
	if l, e := drain.Leave(f); !slices.Equal(l, list(0, 1, 2, 3, 4)) || e != api.OK {
		t.Errorf("Leave: %v, %v", l, e)
	}
	if l, e := drain.Drains(f); len(l) > 0 || e != api.OK {
		t.Errorf("Drains: %v, %v", l, e)
	}
	f.Cases = fevers(6, fever(0, 24))
	if l, e := drain.Drains(f); !slices.Equal(l, list(0, 1, 2, 3)) || e != api.OK {
		t.Errorf("Drains of cases at the drains: %v, %v", l, e)
	}
	// All beds stand apart.
	for n := range f.Farm.Beds {
		f.Farm.Beds[n].Down = -1
	}
	if hour, e := drain.Earliest(f, 1); hour != 0 || e != api.ErrNone {
		t.Errorf("Earliest of a bed apart: %d, %v", hour, e)
	}
}

func TestR3_EmptyIsNil(t *testing.T) {
	f := chain(9, ranges(0, 0, 1, 2), opened(0, 0, 1))
	f.Farm.Springs = nil
	g := f
	g.Farm.Springs, g.Farm.Looks, g.Cases = []bed.Spring{}, []bed.Look{}, []drain.Fever{}
	tr, empty := truth(nil, list(0, 1), 0, 1), truth(list(), list(0, 1), 0, 1)
	a, b := answers(f, asked{truth: tr, hour: 1}), answers(g, asked{truth: empty, hour: 1})
	for i := range a {
		if a[i].e != b[i].e || !slices.Equal(a[i].numbers, b[i].numbers) || a[i].name == "Play" && a[i].e != api.OK {
			t.Errorf("%s: %v, and %v of lists without elements", a[i].name, a[i], b[i])
		}
	}
	if !drain.ProveTruth(f, empty) || !drain.ProveTruth(g, tr) {
		t.Error("nil and a list without elements are not the same")
	}
}

func TestR4_ArgumentsAreNotWrittenTo(t *testing.T) {
	for _, f := range fouls(200, 4) {
		was := copied(f)
		tr := choices(f)[0]
		flows, hours := slices.Clone(tr.Flows), slices.Clone(tr.Hours)
		ask := asked{truth: tr, hour: f.Last}
		before := answers(f, ask)
		drain.ProveTruth(f, tr)
		if !same(f, was) || !slices.Equal(tr.Flows, flows) || !slices.Equal(tr.Hours, hours) {
			t.Fatalf("%v became %v, or %v was written to", was, f, tr)
		}
		for i, a := range answers(f, ask) {
			if a.e != before[i].e || !slices.Equal(a.numbers, before[i].numbers) {
				t.Fatalf("%s of %v: %v, and then %v", a.name, f, before[i], a)
			}
		}
	}
}

func TestR4_ListsWithRoomAreNotWrittenTo(t *testing.T) {
	// Behind each list there is memory that belongs to somebody else.
	f := ofChapter(fever(0, 6), fever(3, 5))
	springs, beds, looks := append(f.Farm.Springs, spring(9, 9, 9)), append(f.Farm.Beds, bed.Bed{Need: 99}), append(f.Farm.Looks, over(0, 0, 9), over(9, 9, 9))
	hours, given, cases := append(f.Hours, to(9, 9)), append(f.Drains, opened(9, 9, 9)), append(f.Cases, fever(9, 9))
	flows, later := list(5, 6, 99), list(1, 1, 2, 0, 99)
	f.Farm.Springs, f.Farm.Beds, f.Farm.Looks = springs[:2], beds[:4], looks[:1]
	f.Hours, f.Drains, f.Cases = hours[:4], given[:2], cases[:2]
	ask := fine()
	ask.truth.Flows, ask.truth.Hours = flows[:2], later[:4]
	checkErrors(t, answers(f, ask), map[string]api.Errno{"Play": api.OK, "Leave": api.OK})
	drain.ProveTruth(f, ask.truth)
	if springs[2] != spring(9, 9, 9) || beds[4] != (bed.Bed{Need: 99}) || looks[1] != over(9, 9, 9) || hours[4] != to(9, 9) || given[2] != opened(9, 9, 9) || cases[2] != fever(9, 9) || flows[2] != 99 || later[4] != 99 {
		t.Errorf("%v, %v, %v, %v, %v, %v, %v or %v was written to", springs, beds, looks, hours, given, cases, flows, later)
	}
}

func TestR4_ResultsAreInMemoryOfTheirOwn(t *testing.T) {
	f := ofChapter(fever(1, 0), fever(0, 6), fever(3, 4))
	for _, x := range []struct {
		name string
		call func() ([]int, api.Errno)
		want []int
	}{
		{"Play", func() ([]int, api.Errno) { return drain.Play(f, fine().truth) }, list(4, -1, 5, 7)},
		{"Drains", func() ([]int, api.Errno) { return drain.Drains(ofChapter()) }, list(0, 1)},
		{"Leave", func() ([]int, api.Errno) { return drain.Leave(f) }, list(0, 2)},
	} {
		l, e := x.call()
		if !slices.Equal(l, x.want) || e != api.OK {
			t.Fatalf("%s: %v, %v", x.name, l, e)
		}
		for i := range l {
			l[i] = 99
		}
		_ = append(l, 98)
		if again, e := x.call(); !slices.Equal(again, x.want) || e != api.OK {
			t.Errorf("%s, after its result was written to: %v, %v", x.name, again, e)
		}
	}
}

func TestExampleOfTheReadme(t *testing.T) {
	foul := drain.Foul{
		Farm: bed.Farm{
			Springs: []bed.Spring{{Bed: 0, Flow: bed.Range{Lo: 3, Hi: 4}}},
			Beds:    []bed.Bed{{Need: 2, Notch: 3, Down: 1}, {Need: 1, Notch: 2, Down: -1}},
		},
		Last:   12,
		Hours:  []drain.Range{{Lo: 1, Hi: 2}, {Lo: 0, Hi: 0}},
		Drains: []drain.Drain{{Bed: 0, Opened: drain.Range{Lo: 3, Hi: 4}}, {Bed: 1, Opened: drain.Range{Lo: 7, Hi: 8}}},
		Cases:  []drain.Fever{{Bed: 1, Hour: 6}},
	}
	if l, e := drain.Drains(foul); !slices.Equal(l, list(0)) || e != api.OK {
		t.Errorf("Drains: %v, %v", l, e)
	}
	if v, e := drain.Reached(foul, 1, 5); v != perhaps || e != api.OK {
		t.Errorf("Reached: %d, %v", v, e)
	}
	if hour, e := drain.Earliest(foul, 1); hour != 4 || e != api.OK {
		t.Errorf("Earliest: %d, %v", hour, e)
	}
	if l, e := drain.Play(foul, drain.Truth{Flows: list(4), Hours: list(2, 0), Drain: 0, Opened: 3}); !slices.Equal(l, list(3, 5)) || e != api.OK {
		t.Errorf("Play: %v, %v", l, e)
	}
	if l, e := drain.Leave(foul); len(l) > 0 || e != api.OK {
		t.Errorf("Leave: %v, %v", l, e)
	}
}
