package train_test

import (
	"math"
	"math/rand"
	"slices"
	"testing"

	"watercress/api"
	"watercress/bunch"
	"watercress/train"
)

// answer is what a call returns, whatever it is called: numbers, and the error.
type answer struct {
	name    string
	numbers []int
	e       api.Errno
}

// answers calls everything that has an error, with these arguments.
func answers(m train.Morning, tr train.Truth) []answer {
	var all []answer
	add := func(name string, e api.Errno, numbers ...int) { all = append(all, answer{name, numbers, e}) }
	add("CheckMorning", train.CheckMorning(m))
	r, e := train.Play(m, tr)
	add("Play", e, unlessZero(numbers(r))...)
	b, e := train.Bounds(m)
	var l []int
	for _, x := range ranges(b) {
		l = append(l, x.Lo, x.Hi)
	}
	add("Bounds", e, unlessZero(l)...)
	for _, x := range []struct {
		name string
		call func(train.Morning) (int, api.Errno)
	}{{"Reach", train.Reach}, {"Latest", train.Latest}, {"Least", train.Least}, {"First", train.First}} {
		n, e := x.call(m)
		add(x.name, e, unlessZero(list(n))...)
	}
	l, e = train.Leave(m)
	add("Leave", e, l...)
	return all
}

// unlessZero has the numbers of a result that is not zero.
func unlessZero(l []int) []int {
	if slices.Equal(l, make([]int, len(l))) {
		return nil
	}
	return l
}

// checkErrors asks for the errors that are named; with each error there must be nothing else.
func checkErrors(t *testing.T, all []answer, want map[string]api.Errno) {
	t.Helper()
	for _, a := range all {
		if e, ok := want[a.name]; ok && a.e != e {
			t.Errorf("%s: %v, not %v", a.name, a.e, e)
		}
		if a.e != api.OK && len(a.numbers) > 0 {
			t.Errorf("%s: %v together with %v", a.name, a.numbers, a.e)
		}
	}
}

func everyCall(e api.Errno) map[string]api.Errno {
	want := map[string]api.Errno{}
	for _, a := range answers(train.Morning{}, train.Truth{}) {
		want[a.name] = e
	}
	return want
}

// tooMany makes the sizes of the stems and of the ways 4, 25 and 21: these are 2100 together.
func tooMany(m *train.Morning) { m.Out, m.Back = to(0, 24), to(0, 20) }

func TestErrorsOfTheMorning(t *testing.T) {
	for _, x := range []struct {
		what   string
		change func(m *train.Morning)
		want   api.Errno
	}{
		{"the Hand 0", func(m *train.Morning) { m.Day.Hand = 0 }, api.ErrArg},
		{"the Flat 21", func(m *train.Morning) { m.Day.Flat = 21 }, api.ErrArg},
		{"no women", func(m *train.Morning) { m.Day.Women = nil }, api.ErrArg},
		{"a lot of no woman", func(m *train.Morning) { m.Day.Lots[0].Woman = 1 }, api.ErrArg},
		{"a count of no kind", func(m *train.Morning) { m.Day.Counts = []bunch.Count{count(6, 0, 9)} }, api.ErrArg},
		{"five women", func(m *train.Morning) { m.Day.Women = make([]bunch.Range, 5) }, api.ErrLimit},
		{"too many truths of the day", func(m *train.Morning) { m.Day.Lots[0].Stems = of(0, 2000) }, api.ErrLimit},
		{"the Hand 0, and six reports", func(m *train.Morning) { m.Day.Hand, m.Reports = 0, reports(6, first()) }, api.ErrArg},
		{"too many truths of the day, and the Load 0", func(m *train.Morning) { m.Day.Lots[0].Stems, m.Load = of(0, 2000), 0 }, api.ErrLimit},
		{"five women, and six reports that are not valid", func(m *train.Morning) { m.Day.Women, m.Reports = make([]bunch.Range, 5), reports(6, report(9, 9, 0)) }, api.ErrLimit},
		{"six reports", func(m *train.Morning) { m.Reports = reports(6, first()) }, api.ErrLimit},
		{"six reports that are not valid", func(m *train.Morning) { m.Reports = reports(6, report(9, 9, 0)) }, api.ErrLimit},
		{"six reports, and the Load 0", func(m *train.Morning) { m.Load, m.Reports = 0, reports(6, first()) }, api.ErrLimit},
		{"six reports, and an Out that is no range", func(m *train.Morning) { m.Out, m.Reports = to(5, 4), reports(6, first()) }, api.ErrLimit},
		{"the Load 0", func(m *train.Morning) { m.Load = 0 }, api.ErrArg},
		{"a Load below 0", func(m *train.Morning) { m.Load = -1 }, api.ErrArg},
		{"the least Load", func(m *train.Morning) { m.Load = math.MinInt }, api.ErrArg},
		{"the Load 11", func(m *train.Morning) { m.Load = 11 }, api.ErrArg},
		{"the greatest Load", func(m *train.Morning) { m.Load = math.MaxInt }, api.ErrArg},
		{"a Start below 0", func(m *train.Morning) { m.Start = -1 }, api.ErrArg},
		{"the Start 601", func(m *train.Morning) { m.Start = 601 }, api.ErrArg},
		{"the greatest Start", func(m *train.Morning) { m.Start = math.MaxInt }, api.ErrArg},
		{"a Train below 0", func(m *train.Morning) { m.Train = -1 }, api.ErrArg},
		{"the Train 601", func(m *train.Morning) { m.Train = 601 }, api.ErrArg},
		{"the least Train", func(m *train.Morning) { m.Train = math.MinInt }, api.ErrArg},
		{"an Out that is no range", func(m *train.Morning) { m.Out = to(20, 19) }, api.ErrArg},
		{"an Out below 0", func(m *train.Morning) { m.Out = to(-1, 0) }, api.ErrArg},
		{"an Out above 60", func(m *train.Morning) { m.Out = to(60, 61) }, api.ErrArg},
		{"an Out as wide as ints are", func(m *train.Morning) { m.Out = to(math.MinInt, math.MaxInt) }, api.ErrArg},
		{"a Back that is no range", func(m *train.Morning) { m.Back = to(10, 9) }, api.ErrArg},
		{"a Back below 0", func(m *train.Morning) { m.Back = to(-1, 0) }, api.ErrArg},
		{"a Back above 60", func(m *train.Morning) { m.Back = to(60, 61) }, api.ErrArg},
		{"a Back as wide as ints are", func(m *train.Morning) { m.Back = to(math.MinInt, math.MaxInt) }, api.ErrArg},
		{"the kind 4", func(m *train.Morning) { m.Reports[1].Kind = 4 }, api.ErrArg},
		{"a kind below 0", func(m *train.Morning) { m.Reports[1].Kind = -1 }, api.ErrArg},
		{"the least kind", func(m *train.Morning) { m.Reports[1].Kind = math.MinInt }, api.ErrArg},
		{"the greatest kind", func(m *train.Morning) { m.Reports[1].Kind = math.MaxInt }, api.ErrArg},
		{"a Number that is no range", func(m *train.Morning) { m.Reports[1].Number = to(6, 5) }, api.ErrArg},
		{"a Number below 0", func(m *train.Morning) { m.Reports[1].Number = to(-1, 5) }, api.ErrArg},
		{"a Number above 3000000", func(m *train.Morning) { m.Reports[1].Number = to(0, 3000001) }, api.ErrArg},
		{"a Number as wide as ints are", func(m *train.Morning) { m.Reports[1].Number = to(math.MinInt, math.MaxInt) }, api.ErrArg},
		{"too many truths", tooMany, api.ErrLimit},
		{"2001 truths of a lot and of Out", func(m *train.Morning) { m.Day.Lots[0].Stems, m.Out = of(0, 666), to(0, 2) }, api.ErrLimit},
		{"2000 truths of the day, and two of Out", func(m *train.Morning) { m.Day.Lots[0].Stems, m.Out = of(1, 2000), to(5, 6) }, api.ErrLimit},
		{"2000 truths of the day, and two of Back", func(m *train.Morning) {
			m.Day.Lots[0].Stems, m.Out, m.Back = of(1, 2000), to(5, 5), to(5, 6)
		}, api.ErrLimit},
		{"too many truths of the women and of Back", func(m *train.Morning) { m.Day.Women[0], m.Out, m.Back = of(1, 50), to(5, 5), to(0, 10) }, api.ErrLimit},
		{"the widest ways", func(m *train.Morning) { m.Out, m.Back = to(0, 60), to(0, 60) }, api.ErrLimit},
		{"as many truths as the day and the ways can have", func(m *train.Morning) { m.Day.Lots[0].Stems, m.Out, m.Back = of(1, 2000), to(0, 60), to(0, 60) }, api.ErrLimit},
		{"too many truths, and the Load 11", func(m *train.Morning) { tooMany(m); m.Load = 11 }, api.ErrArg},
		{"too many truths, and a report that is not valid", func(m *train.Morning) { tooMany(m); m.Reports[1].Kind = 4 }, api.ErrArg},
	} {
		m := ofChapter(160, first(), third())
		x.change(&m)
		t.Run(x.what, func(t *testing.T) {
			// The truth is wrong too, which does not count before the morning.
			checkErrors(t, answers(m, train.Truth{}), everyCall(x.want))
			checkErrors(t, answers(m, ofTruth(241, 22, 10)), everyCall(x.want))
			m.Day.Counts = append(m.Day.Counts, count(bunch.Spare, 20000, 20000))
			checkErrors(t, answers(m, ofTruth(241, 22, 10)), everyCall(x.want))
			if train.ProveTruth(m, ofTruth(241, 22, 10)) || train.ProveTruth(m, train.Truth{}) {
				t.Error("proved of a morning that is not valid")
			}
		})
	}
}

func TestLimitsThatAreReached(t *testing.T) {
	for _, x := range []struct {
		what   string
		change func(m *train.Morning)
	}{
		{"the Load 1", func(m *train.Morning) { m.Load = 1 }},
		{"the Load 10", func(m *train.Morning) { m.Load = 10 }},
		{"the minutes 0", func(m *train.Morning) { m.Start, m.Train = 0, 0 }},
		{"the minutes 600", func(m *train.Morning) { m.Start, m.Train = 600, 600 }},
		{"a train that leaves before the boy", func(m *train.Morning) { m.Start, m.Train = 600, 0 }},
		{"ways of 0 minutes", func(m *train.Morning) { m.Out, m.Back = to(0, 0), to(0, 0) }},
		{"ways of 60 minutes", func(m *train.Morning) { m.Out, m.Back = to(60, 60), to(60, 60) }},
		{"the widest Out", func(m *train.Morning) { m.Out = to(0, 60) }},
		{"the widest Back", func(m *train.Morning) { m.Back = to(0, 60) }},
		{"no lots", func(m *train.Morning) { m.Day.Lots = nil }},
		{"no reports", func(m *train.Morning) { m.Reports = nil }},
		{"five reports", func(m *train.Morning) { m.Reports = reports(5, first()) }},
		{"each kind", func(m *train.Morning) {
			m.Reports = []train.Report{first(), second(), third(), report(train.Trips, 1, 1)}
		}},
		{"the widest Number", func(m *train.Morning) { m.Reports[0].Number = to(0, 3000000) }},
		{"the least and the greatest Number", func(m *train.Morning) { m.Reports[0].Number, m.Reports[1].Number = to(0, 0), to(3000000, 3000000) }},
		{"2000 truths", func(m *train.Morning) { m.Out, m.Back = to(0, 24), to(0, 19) }},
		{"2000 truths of the day alone", func(m *train.Morning) { m.Day.Lots[0].Stems, m.Out = of(1, 2000), to(5, 5) }},
	} {
		m := ofChapter(160, first(), third())
		x.change(&m)
		want := everyCall(api.OK)
		for _, call := range []string{"Play", "Bounds", "Reach", "Latest", "Least", "First"} {
			delete(want, call)
		}
		checkErrors(t, answers(m, ofTruth(241, 22, 10)), want)
		if t.Failed() {
			t.Fatalf("with %s", x.what)
		}
	}
}

func TestErrRangeOfPlay(t *testing.T) {
	one, ten := list(241), list(10)
	for _, tr := range []train.Truth{
		{}, {Out: 22, Back: 10}, {Bunch: bunch.Truth{Feels: ten}, Out: 22, Back: 10}, {Bunch: bunch.Truth{Stems: one}, Out: 22, Back: 10}, {Bunch: bunch.Truth{Feels: one, Stems: ten}, Out: 22, Back: 10}, {Bunch: bunch.Truth{Feels: list(10, 10), Stems: one}, Out: 22, Back: 10}, {Bunch: bunch.Truth{Feels: ten, Stems: list(241, 241)}, Out: 22, Back: 10},
		ofTruth(237, 22, 10), ofTruth(242, 22, 10), ofTruth(241, 19, 10), ofTruth(241, 23, 10), ofTruth(241, 22, 9), ofTruth(241, 22, 11), ofTruth(241, 10, 22),
		ofTruth(math.MinInt, 22, 10), ofTruth(241, math.MaxInt, 10), ofTruth(241, 22, math.MinInt), ofTruth(241, math.MinInt, math.MaxInt),
	} {
		for _, m := range []train.Morning{ofChapter(160), ofChapter(160, first()), ofChapter(160, third()), noTruth()} {
			checkErrors(t, answers(m, tr), map[string]api.Errno{"CheckMorning": api.OK, "Play": api.ErrRange})
			if t.Failed() || train.ProveTruth(m, tr) {
				t.Fatalf("Play, ProveTruth of %v, %v", m, tr)
			}
		}
	}
}

func TestErrorsOfMorningsThatAreValid(t *testing.T) {
	late := func(m train.Morning) train.Morning { m.Train = 0; return m }
	for _, x := range []struct {
		m                             train.Morning
		bounds, latest, least, wrongs api.Errno
		leave                         api.Errno
	}{
		{ofChapter(160), api.OK, api.OK, api.OK, api.ErrNone, api.OK},
		{ofChapter(160, first()), api.OK, api.OK, api.OK, api.ErrNone, api.OK},
		{ofChapter(160, third()), api.ErrFail, api.OK, api.OK, api.OK, api.OK},
		{late(ofChapter(160)), api.OK, api.ErrShort, api.ErrShort, api.ErrNone, api.OK},
		{late(ofChapter(160, third())), api.ErrFail, api.ErrShort, api.ErrShort, api.OK, api.OK},
		{ofChapter(121), api.OK, api.OK, api.ErrShort, api.ErrNone, api.OK},
		{alone(11, 10, 10, 18, 9, 0), api.OK, api.OK, api.ErrShort, api.ErrNone, api.OK},
		{alone(10, 1, 0, 9, 9, 0), api.OK, api.ErrShort, api.OK, api.ErrNone, api.OK},
		// That the day has no truth comes before all of it.
		{noTruth(), api.ErrFalse, api.ErrFalse, api.ErrFalse, api.ErrFalse, api.ErrFalse},
		{noTruth(first()), api.ErrFalse, api.ErrFalse, api.ErrFalse, api.ErrFalse, api.ErrFalse},
		{noTruth(third()), api.ErrFalse, api.ErrFalse, api.ErrFalse, api.ErrFalse, api.ErrFalse},
		{late(noTruth(third())), api.ErrFalse, api.ErrFalse, api.ErrFalse, api.ErrFalse, api.ErrFalse},
	} {
		checkErrors(t, answers(x.m, choices(x.m)[0]), map[string]api.Errno{
			"CheckMorning": api.OK, "Play": api.OK, "Bounds": x.bounds, "Reach": x.bounds, "Latest": x.latest, "Least": x.least, "First": x.wrongs, "Leave": x.leave,
		})
		if t.Failed() {
			t.Fatalf("with %v", x.m)
		}
	}
}

// wildNumber is near a limit, or far from all of them.
func wildNumber(r *rand.Rand) int {
	l := list(math.MinInt, -2, -1, 0, 1, 2, 3, 4, 5, 9, 10, 11, 20, 21, 59, 60, 61, 599, 600, 601, 2999999, 3000000, 3000001, math.MaxInt)
	return l[r.Intn(len(l))]
}

func wildRange(r *rand.Rand) train.Range {
	if r.Intn(2) == 0 {
		return to(wildNumber(r), wildNumber(r))
	}
	low := r.Intn(62) - 1
	return to(low, low+r.Intn(30)-1)
}

func wildMorning(r *rand.Rand) train.Morning {
	m := bareMorning(r)
	addReports(r, &m, r.Intn(4), r.Intn(2) == 0)
	for range r.Intn(3) {
		switch r.Intn(11) {
		case 0:
			m.Load = wildNumber(r)
		case 1:
			m.Start = wildNumber(r)
		case 2:
			m.Train = wildNumber(r)
		case 3:
			m.Out = wildRange(r)
		case 4:
			m.Back = wildRange(r)
		case 5:
			m.Out, m.Back = to(0, r.Intn(61)), to(0, r.Intn(61))
		case 6:
			m.Reports = append(m.Reports, train.Report{Kind: wildNumber(r), Number: wildRange(r)})
		case 7:
			m.Reports = append(m.Reports, report(r.Intn(6)-1, 0, 9))
		case 8:
			m.Reports = append(m.Reports, reports(r.Intn(5), third())...)
		case 9:
			m.Day.Women = append(m.Day.Women, bunch.Range(wildRange(r)))
		case 10:
			m.Day.Lots = append(m.Day.Lots, lot(0, 9, 9+r.Intn(1500)))
		}
	}
	return m
}

func isRange(r train.Range, low, high int) bool { return r.Lo >= low && r.Hi <= high && r.Lo <= r.Hi }

// checked says what CheckMorning has to return, in the words of the chapter.
func checked(m train.Morning) api.Errno {
	if e := bunch.CheckDay(m.Day); e != api.OK {
		return e
	}
	if len(m.Reports) > 5 {
		return api.ErrLimit
	}
	ok := m.Load >= 1 && m.Load <= 10 && m.Start >= 0 && m.Start <= 600 && m.Train >= 0 && m.Train <= 600 && isRange(m.Out, 0, 60) && isRange(m.Back, 0, 60)
	for _, what := range m.Reports {
		ok = ok && what.Kind >= 0 && what.Kind <= 3 && isRange(what.Number, 0, 3000000)
	}
	switch {
	case !ok:
		return api.ErrArg
	case sizes(m) > 2000:
		return api.ErrLimit
	}
	return api.OK
}

func TestP1_AnyArguments(t *testing.T) {
	r := rand.New(rand.NewSource(1))
	seen := map[api.Errno]int{}
	for range 3000 {
		m := wildMorning(r)
		tr := train.Truth{Out: wildNumber(r), Back: wildNumber(r)}
		for range r.Intn(4) {
			tr.Bunch.Feels, tr.Bunch.Stems = append(tr.Bunch.Feels, wildNumber(r)), append(tr.Bunch.Stems, wildNumber(r))
		}
		want := checked(m)
		seen[want]++
		if e := train.CheckMorning(m); e != want {
			t.Fatalf("CheckMorning of %v: %v, not %v", m, e, want)
		}
		all, proved := answers(m, tr), train.ProveTruth(m, tr)
		if want != api.OK {
			checkErrors(t, all, everyCall(want))
			if proved {
				t.Fatalf("%v, %v is proved", m, tr)
			}
		}
		checkErrors(t, all, nil)
		if t.Failed() {
			t.Fatalf("with %v, %v", m, tr)
		}
	}
	if seen[api.OK] < 300 || seen[api.ErrArg] < 300 || seen[api.ErrLimit] < 300 {
		t.Errorf("not enough of each kind: %v", seen)
	}
}

func TestP1_TheLargestMornings(t *testing.T) {
	// 2000 truths of a day in which all stems are flats, and the slowest boy.
	day := bunch.Day{Hand: 1, Flat: 1, Women: []bunch.Range{of(1, 2)}, Lots: []bunch.Lot{lot(0, 4991, 5000), lot(0, 5000, 5000), lot(0, 4991, 5000), lot(0, 5000, 5000)}}
	m := train.Morning{Day: day, Load: 1, Start: 600, Train: 600, Out: to(59, 60), Back: to(56, 60)}
	b, e := train.Bounds(m)
	if want := []train.Range{to(9991, 20000), to(9991, 20000), to(0, 0), to(600+9990*115+59, 600+19999*120+60)}; !slices.Equal(ranges(b), want) || e != api.OK {
		t.Errorf("Bounds: %v, %v, not %v", b, e, want)
	}
	// No truth is so late, though it can be reported.
	m.Reports = reports(5, report(train.Last, 2999999, 3000000))
	if l, e := train.Leave(m); !slices.Equal(l, list(0, 1, 2, 3, 4)) || e != api.OK {
		t.Errorf("Leave: %v, %v", l, e)
	}
	if n, e := train.Least(m); n != 0 || e != api.ErrShort {
		t.Errorf("Least: %d, %v", n, e)
	}
	// Ways that take no minutes, and a train that has not left: all reach it.
	m.Out, m.Back, m.Reports = to(0, 0), to(0, 0), nil
	if v, e := train.Reach(m); v != train.Always || e != api.OK {
		t.Errorf("Reach: %d, %v", v, e)
	}
	if b, e := train.Bounds(m); b.Caught != to(9991, 20000) || b.Last != to(600, 600) || e != api.OK {
		t.Errorf("Bounds of ways without minutes: %v, %v", b, e)
	}
}

func TestR3_EmptyIsNil(t *testing.T) {
	m := alone(0, 1, 5, 9, 2, 2)
	m.Day.Lots = nil
	g := copied(m)
	g.Day.Lots, g.Day.Counts, g.Reports = []bunch.Lot{}, []bunch.Count{}, []train.Report{}
	tr := train.Truth{Bunch: bunch.Truth{Feels: list(1)}, Out: 2, Back: 2}
	empty := train.Truth{Bunch: bunch.Truth{Feels: list(1), Stems: list()}, Out: 2, Back: 2}
	a, b := answers(m, tr), answers(g, empty)
	for i := range a {
		if a[i].e != b[i].e || !slices.Equal(a[i].numbers, b[i].numbers) {
			t.Errorf("%s: %v, and %v of lists without elements", a[i].name, a[i], b[i])
		}
	}
	if !train.ProveTruth(m, empty) || !train.ProveTruth(g, tr) {
		t.Error("nil and a list without elements are not the same")
	}
}

func TestR4_ArgumentsAreNotWrittenTo(t *testing.T) {
	for _, m := range mornings(150, 4) {
		was := copied(m)
		tr := choices(m)[0]
		feels, stems := slices.Clone(tr.Bunch.Feels), slices.Clone(tr.Bunch.Stems)
		before := answers(m, tr)
		train.ProveTruth(m, tr)
		if !same(m, was) || !slices.Equal(tr.Bunch.Feels, feels) || !slices.Equal(tr.Bunch.Stems, stems) {
			t.Fatalf("%v became %v, or %v was written to", was, m, tr)
		}
		for i, a := range answers(m, tr) {
			if a.e != before[i].e || !slices.Equal(a.numbers, before[i].numbers) {
				t.Fatalf("%s of %v: %v, and then %v", a.name, m, before[i], a)
			}
		}
	}
}

func TestR4_ListsWithRoomAreNotWrittenTo(t *testing.T) {
	// Behind each list there is memory that belongs to somebody else.
	m := counted(160, count(bunch.Hands, 23, 24))
	women, lots := append(m.Day.Women, of(9, 9)), append(m.Day.Lots, lot(9, 9, 9))
	counts, said := append(m.Day.Counts, count(9, 9, 9)), append([]train.Report{first()}, report(9, 9, 9))
	feels, stems := list(10, 99), list(241, 99)
	m.Day.Women, m.Day.Lots, m.Day.Counts, m.Reports = women[:1], lots[:1], counts[:1], said[:1]
	tr := train.Truth{Bunch: bunch.Truth{Feels: feels[:1], Stems: stems[:1]}, Out: 22, Back: 10}
	answers(m, tr)
	train.ProveTruth(m, tr)
	if women[1] != of(9, 9) || lots[1] != lot(9, 9, 9) || counts[1] != count(9, 9, 9) || said[1] != report(9, 9, 9) || feels[1] != 99 || stems[1] != 99 {
		t.Errorf("%v, %v, %v, %v, %v or %v was written to", women, lots, counts, said, feels, stems)
	}
}

func TestR4_ResultsAreInMemoryOfTheirOwn(t *testing.T) {
	m := ofChapter(160, third(), first(), third())
	l, e := train.Leave(m)
	if !slices.Equal(l, list(0, 2)) || e != api.OK {
		t.Fatalf("Leave: %v, %v", l, e)
	}
	l[0], l[1] = 99, 99
	_ = append(l, 98)
	if again, e := train.Leave(m); !slices.Equal(again, list(0, 2)) || e != api.OK {
		t.Errorf("Leave, after its result was written to: %v, %v", again, e)
	}
}

func TestExampleOfTheReadme(t *testing.T) {
	morning := train.Morning{
		Day:  bunch.Day{Hand: 1, Flat: 4, Women: []bunch.Range{{Lo: 10, Hi: 10}}, Lots: []bunch.Lot{{Woman: 0, Stems: bunch.Range{Lo: 238, Hi: 241}}}},
		Load: 2, Start: 100, Train: 182,
		Out: train.Range{Lo: 20, Hi: 22}, Back: train.Range{Lo: 10, Hi: 10},
		Reports: []train.Report{{Kind: train.Last, Number: train.Range{Lo: 183, Hi: 186}}},
	}
	if v, e := train.Reach(morning); v != train.Never || e != api.OK {
		t.Errorf("Reach: %d, %v", v, e)
	}
	if n, e := train.Latest(morning); n != 96 || e != api.OK {
		t.Errorf("Latest: %d, %v", n, e)
	}
	if n, e := train.Least(morning); n != 3 || e != api.OK {
		t.Errorf("Least: %d, %v", n, e)
	}
	if b, e := train.Bounds(morning); b.Flats != to(5, 6) || b.Caught != to(4, 4) || e != api.OK {
		t.Errorf("Bounds: %v, %v", b, e)
	}
	if l, e := train.Leave(morning); len(l) > 0 || e != api.OK {
		t.Errorf("Leave: %v, %v", l, e)
	}
}
