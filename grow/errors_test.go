package grow_test

import (
	"math"
	"math/rand"
	"slices"
	"testing"

	"watercress/api"
	"watercress/grow"
)

// answer is what a call returns, whatever it is called: numbers, and the error.
type answer struct {
	name    string
	numbers []int
	e       api.Errno
}

// answers calls everything that has an error, with these arguments.
func answers(s grow.Season, bed, week int, tr grow.Truth, p [][]int) []answer {
	var all []answer
	add := func(name string, e api.Errno, numbers ...int) { all = append(all, answer{name, numbers, e}) }
	add("CheckSeason", grow.CheckSeason(s))
	rows, e := grow.Play(s, tr, p)
	add("Play", e, flat(rows)...)
	r, e := grow.Height(s, bed, week)
	add("Height", e, numbersBut(r.Lo, r.Hi)...)
	v, e := grow.Ripe(s, bed, week)
	add("Ripe", e, numbersBut(v)...)
	best, v, e := grow.Best(s)
	add("Best", e, append(flat(best), numbersBut(v)...)...)
	r, e = grow.Yield(s, p)
	add("Yield", e, numbersBut(r.Lo, r.Hi)...)
	v, e = grow.First(s)
	add("First", e, numbersBut(v)...)
	l, e := grow.Leave(s)
	add("Leave", e, l...)
	return all
}

// flat has each row, with its length, so that there is something of a row without elements too.
func flat(rows [][]int) []int {
	var all []int
	for _, row := range rows {
		all = append(append(all, len(row)), row...)
	}
	return all
}

// numbersBut has the numbers unless they are all 0, so that with an error nothing may be in the list.
func numbersBut(l ...int) []int {
	for _, n := range l {
		if n != 0 {
			return l
		}
	}
	return nil
}

// checkErrors asks for the errors that are named; with each error there must be nothing else.
func checkErrors(t *testing.T, all []answer, want map[string]api.Errno) {
	t.Helper()
	for _, a := range all {
		if e, ok := want[a.name]; ok && a.e != e {
			t.Errorf("%s: %v, not %v", a.name, a.e, e)
		}
		if a.e != api.OK && len(a.numbers) > 0 {
			t.Errorf("%s: %v together with %v", a.name, a.numbers, a.e)
		}
	}
}

func everyCall(e api.Errno) map[string]api.Errno {
	want := map[string]api.Errno{}
	for _, a := range answers(grow.Season{}, 0, 0, grow.Truth{}, nil) {
		want[a.name] = e
	}
	return want
}

// twoBeds is the season of the chapter with another bed, and a look at it.
func twoBeds() grow.Season {
	s := ofChapter(first(), look(1, 3, 0, 99))
	s.Beds = append(s.Beds, grow.Bed{Flow: 9, Cut: to(0, 2)})
	return s
}

func TestErrorsOfTheSeason(t *testing.T) {
	for _, x := range []struct {
		what   string
		change func(s *grow.Season)
		want   api.Errno
	}{
		{"eleven weeks", func(s *grow.Season) { *s = steady(10, 99, 1, 1) }, api.ErrLimit},
		{"the greatest Last", func(s *grow.Season) { s.Last = math.MaxInt }, api.ErrLimit},
		{"four beds", func(s *grow.Season) { s.Beds = make([]grow.Bed, 4) }, api.ErrLimit},
		{"six looks", func(s *grow.Season) { s.Looks = make([]grow.Look, 6) }, api.ErrLimit},
		{"a Last that is too great, and a Stub that is not valid", func(s *grow.Season) { s.Last, s.Stub = 10, -1 }, api.ErrLimit},
		{"too many beds, and a Last below 0", func(s *grow.Season) { s.Beds = make([]grow.Bed, 4); s.Last = -1 }, api.ErrLimit},
		{"too many looks, and no beds", func(s *grow.Season) { s.Looks, s.Beds = make([]grow.Look, 6), nil }, api.ErrLimit},
		{"a Last below 0", func(s *grow.Season) { s.Last = -1 }, api.ErrArg},
		{"a Last below 0, and no weeks", func(s *grow.Season) { *s = steady(-1, 99, 1, 1) }, api.ErrArg},
		{"the least Last", func(s *grow.Season) { s.Last = math.MinInt }, api.ErrArg},
		{"a Stub below 0", func(s *grow.Season) { s.Stub = -1 }, api.ErrArg},
		{"the Stub 10", func(s *grow.Season) { s.Stub = 10 }, api.ErrArg},
		{"the Ripe 0", func(s *grow.Season) { s.Ripe = 0 }, api.ErrArg},
		{"a Ripe above Flower", func(s *grow.Season) { s.Ripe = 15 }, api.ErrArg},
		{"the Flower 100", func(s *grow.Season) { s.Flower = 100 }, api.ErrArg},
		{"Ripe and Flower 100", func(s *grow.Season) { s.Ripe, s.Flower = 100, 100 }, api.ErrArg},
		{"Knives below 0", func(s *grow.Season) { s.Knives = -1 }, api.ErrArg},
		{"four Knives", func(s *grow.Season) { s.Knives = 4 }, api.ErrArg},
		{"no Light", func(s *grow.Season) { s.Light = nil }, api.ErrArg},
		{"a Light too few", func(s *grow.Season) { s.Light = s.Light[:6] }, api.ErrArg},
		{"a Light too many", func(s *grow.Season) { s.Light = append(s.Light, 4) }, api.ErrArg},
		{"a Light below 0", func(s *grow.Season) { s.Light[6] = -1 }, api.ErrArg},
		{"the Light 10", func(s *grow.Season) { s.Light[6] = 10 }, api.ErrArg},
		{"no Warm", func(s *grow.Season) { s.Warm = nil }, api.ErrArg},
		{"a Warm too few", func(s *grow.Season) { s.Warm = s.Warm[:6] }, api.ErrArg},
		{"a Warm too many", func(s *grow.Season) { s.Warm = append(s.Warm, to(4, 4)) }, api.ErrArg},
		{"a Warm that is no range", func(s *grow.Season) { s.Warm[6] = to(4, 3) }, api.ErrArg},
		{"a Warm below 0", func(s *grow.Season) { s.Warm[6] = to(-1, 0) }, api.ErrArg},
		{"a Warm above 9", func(s *grow.Season) { s.Warm[6] = to(9, 10) }, api.ErrArg},
		{"a Warm as wide as ints are", func(s *grow.Season) { s.Warm[6] = to(math.MinInt, math.MaxInt) }, api.ErrArg},
		{"one week less than there are numbers", func(s *grow.Season) { s.Last = 5 }, api.ErrArg},
		{"one week more than there are numbers", func(s *grow.Season) { s.Last = 7 }, api.ErrArg},
		{"no beds", func(s *grow.Season) { s.Beds, s.Looks = nil, nil }, api.ErrArg},
		{"a list of no beds", func(s *grow.Season) { s.Beds, s.Looks = []grow.Bed{}, nil }, api.ErrArg},
		{"a Flow below 0", func(s *grow.Season) { s.Beds[1].Flow = -1 }, api.ErrArg},
		{"the Flow 10", func(s *grow.Season) { s.Beds[1].Flow = 10 }, api.ErrArg},
		{"a Cut that is no range", func(s *grow.Season) { s.Beds[1].Cut = to(2, 1) }, api.ErrArg},
		{"a Cut before the week 0", func(s *grow.Season) { s.Beds[1].Cut = to(-1, 2) }, api.ErrArg},
		{"a Cut after the last week", func(s *grow.Season) { s.Beds[1].Cut = to(2, 7) }, api.ErrArg},
		{"a Cut as wide as ints are", func(s *grow.Season) { s.Beds[1].Cut = to(math.MinInt, math.MaxInt) }, api.ErrArg},
		{"a look at no bed", func(s *grow.Season) { s.Looks[1].Bed = 2 }, api.ErrArg},
		{"a look at a bed below 0", func(s *grow.Season) { s.Looks[1].Bed = -1 }, api.ErrArg},
		{"a look in no week", func(s *grow.Season) { s.Looks[1].Week = 7 }, api.ErrArg},
		{"a look in a week below 0", func(s *grow.Season) { s.Looks[1].Week = -1 }, api.ErrArg},
		{"a Height that is no range", func(s *grow.Season) { s.Looks[1].Height = to(7, 6) }, api.ErrArg},
		{"a Height below 0", func(s *grow.Season) { s.Looks[1].Height = to(-1, 99) }, api.ErrArg},
		{"a Height above 99", func(s *grow.Season) { s.Looks[1].Height = to(0, 100) }, api.ErrArg},
		{"too many truths", func(s *grow.Season) { tooMany(s) }, api.ErrLimit},
		{"too many truths of weeks alone", func(s *grow.Season) { s.Warm = slices.Repeat([]grow.Range{to(0, 2)}, 7) }, api.ErrLimit},
		{"as many truths as there can be", func(s *grow.Season) { *s = wide() }, api.ErrLimit},
		{"too many truths, and a Stub that is not valid", func(s *grow.Season) { tooMany(s); s.Stub = 10 }, api.ErrArg},
		{"too many truths, and a look at no bed", func(s *grow.Season) { tooMany(s); s.Looks[1].Bed = 2 }, api.ErrArg},
	} {
		s := twoBeds()
		x.change(&s)
		t.Run(x.what, func(t *testing.T) {
			// The bed, the week, the truth and the plan are wrong too, which does not count before the season.
			checkErrors(t, answers(s, 9, 10, truth(nil), plan(weeks(3, 2))), everyCall(x.want))
			checkErrors(t, answers(s, 0, 0, truth(cool().Warm, 0, 0), plan(weeks(3, 5), nil)), everyCall(x.want))
			if grow.ProveTruth(s, truth(cool().Warm, 0, 0)) || grow.ProvePlan(s, plan(weeks(3, 5), nil)) || grow.ProvePlan(s, noPlan(s)) {
				t.Error("proved of a season that is not valid")
			}
		})
	}
}

// tooMany makes the sizes of three weeks 8, 9 and 7, and that of a bed 4: these are 2016 together.
func tooMany(s *grow.Season) {
	s.Warm[0], s.Warm[2], s.Warm[6], s.Beds[1].Cut = to(0, 7), to(1, 9), to(3, 9), to(0, 3)
}

// wide is as wide as ranges can be, so that its truths could not be counted one by one.
func wide() grow.Season {
	s := steady(9, 99, 3, 3)
	s.Warm = slices.Repeat([]grow.Range{to(0, 9)}, 10)
	for i := range s.Beds {
		s.Beds[i].Cut = to(0, 9)
	}
	return s
}

func TestLimitsThatAreReached(t *testing.T) {
	for _, x := range []struct {
		what   string
		change func(s *grow.Season)
	}{
		{"ten weeks and three beds", func(s *grow.Season) { *s = steady(9, 99, 3, 3) }},
		{"one week and one bed", func(s *grow.Season) { *s = steady(0, 99, 0, 1) }},
		{"five looks", func(s *grow.Season) { s.Looks = slices.Repeat([]grow.Look{first()}, 5) }},
		{"the Stub 0", func(s *grow.Season) { s.Stub = 0 }},
		{"the Stub 9", func(s *grow.Season) { s.Stub = 9 }},
		{"Ripe and Flower 1", func(s *grow.Season) { s.Ripe, s.Flower = 1, 1 }},
		{"Ripe and Flower 99", func(s *grow.Season) { s.Ripe, s.Flower = 99, 99 }},
		{"no Knives", func(s *grow.Season) { s.Knives = 0 }},
		{"more Knives than beds", func(s *grow.Season) { s.Knives = 3 }},
		{"the least and the greatest Light", func(s *grow.Season) { s.Light[0], s.Light[6] = 0, 9 }},
		{"the least and the greatest Warm", func(s *grow.Season) { s.Warm[0], s.Warm[6] = to(0, 0), to(9, 9) }},
		{"the widest Warm", func(s *grow.Season) { s.Warm[0] = to(0, 9) }},
		{"the least and the greatest Flow", func(s *grow.Season) { s.Beds[0].Flow, s.Beds[1].Flow = 0, 9 }},
		{"the widest Cut", func(s *grow.Season) { s.Beds[1].Cut = to(0, 6) }},
		{"a Cut in the last week", func(s *grow.Season) { s.Beds[1].Cut = to(6, 6) }},
		{"looks at the last bed in the first and the last week", func(s *grow.Season) { s.Looks[0], s.Looks[1] = look(1, 0, 0, 0), look(1, 6, 99, 99) }},
		{"2000 truths", func(s *grow.Season) {
			s.Warm[0], s.Warm[2], s.Warm[6], s.Beds[1].Cut = to(0, 9), to(0, 9), to(0, 9), to(3, 4)
		}},
	} {
		s := twoBeds()
		x.change(&s)
		if e := grow.CheckSeason(s); e != api.OK {
			t.Errorf("CheckSeason with %s: %v", x.what, e)
		}
		if _, e := grow.Leave(s); e != api.OK {
			t.Errorf("Leave with %s: %v", x.what, e)
		}
	}
}

func TestErrRangeOfPlay(t *testing.T) {
	for _, x := range []struct {
		t grow.Truth
		p [][]int
	}{
		{grow.Truth{}, plan(nil, nil)}, {truth(cool().Warm), plan(nil, nil)}, {truth(cool().Warm, 0), plan(nil, nil)}, {truth(cool().Warm, 0, 0, 0), plan(nil, nil)}, {truth(nil, 0, 0), plan(nil, nil)},
		{truth(cool().Warm[:6], 0, 0), plan(nil, nil)}, {truth(weeks(3, 3, 2, 3, 4, 4, 4, 4), 0, 0), plan(nil, nil)}, {truth(weeks(3, 3, 1, 3, 4, 4, 4), 0, 0), plan(nil, nil)}, {truth(weeks(3, 3, 4, 3, 4, 4, 4), 0, 0), plan(nil, nil)},
		{truth(cool().Warm, 0, 3), plan(nil, nil)}, {truth(cool().Warm, 0, -1), plan(nil, nil)}, {truth(cool().Warm, 1, 0), plan(nil, nil)}, {truth(weeks(math.MinInt, 3, 2, 3, 4, 4, 4), 0, math.MaxInt), plan(nil, nil)},
		{truth(cool().Warm, 0, 0), nil}, {truth(cool().Warm, 0, 0), plan(nil)}, {truth(cool().Warm, 0, 0), plan(nil, nil, nil)}, {truth(cool().Warm, 0, 0), plan(nil, weeks(7))}, {truth(cool().Warm, 0, 0), plan(nil, weeks(-1))},
		{truth(cool().Warm, 0, 0), plan(nil, weeks(2, 2))}, {truth(cool().Warm, 0, 0), plan(nil, weeks(2, 4, 3))}, {truth(cool().Warm, 0, 0), plan(weeks(math.MinInt), weeks(math.MaxInt))},
	} {
		for _, looks := range [][]grow.Look{nil, {first(), second()}} {
			s := twoBeds()
			s.Looks = looks
			if l, e := grow.Play(s, x.t, x.p); len(l) > 0 || e != api.ErrRange {
				t.Errorf("Play of %v, %v: %v, %v", x.t, x.p, l, e)
			}
		}
	}
}

// noTruth has looks that contradict each other.
func noTruth() grow.Season {
	s := twoBeds()
	s.Looks = []grow.Look{first(), second()}
	return s
}

func TestErrRangeComesBeforeErrFalse(t *testing.T) {
	for _, s := range []grow.Season{twoBeds(), noTruth()} {
		for _, n := range []int{-1, 7, math.MinInt, math.MaxInt} {
			checkErrors(t, answers(s, n, 0, cool(), plan(weeks(n), nil)), map[string]api.Errno{"Height": api.ErrRange, "Ripe": api.ErrRange, "Yield": api.ErrRange})
			checkErrors(t, answers(s, 0, n, cool(), plan(nil, weeks(n))), map[string]api.Errno{"Height": api.ErrRange, "Ripe": api.ErrRange, "Yield": api.ErrRange})
		}
		for _, p := range [][][]int{nil, plan(nil), plan(nil, nil, nil), plan(weeks(3, 3), nil), plan(nil, weeks(4, 3))} {
			if r, e := grow.Yield(s, p); r != (grow.Range{}) || e != api.ErrRange {
				t.Errorf("Yield of %v: %v, %v", p, r, e)
			}
			if grow.ProvePlan(s, p) {
				t.Errorf("ProvePlan of %v", p)
			}
		}
	}
	checkErrors(t, answers(noTruth(), 2, 3, cool(), nil), map[string]api.Errno{"Height": api.ErrRange, "Ripe": api.ErrRange})
	checkErrors(t, answers(noTruth(), 1, 6, cool(), nil), map[string]api.Errno{"Height": api.ErrFalse, "Ripe": api.ErrFalse})
}

func TestBedsAndWeeksAreNotMixed(t *testing.T) {
	short, tall := steady(0, 99, 1, 3), steady(2, 99, 1, 1)
	for _, x := range []struct {
		s         grow.Season
		bed, week int
		want      api.Errno
	}{{short, 2, 0, api.OK}, {short, 0, 2, api.ErrRange}, {tall, 0, 2, api.OK}, {tall, 2, 0, api.ErrRange}} {
		if _, e := grow.Height(x.s, x.bed, x.week); e != x.want {
			t.Errorf("Height of %v, %d, %d: %v", x.s, x.bed, x.week, e)
		}
		if _, e := grow.Ripe(x.s, x.bed, x.week); e != x.want {
			t.Errorf("Ripe of %v, %d, %d: %v", x.s, x.bed, x.week, e)
		}
		x.s.Looks = []grow.Look{look(x.bed, x.week, 0, 99)}
		if ok := grow.CheckSeason(x.s) == api.OK; ok != (x.want == api.OK) {
			t.Errorf("CheckSeason of %v: %v", x.s, ok)
		}
	}
}

func TestErrFalseComesBeforeErrShortAndErrFail(t *testing.T) {
	blunt := noTruth()
	blunt.Knives = 0
	for _, s := range []grow.Season{noTruth(), blunt} {
		for _, p := range [][][]int{plan(weeks(3, 5), nil), plan(weeks(0), nil), plan(nil, nil)} {
			checkErrors(t, answers(s, 0, 0, truth(cool().Warm, 0, 0), p), map[string]api.Errno{
				"CheckSeason": api.OK, "Play": api.OK, "Height": api.ErrFalse, "Ripe": api.ErrFalse, "Best": api.ErrFalse, "Yield": api.ErrFalse, "First": api.OK, "Leave": api.OK,
			})
			if grow.ProvePlan(s, p) {
				t.Errorf("ProvePlan of %v in a season that has no truth", p)
			}
		}
	}
}

func TestErrShortFailAndNone(t *testing.T) {
	blunt := ofChapter(first())
	blunt.Knives = 0
	for _, x := range []struct {
		s           grow.Season
		best, yield api.Errno
	}{{ofChapter(first()), api.OK, api.OK}, {blunt, api.ErrShort, api.ErrFail}} {
		checkErrors(t, answers(x.s, 0, 0, cool(), plan(weeks(4, 6))), map[string]api.Errno{
			"CheckSeason": api.OK, "Play": api.OK, "Height": api.OK, "Ripe": api.OK, "Best": x.best, "Yield": x.yield, "First": api.ErrNone, "Leave": api.OK,
		})
	}
}

// wildNumber is near a limit, or far from all of them.
func wildNumber(r *rand.Rand) int {
	l := []int{math.MinInt, -2, -1, 0, 1, 2, 3, 4, 5, 8, 9, 10, 11, 98, 99, 100, math.MaxInt}
	return l[r.Intn(len(l))]
}

func wildRange(r *rand.Rand) grow.Range {
	if r.Intn(2) == 0 {
		return to(wildNumber(r), wildNumber(r))
	}
	low := r.Intn(12) - 1
	return to(low, low+r.Intn(12)-1)
}

func wildSeason(r *rand.Rand) grow.Season {
	s := bareSeason(r, r.Intn(api.MaxGrowLast+1), 1+r.Intn(api.MaxGrowBeds))
	for range r.Intn(3) {
		switch r.Intn(9) {
		case 0:
			*[]*int{&s.Last, &s.Stub, &s.Ripe, &s.Flower, &s.Knives}[r.Intn(5)] = wildNumber(r)
		case 1:
			s.Light[r.Intn(len(s.Light))] = wildNumber(r)
		case 2:
			s.Warm[r.Intn(len(s.Warm))] = wildRange(r)
		case 3:
			for i := range s.Warm {
				s.Warm[i].Hi += r.Intn(3)
			}
		case 4:
			s.Light, s.Warm = slices.Repeat(s.Light, 1+r.Intn(2)), slices.Repeat(s.Warm, 1+r.Intn(2))
		case 5:
			s.Beds = append(s.Beds, grow.Bed{Flow: wildNumber(r), Cut: wildRange(r)})
		case 6:
			s.Beds[r.Intn(len(s.Beds))].Cut = wildRange(r)
		case 7:
			s.Looks = append(s.Looks, grow.Look{Bed: wildNumber(r), Week: wildNumber(r), Height: wildRange(r)})
		case 8:
			s.Looks = slices.Repeat([]grow.Look{look(r.Intn(3), r.Intn(5), r.Intn(5), 5+r.Intn(60))}, 4+r.Intn(3))
		}
	}
	return s
}

func isRange(r grow.Range, low, high int) bool { return r.Lo >= low && r.Hi <= high && r.Lo <= r.Hi }

// checked says what CheckSeason has to return, in the words of the chapter.
func checked(s grow.Season) api.Errno {
	if s.Last > 9 || len(s.Beds) > 3 || len(s.Looks) > 5 {
		return api.ErrLimit
	}
	ok := s.Last >= 0 && s.Stub >= 0 && s.Stub <= 9 && s.Ripe >= 1 && s.Ripe <= 99 && s.Flower >= s.Ripe && s.Flower <= 99 && s.Knives >= 0 && s.Knives <= 3
	ok = ok && len(s.Light) == s.Last+1 && len(s.Warm) == s.Last+1 && len(s.Beds) >= 1
	sizes := 1.0
	for _, n := range s.Light {
		ok = ok && n >= 0 && n <= 9
	}
	for _, r := range s.Warm {
		ok = ok && isRange(r, 0, 9)
		sizes *= float64(r.Hi) - float64(r.Lo) + 1
	}
	for _, b := range s.Beds {
		ok = ok && b.Flow >= 0 && b.Flow <= 9 && isRange(b.Cut, 0, s.Last)
		sizes *= float64(b.Cut.Hi) - float64(b.Cut.Lo) + 1
	}
	for _, l := range s.Looks {
		ok = ok && l.Bed >= 0 && l.Bed < len(s.Beds) && l.Week >= 0 && l.Week <= s.Last && isRange(l.Height, 0, 99)
	}
	switch {
	case !ok:
		return api.ErrArg
	case sizes > 2000:
		return api.ErrLimit
	}
	return api.OK
}

func TestP1_AnyArguments(t *testing.T) {
	r := rand.New(rand.NewSource(1))
	seen := map[api.Errno]int{}
	for range 3000 {
		s := wildSeason(r)
		bed, week := wildNumber(r), wildNumber(r)
		var tr grow.Truth
		for range r.Intn(11) {
			tr.Warm = append(tr.Warm, wildNumber(r))
		}
		var p [][]int
		for range r.Intn(4) {
			tr.Cuts = append(tr.Cuts, wildNumber(r))
			p = append(p, weeks(wildNumber(r), wildNumber(r))[:r.Intn(3)])
		}
		all := answers(s, bed, week, tr, p)
		want := checked(s)
		seen[want]++
		if e := grow.CheckSeason(s); e != want {
			t.Fatalf("CheckSeason of %v: %v, not %v", s, e, want)
		}
		proved := grow.ProveTruth(s, tr) || grow.ProvePlan(s, p)
		if want != api.OK {
			checkErrors(t, all, everyCall(want))
			if proved {
				t.Fatalf("%v, %v, %v is proved", s, tr, p)
			}
		}
		checkErrors(t, all, nil)
		if t.Failed() {
			t.Fatalf("with %v, %d, %d, %v, %v", s, bed, week, tr, p)
		}
	}
	if seen[api.OK] < 100 || seen[api.ErrArg] < 100 || seen[api.ErrLimit] < 100 {
		t.Errorf("not enough of each kind: %v", seen)
	}
}

func TestP1_TheLargestSeason(t *testing.T) {
	s := steady(9, 99, 3, 3)
	s.Stub = 1
	s.Warm[7], s.Warm[8], s.Warm[9], s.Beds[2].Cut = to(0, 9), to(0, 9), to(0, 9), to(0, 1)
	for bed := range 3 {
		if r, e := grow.Height(s, bed, 9); r.Hi != 46 || e != api.OK || r.Lo != 31-bed/2*5 {
			t.Errorf("Height of the bed %d: %v, %v", bed, r, e)
		}
	}
	// From the week 7 on it may not grow at all: only the weeks 1 to 6 make cress for a cut, and of the bed 2 those from 2 on.
	if p, n, e := grow.Best(s); n != 17 || e != api.OK || !grow.ProvePlan(s, p) {
		t.Errorf("Best: %v, %d, %v", p, n, e)
	}
	for i := range 5 {
		s.Looks = append(s.Looks, look(i%3, 9, 99, 99))
	}
	if l, e := grow.Leave(s); !slices.Equal(l, []int{0, 1, 2, 3, 4}) || e != api.OK {
		t.Errorf("Leave: %v, %v", l, e)
	}
}

func TestR3_EmptyIsNil(t *testing.T) {
	s, g := steady(3, 99, 1, 2), steady(3, 99, 1, 2)
	g.Looks = []grow.Look{}
	tr := truth(weeks(5, 5, 5, 5), 0, 0)
	a, b := answers(s, 0, 0, tr, plan(nil, nil)), answers(g, 0, 0, tr, plan(weeks(), weeks()))
	for i := range a {
		if a[i].e != b[i].e || !slices.Equal(a[i].numbers, b[i].numbers) {
			t.Errorf("%s: %v, and %v of lists without elements", a[i].name, a[i], b[i])
		}
	}
	if !grow.ProvePlan(s, plan(nil, weeks())) || !grow.ProveTruth(g, tr) {
		t.Error("a plan without cuts is not proved, or a truth without looks")
	}
}

func TestR4_ArgumentsAreNotWrittenTo(t *testing.T) {
	for _, s := range seasons(80, 4) {
		was := copied(s)
		tr := choices(s)[0]
		warm, cuts := slices.Clone(tr.Warm), slices.Clone(tr.Cuts)
		p := noPlan(s)
		p[0] = append(weeks(s.Last), 99)[:1]
		before := answers(s, 0, 0, tr, p)
		grow.ProveTruth(s, tr)
		grow.ProvePlan(s, p)
		if !same(s, was) || !slices.Equal(tr.Warm, warm) || !slices.Equal(tr.Cuts, cuts) || !slices.Equal(p[0][:2], weeks(s.Last, 99)) {
			t.Fatalf("%v became %v, or %v, %v were written to", was, s, tr, p)
		}
		for i, a := range answers(s, 0, 0, tr, p) {
			if a.e != before[i].e || !slices.Equal(a.numbers, before[i].numbers) {
				t.Fatalf("%s of %v: %v, and then %v", a.name, s, before[i], a)
			}
		}
	}
}

func TestR4_ListsWithRoomAreNotWrittenTo(t *testing.T) {
	// Behind each list there is memory that belongs to somebody else.
	s := twoBeds()
	warm := append(slices.Clone(s.Warm), to(9, 9), to(9, 9), to(9, 9))
	s.Warm = warm[:7]
	for _, a := range answers(s, 0, 0, truth(cool().Warm, 0, 0), plan(nil, nil)) {
		if !slices.Equal(warm[7:], []grow.Range{to(9, 9), to(9, 9), to(9, 9)}) {
			t.Fatalf("%s: %v", a.name, warm)
		}
	}
}

func TestR4_ResultsAreInMemoryOfTheirOwn(t *testing.T) {
	s := steady(4, 99, 3, 3)
	tr := truth(weeks(5, 5, 5, 5, 5), 0, 0, 0)
	played, e := grow.Play(s, tr, plan(nil, nil, nil))
	best, _, f := grow.Best(s)
	if e != api.OK || f != api.OK {
		t.Fatalf("Play, Best: %v, %v", e, f)
	}
	for _, rows := range [][][]int{played, best} {
		if !slices.Equal(rows[0], rows[1]) || !slices.Equal(rows[0], rows[2]) {
			t.Fatalf("the beds are equal, but have %v", rows)
		}
		was := slices.Clone(rows[1])
		rows[0][0] = 99
		_ = append(rows[0], 98)
		if !slices.Equal(rows[1], was) || !slices.Equal(rows[2], was) {
			t.Errorf("rows share memory: %v", rows)
		}
	}
	if again, _ := grow.Play(s, tr, plan(nil, nil, nil)); again[0][0] != 0 {
		t.Errorf("Play, after its result was written to: %v", again)
	}
	if again, _, _ := grow.Best(s); again[0][0] != 1 {
		t.Errorf("Best, after its result was written to: %v", again)
	}
}

func TestExampleOfTheReadme(t *testing.T) {
	season := grow.Season{
		Last: 3, Stub: 2, Ripe: 6, Flower: 12, Knives: 1,
		Light: []int{3, 4, 4, 4},
		Warm:  []grow.Range{{Lo: 3, Hi: 3}, {Lo: 4, Hi: 4}, {Lo: 2, Hi: 4}, {Lo: 4, Hi: 4}},
		Beds:  []grow.Bed{{Flow: 4, Cut: grow.Range{Lo: 0, Hi: 1}}},
		Looks: []grow.Look{{Bed: 0, Week: 1, Height: grow.Range{Lo: 5, Hi: 9}}},
	}
	if r, e := grow.Height(season, 0, 2); r != to(8, 10) || e != api.OK {
		t.Errorf("Height: %v, %v", r, e)
	}
	if v, e := grow.Ripe(season, 0, 2); v != grow.Always || e != api.OK {
		t.Errorf("Ripe: %d, %v", v, e)
	}
	if p, n, e := grow.Best(season); n != 2 || !grow.ProvePlan(season, p) || e != api.OK {
		t.Errorf("Best: %v, %d, %v", p, n, e)
	}
	if r, e := grow.Yield(season, plan(weeks(2, 3))); r != to(10, 12) || e != api.OK {
		t.Errorf("Yield: %v, %v", r, e)
	}
}
