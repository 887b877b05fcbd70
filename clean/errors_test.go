package clean_test

import (
	"math"
	"math/rand"
	"slices"
	"testing"

	"watercress/api"
	"watercress/clean"
)

// answer is what a call returns, whatever it is called: numbers, and the error.
type answer struct {
	name    string
	numbers []int
	e       api.Errno
}

// answers calls everything that has an error, with these arguments.
func answers(y clean.Yard, bed, week int) []answer {
	var all []answer
	add := func(name string, e api.Errno, numbers ...int) { all = append(all, answer{name, numbers, e}) }
	add("CheckYard", clean.CheckYard(y))
	l, e := clean.Show(y)
	add("Show", e, l...)
	l, e = clean.Weeks(y, bed)
	add("Weeks", e, l...)
	v, e := clean.Empty(y, bed, week)
	add("Empty", e, numberBut0(v)...)
	v, e = clean.Fewest(y)
	add("Fewest", e, numberBut0(v)...)
	l, e = clean.Proof(y)
	add("Proof", e, l...)
	v, e = clean.First(y)
	add("First", e, numberBut0(v)...)
	l, e = clean.Leave(y)
	add("Leave", e, l...)
	return all
}

// numberBut0 has the number unless it is 0, so that with an error nothing may be in the list.
func numberBut0(n int) []int {
	if n == 0 {
		return nil
	}
	return list(n)
}

// checkErrors asks for the errors that are named; with each error there must be nothing else.
func checkErrors(t *testing.T, all []answer, want map[string]api.Errno) {
	t.Helper()
	for _, a := range all {
		if e, ok := want[a.name]; ok && a.e != e {
			t.Errorf("%s: %v, not %v", a.name, a.e, e)
		}
		if a.e != api.OK && len(a.numbers) > 0 {
			t.Errorf("%s: %v together with %v", a.name, a.numbers, a.e)
		}
	}
}

func everyCall(e api.Errno) map[string]api.Errno {
	want := map[string]api.Errno{}
	for _, a := range answers(clean.Yard{}, 0, 0) {
		want[a.name] = e
	}
	return want
}

func TestErrorsOfTheYard(t *testing.T) {
	for _, x := range []struct {
		what   string
		change func(y *clean.Yard)
		want   api.Errno
	}{
		{"the Last 10", func(y *clean.Yard) { y.Last = 10 }, api.ErrLimit},
		{"the greatest Last", func(y *clean.Yard) { y.Last = math.MaxInt }, api.ErrLimit},
		{"four Hands", func(y *clean.Yard) { y.Hands = 4 }, api.ErrLimit},
		{"the greatest number of Hands", func(y *clean.Yard) { y.Hands = math.MaxInt }, api.ErrLimit},
		{"seven beds", func(y *clean.Yard) { y.Beds = slices.Repeat([]clean.Bed{bed(1, 0, 0)}, 7) }, api.ErrLimit},
		{"six claims", func(y *clean.Yard) { y.Claims = slices.Repeat([]clean.Claim{first()}, 6) }, api.ErrLimit},
		{"a Last that is too great, and no Hands", func(y *clean.Yard) { y.Last, y.Hands = 10, 0 }, api.ErrLimit},
		{"too many Hands, and a Last below 0", func(y *clean.Yard) { y.Last, y.Hands = -1, 4 }, api.ErrLimit},
		{"seven beds that are not valid", func(y *clean.Yard) { y.Beds = make([]clean.Bed, 7) }, api.ErrLimit},
		{"six claims, and a Long that is not valid", func(y *clean.Yard) { y.Claims = make([]clean.Claim, 6); y.Beds[0].Long = 0 }, api.ErrLimit},
		{"a Last below 0", func(y *clean.Yard) { y.Last = -1 }, api.ErrArg},
		{"a Last below 0, and no beds", func(y *clean.Yard) { *y = yard(-1, 1) }, api.ErrArg},
		{"the least Last, and no beds", func(y *clean.Yard) { *y = yard(math.MinInt, 1) }, api.ErrArg},
		{"a Last before weeks of beds", func(y *clean.Yard) { y.Last = 3 }, api.ErrArg},
		{"no Hands", func(y *clean.Yard) { y.Hands = 0 }, api.ErrArg},
		{"no Hands, and no beds", func(y *clean.Yard) { *y = yard(3, 0) }, api.ErrArg},
		{"Hands below 0", func(y *clean.Yard) { y.Hands = -1 }, api.ErrArg},
		{"the Long 0", func(y *clean.Yard) { y.Beds[3].Long = 0 }, api.ErrArg},
		{"a Long below 0", func(y *clean.Yard) { y.Beds[3].Long = math.MinInt }, api.ErrArg},
		{"the Long 4", func(y *clean.Yard) { y.Beds[3].Long = 4 }, api.ErrArg},
		{"the greatest Long", func(y *clean.Yard) { y.Beds[3].Long = math.MaxInt }, api.ErrArg},
		{"a Begin that is no range", func(y *clean.Yard) { y.Beds[3].Begin = to(3, 2) }, api.ErrArg},
		{"a Begin before the week 0", func(y *clean.Yard) { y.Beds[3].Begin = to(-1, 3) }, api.ErrArg},
		{"a Begin after the last week", func(y *clean.Yard) { y.Beds[3].Begin = to(3, 6) }, api.ErrArg},
		{"a Begin as wide as ints are", func(y *clean.Yard) { y.Beds[3].Begin = to(math.MinInt, math.MaxInt) }, api.ErrArg},
		{"a claim about no bed", func(y *clean.Yard) { y.Claims[1].Bed = 4 }, api.ErrArg},
		{"a claim about a bed below 0", func(y *clean.Yard) { y.Claims[1].Bed = -1 }, api.ErrArg},
		{"a claim, and no beds", func(y *clean.Yard) { y.Beds = nil }, api.ErrArg},
		{"a Began that is no range", func(y *clean.Yard) { y.Claims[1].Began = to(1, 0) }, api.ErrArg},
		{"a Began before the week 0", func(y *clean.Yard) { y.Claims[1].Began = to(-1, 0) }, api.ErrArg},
		{"a Began after the last week", func(y *clean.Yard) { y.Claims[1].Began = to(0, 6) }, api.ErrArg},
		{"a Began as wide as ints are", func(y *clean.Yard) { y.Claims[1].Began = to(math.MinInt, math.MaxInt) }, api.ErrArg},
		{"too many lists of weeks", tooMany, api.ErrLimit},
		{"as many lists of weeks as there can be", func(y *clean.Yard) { *y = wide() }, api.ErrLimit},
		{"too many lists of weeks, and a Long that is not valid", func(y *clean.Yard) { tooMany(y); y.Beds[3].Long = 4 }, api.ErrArg},
		{"too many lists of weeks, and a claim about no bed", func(y *clean.Yard) { tooMany(y); y.Claims[1].Bed = 4 }, api.ErrArg},
	} {
		y := ofChapter(first(), second())
		x.change(&y)
		t.Run(x.what, func(t *testing.T) {
			// The bed and the week are wrong too, which does not count before the yard.
			checkErrors(t, answers(y, 9, 10), everyCall(x.want))
			checkErrors(t, answers(y, 0, 0), everyCall(x.want))
			if clean.ProveSchedule(y, list(0, 3, 2, 4)) || clean.ProveSchedule(y, nil) || clean.Prove(y, list(0, 1, 2, 3)) || clean.Prove(y, nil) {
				t.Error("proved of a yard that is not valid")
			}
		})
	}
}

// tooMany makes the sizes of the beds 6, 7, 6 and 8: these are 2016 together.
func tooMany(y *clean.Yard) {
	y.Last = 9
	for n, high := range list(5, 6, 5, 7) {
		y.Beds[n].Begin = to(0, high)
	}
}

// wide is as wide as ranges can be, so that its lists of weeks could not be tried one by one for long.
func wide() clean.Yard {
	return yard(9, 3, slices.Repeat([]clean.Bed{bed(1, 0, 9)}, 6)...)
}

func TestLimitsThatAreReached(t *testing.T) {
	for _, x := range []struct {
		what   string
		change func(y *clean.Yard)
	}{
		{"ten weeks", func(y *clean.Yard) { y.Last = 9 }},
		{"one week", func(y *clean.Yard) { *y = yard(0, 1, bed(1, 0, 0)) }},
		{"one hand", func(y *clean.Yard) { y.Hands, y.Beds[3].Begin = 1, to(5, 5); y.Beds[3].Long = 1 }},
		{"three hands", func(y *clean.Yard) { y.Hands = 3 }},
		{"no beds", func(y *clean.Yard) { y.Beds, y.Claims = nil, nil }},
		{"six beds", func(y *clean.Yard) {
			*y = yard(9, 1, bed(1, 0, 0), bed(1, 1, 1), bed(1, 2, 2), bed(1, 3, 3), bed(1, 4, 4), bed(1, 9, 9))
		}},
		{"five claims", func(y *clean.Yard) { y.Claims = slices.Repeat([]clean.Claim{second()}, 5) }},
		{"the Long 3", func(y *clean.Yard) { *y = yard(2, 1, bed(3, 0, 0)) }},
		{"the widest Begin", func(y *clean.Yard) { *y = yard(9, 1, bed(3, 0, 9)) }},
		{"claims about the last bed in the first and the last week", func(y *clean.Yard) { y.Claims = []clean.Claim{claim(3, 0, 0), claim(3, 5, 5)} }},
		{"the widest Began", func(y *clean.Yard) { y.Claims = []clean.Claim{claim(3, 0, 5)} }},
		{"2000 lists of weeks", func(y *clean.Yard) { *y = yard(9, 2, bed(1, 0, 9), bed(1, 0, 9), bed(1, 0, 9), bed(1, 8, 9)) }},
	} {
		y := ofChapter(first(), second())
		x.change(&y)
		checkErrors(t, answers(y, 0, 0), map[string]api.Errno{"CheckYard": api.OK, "Fewest": api.OK, "Leave": api.OK, "Proof": api.ErrNone})
		if t.Failed() {
			t.Fatalf("with %s", x.what)
		}
	}
}

// noSchedule has a claim that contradicts the others as well; one hand is too few.
func noSchedule() clean.Yard { return withHands(ofChapter(first()), 1) }

func TestErrRangeComesBeforeErrShortAndErrFail(t *testing.T) {
	for _, y := range []clean.Yard{ofChapter(), ofChapter(first()), noSchedule()} {
		for _, n := range list(-1, 6, math.MinInt, math.MaxInt) {
			checkErrors(t, answers(y, n, 0), map[string]api.Errno{"Weeks": api.ErrRange, "Empty": api.ErrRange})
			checkErrors(t, answers(y, 0, n), map[string]api.Errno{"Empty": api.ErrRange})
		}
		// There is a week 4, but no bed 4.
		checkErrors(t, answers(y, 4, 4), map[string]api.Errno{"Weeks": api.ErrRange, "Empty": api.ErrRange})
	}
	checkErrors(t, answers(ofChapter(), 3, 5), map[string]api.Errno{"Weeks": api.OK, "Empty": api.OK})
	// There is a bed 1, but no week 1.
	short := yard(0, 2, bed(1, 0, 0), bed(1, 0, 0), bed(1, 0, 0))
	checkErrors(t, answers(short, 1, 1), map[string]api.Errno{"Weeks": api.ErrShort, "Empty": api.ErrRange})
	checkErrors(t, answers(yard(9, 1), 0, 0), map[string]api.Errno{"Show": api.OK, "Weeks": api.ErrRange, "Empty": api.ErrRange})
}

func TestErrShortComesBeforeErrFailAndErrNone(t *testing.T) {
	for _, x := range []struct {
		y    clean.Yard
		want map[string]api.Errno
	}{
		{noSchedule(), map[string]api.Errno{"CheckYard": api.OK, "Show": api.ErrShort, "Weeks": api.ErrShort, "Empty": api.ErrShort, "Fewest": api.OK, "Proof": api.OK, "First": api.ErrShort, "Leave": api.ErrShort}},
		{withHands(ofChapter(), 1), map[string]api.Errno{"CheckYard": api.OK, "Show": api.ErrShort, "Weeks": api.ErrShort, "Empty": api.ErrShort, "Fewest": api.OK, "Proof": api.OK, "First": api.ErrShort, "Leave": api.ErrShort}},
		{yard(1, 3, bed(1, 0, 0), bed(2, 0, 0)), map[string]api.Errno{"CheckYard": api.OK, "Show": api.ErrShort, "Weeks": api.ErrShort, "Empty": api.ErrShort, "Fewest": api.ErrShort, "Proof": api.OK, "First": api.ErrShort, "Leave": api.ErrShort}},
		{ofChapter(first()), map[string]api.Errno{"CheckYard": api.OK, "Show": api.ErrFail, "Weeks": api.ErrFail, "Empty": api.ErrFail, "Fewest": api.OK, "Proof": api.ErrNone, "First": api.OK, "Leave": api.OK}},
		{ofChapter(second()), map[string]api.Errno{"CheckYard": api.OK, "Show": api.OK, "Weeks": api.OK, "Empty": api.OK, "Fewest": api.OK, "Proof": api.ErrNone, "First": api.ErrNone, "Leave": api.OK}},
	} {
		checkErrors(t, answers(x.y, 0, 0), x.want)
		if t.Failed() {
			t.Fatalf("with %v", x.y)
		}
	}
}

// wildNumber is near a limit, or far from all of them.
func wildNumber(r *rand.Rand) int {
	l := list(math.MinInt, -2, -1, 0, 1, 2, 3, 4, 5, 6, 8, 9, 10, 11, math.MaxInt)
	return l[r.Intn(len(l))]
}

func wildRange(r *rand.Rand) clean.Range {
	if r.Intn(2) == 0 {
		return to(wildNumber(r), wildNumber(r))
	}
	low := r.Intn(12) - 1
	return to(low, low+r.Intn(12)-1)
}

func wildYard(r *rand.Rand) clean.Yard {
	y := bareYard(r)
	if len(y.Beds) == 0 {
		return y
	}
	addClaims(r, &y, r.Intn(5), r.Intn(2) == 0)
	for range r.Intn(3) {
		switch n := r.Intn(len(y.Beds)); r.Intn(7) {
		case 0:
			y.Last = wildNumber(r)
		case 1:
			y.Hands = wildNumber(r)
		case 2:
			y.Beds[n].Long = wildNumber(r)
		case 3:
			y.Beds[n].Begin = wildRange(r)
		case 4:
			for i := range y.Beds {
				y.Beds[i].Begin = to(0, r.Intn(y.Last&7+1))
			}
		case 5:
			y.Claims = append(y.Claims, clean.Claim{Bed: wildNumber(r), Began: wildRange(r)})
		case 6:
			y.Beds = append(y.Beds, y.Beds[:r.Intn(len(y.Beds)+1)]...)
		}
	}
	return y
}

func isRange(r clean.Range, low, high int) bool { return r.Lo >= low && r.Hi <= high && r.Lo <= r.Hi }

// checked says what CheckYard has to return, in the words of the chapter.
func checked(y clean.Yard) api.Errno {
	if y.Last > 9 || y.Hands > 3 || len(y.Beds) > 6 || len(y.Claims) > 5 {
		return api.ErrLimit
	}
	ok := y.Last >= 0 && y.Hands >= 1
	sizes := 1.0
	for _, b := range y.Beds {
		ok = ok && b.Long >= 1 && b.Long <= 3 && isRange(b.Begin, 0, y.Last)
		sizes *= float64(b.Begin.Hi) - float64(b.Begin.Lo) + 1
	}
	for _, c := range y.Claims {
		ok = ok && c.Bed >= 0 && c.Bed < len(y.Beds) && isRange(c.Began, 0, y.Last)
	}
	switch {
	case !ok:
		return api.ErrArg
	case sizes > 2000:
		return api.ErrLimit
	}
	return api.OK
}

func TestP1_AnyArguments(t *testing.T) {
	r := rand.New(rand.NewSource(1))
	seen := map[api.Errno]int{}
	for range 5000 {
		y := wildYard(r)
		bed, week := wildNumber(r), wildNumber(r)
		var l []int
		for range r.Intn(8) {
			l = append(l, wildNumber(r))
		}
		all := answers(y, bed, week)
		want := checked(y)
		seen[want]++
		if e := clean.CheckYard(y); e != want {
			t.Fatalf("CheckYard of %v: %v, not %v", y, e, want)
		}
		proved := clean.ProveSchedule(y, l) || clean.Prove(y, l)
		if want != api.OK {
			checkErrors(t, all, everyCall(want))
			if proved {
				t.Fatalf("%v, %v is proved", y, l)
			}
		}
		checkErrors(t, all, nil)
		if t.Failed() {
			t.Fatalf("with %v, %d, %d, %v", y, bed, week, l)
		}
	}
	if seen[api.OK] < 100 || seen[api.ErrArg] < 100 || seen[api.ErrLimit] < 100 {
		t.Errorf("not enough of each kind: %v", seen)
	}
}

func TestP1_TheLargestYards(t *testing.T) {
	// All six beds have several weeks; 3 times 3 times 4 times 4 times 3 times 4 are 1728.
	y := yard(9, 3, bed(1, 0, 2), bed(1, 0, 2), bed(1, 0, 3), bed(1, 0, 3), bed(1, 0, 2), bed(1, 0, 3))
	y.Claims = slices.Repeat([]clean.Claim{claim(5, 9, 9)}, 5)
	if l, e := clean.Leave(y); !slices.Equal(l, list(0, 1, 2, 3, 4)) || e != api.OK {
		t.Errorf("Leave: %v, %v", l, e)
	}
	y.Claims = nil
	checkErrors(t, answers(y, 5, 9), map[string]api.Errno{"Show": api.OK, "Weeks": api.OK, "Empty": api.OK, "Proof": api.ErrNone, "First": api.ErrNone})
	// The last two beds can never be cleaned one after the other.
	y.Beds[4], y.Beds[5] = bed(3, 0, 2), bed(3, 0, 2)
	checkErrors(t, answers(y, 5, 9), map[string]api.Errno{"Show": api.ErrShort, "Fewest": api.ErrShort, "Proof": api.OK})
	if l, e := clean.Proof(y); !slices.Equal(l, list(4, 5)) || e != api.OK {
		t.Errorf("Proof: %v, %v", l, e)
	}
}

func TestR3_EmptyIsNil(t *testing.T) {
	for _, y := range []clean.Yard{yard(3, 1), ofChapter()} {
		g := copied(y)
		g.Beds, g.Claims = append([]clean.Bed{}, y.Beds...), []clean.Claim{}
		a, b := answers(y, 0, 0), answers(g, 0, 0)
		for i := range a {
			if a[i].e != b[i].e || !slices.Equal(a[i].numbers, b[i].numbers) {
				t.Errorf("%s: %v, and %v of lists without elements", a[i].name, a[i], b[i])
			}
		}
		if clean.ProveSchedule(y, nil) != clean.ProveSchedule(g, list()) || clean.Prove(y, nil) || clean.Prove(g, list()) {
			t.Error("nil and a list without elements are not the same")
		}
	}
}

func TestR4_ArgumentsAreNotWrittenTo(t *testing.T) {
	for _, y := range yards(150, 4) {
		was := copied(y)
		l := choices(y)[0]
		weeks, beds := slices.Clone(l), numbers(y)
		before := answers(y, 0, 0)
		clean.ProveSchedule(y, l)
		clean.Prove(y, beds)
		if !same(y, was) || !slices.Equal(l, weeks) || !slices.Equal(beds, numbers(y)) {
			t.Fatalf("%v became %v, or %v, %v were written to", was, y, l, beds)
		}
		for i, a := range answers(y, 0, 0) {
			if a.e != before[i].e || !slices.Equal(a.numbers, before[i].numbers) {
				t.Fatalf("%s of %v: %v, and then %v", a.name, y, before[i], a)
			}
		}
	}
}

func TestR4_ListsWithRoomAreNotWrittenTo(t *testing.T) {
	// Behind each list there is memory that belongs to somebody else.
	y := ofChapter(first(), second())
	beds, claims := append(y.Beds, bed(9, 9, 9)), append(y.Claims, claim(9, 9, 9))
	y.Beds, y.Claims = beds[:4], claims[:2]
	l := list(1, 2, 3, 99)
	answers(y, 0, 0)
	clean.Prove(withHands(y, 1), l[:3])
	clean.ProveSchedule(y, l[:3])
	if beds[4] != bed(9, 9, 9) || claims[2] != claim(9, 9, 9) || !slices.Equal(l, list(1, 2, 3, 99)) {
		t.Errorf("%v, %v or %v was written to", beds, claims, l)
	}
}

func TestR4_ResultsAreInMemoryOfTheirOwn(t *testing.T) {
	y := ofChapter(second())
	blunt := withHands(ofChapter(), 1)
	wrong := ofChapter(first(), second())
	for _, call := range []func() ([]int, api.Errno){
		func() ([]int, api.Errno) { return clean.Show(y) },
		func() ([]int, api.Errno) { return clean.Weeks(y, 3) },
		func() ([]int, api.Errno) { return clean.Proof(blunt) },
		func() ([]int, api.Errno) { return clean.Leave(wrong) },
	} {
		l, e := call()
		was := slices.Clone(l)
		for i := range l {
			l[i] = 99
		}
		_ = append(l, 98)
		if again, f := call(); len(was) == 0 || e != api.OK || f != api.OK || !slices.Equal(again, was) {
			t.Errorf("%v, and %v after this was written to", was, again)
		}
	}
}

func TestExampleOfTheReadme(t *testing.T) {
	yard := clean.Yard{
		Last: 4, Hands: 1,
		Beds:   []clean.Bed{{Long: 2, Begin: clean.Range{Lo: 0, Hi: 1}}, {Long: 2, Begin: clean.Range{Lo: 1, Hi: 3}}},
		Claims: []clean.Claim{{Bed: 0, Began: clean.Range{Lo: 1, Hi: 2}}},
	}
	if l, e := clean.Show(yard); !slices.Equal(l, list(1, 3)) || e != api.OK {
		t.Errorf("Show: %v, %v", l, e)
	}
	if l, e := clean.Weeks(yard, 1); !slices.Equal(l, list(3)) || e != api.OK {
		t.Errorf("Weeks: %v, %v", l, e)
	}
	if v, e := clean.Empty(yard, 0, 1); v != clean.Always || e != api.OK {
		t.Errorf("Empty: %d, %v", v, e)
	}
	if n, e := clean.Fewest(yard); n != 1 || e != api.OK {
		t.Errorf("Fewest: %d, %v", n, e)
	}
}
