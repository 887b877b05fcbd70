package frost_test

import (
	"math"
	"math/rand"
	"slices"
	"testing"

	"watercress/api"
	"watercress/frost"
	"watercress/warm"
)

// asked is what calls are asked beside the night.
type asked struct {
	plan  []int
	truth warm.Truth
	bed   int
}

// answer is what a call returns, whatever it is called: numbers, and the error.
type answer struct {
	name    string
	numbers []int
	e       api.Errno
}

// answers calls everything that has an error, with these arguments.
func answers(n frost.Night, x asked) []answer {
	var all []answer
	add := func(name string, e api.Errno, numbers ...int) { all = append(all, answer{name, numbers, e}) }
	add("CheckNight", frost.CheckNight(n))
	hours, e := frost.Play(n, x.plan, x.truth)
	add("Play", e, slices.Concat(hours...)...)
	v, e := frost.Saved(n, x.plan, x.bed)
	add("Saved", e, unlessZero(v)...)
	l, v, e := frost.Best(n)
	add("Best", e, append(unlessZero(v), l...)...)
	v, e = frost.Fewest(n)
	add("Fewest", e, unlessZero(v)...)
	l, e = frost.Proof(n)
	add("Proof", e, l...)
	return all
}

// unlessZero has the number of a result that is not zero.
func unlessZero(n int) []int {
	if n == 0 {
		return nil
	}
	return list(n)
}

// checkErrors asks for the errors that are named; with each error there must be nothing else.
func checkErrors(t *testing.T, all []answer, want map[string]api.Errno) {
	t.Helper()
	for _, a := range all {
		if e, ok := want[a.name]; ok && a.e != e {
			t.Errorf("%s: %v, not %v", a.name, a.e, e)
		}
		if a.e != api.OK && len(a.numbers) > 0 {
			t.Errorf("%s: %v together with %v", a.name, a.numbers, a.e)
		}
	}
}

func everyCall(e api.Errno) map[string]api.Errno {
	want := map[string]api.Errno{}
	for _, a := range answers(frost.Night{}, asked{}) {
		want[a.name] = e
	}
	return want
}

// fine is of the chapter's night; all of it is in range.
func fine() asked { return asked{plan: list(0, 1, -1), truth: truth(60, -30, -70), bed: 2} }

// nowhere has nothing that is in range.
func nowhere() asked { return asked{plan: list(9, -9), truth: truth(999), bed: -1} }

func TestErrorsOfTheNight(t *testing.T) {
	reading := warm.Reading{Bed: 0, Hour: 0, Seen: 15, Error: 20}
	for _, x := range []struct {
		what   string
		change func(n *frost.Night)
		want   api.Errno
	}{
		{"six depths", func(n *frost.Night) { n.Stream.Depths = slices.Repeat(list(1), 6) }, api.ErrLimit},
		{"five airs", func(n *frost.Night) { n.Stream.Air = make([]warm.Range, 5) }, api.ErrLimit},
		{"seven readings", func(n *frost.Night) { n.Stream.Readings = make([]warm.Reading, 7) }, api.ErrLimit},
		{"six depths, and the Deep 0", func(n *frost.Night) { n.Stream.Depths, n.Deep = make([]int, 6), 0 }, api.ErrLimit},
		{"five airs, and no hands", func(n *frost.Night) { n.Stream.Air, n.Hands = make([]warm.Range, 5), 0 }, api.ErrLimit},
		{"seven readings, and a Most below 0", func(n *frost.Night) { n.Stream.Readings, n.Most = make([]warm.Reading, 7), -1 }, api.ErrLimit},
		{"no depths", func(n *frost.Night) { n.Stream.Depths = nil }, api.ErrArg},
		{"no airs", func(n *frost.Night) { n.Stream.Air = nil }, api.ErrArg},
		{"a Rate below 0", func(n *frost.Night) { n.Stream.Rate = -1 }, api.ErrArg},
		{"a Rate above 100", func(n *frost.Night) { n.Stream.Rate = 101 }, api.ErrArg},
		{"a spring that is no range", func(n *frost.Night) { n.Stream.Spring = to(62, 60) }, api.ErrArg},
		{"a spring that is too wide", func(n *frost.Night) { n.Stream.Spring = to(60, 81) }, api.ErrArg},
		{"an air that is too cold", func(n *frost.Night) { n.Stream.Air[1] = to(-301, -300) }, api.ErrArg},
		{"an air as wide as ints are", func(n *frost.Night) { n.Stream.Air[1] = to(math.MinInt, math.MaxInt) }, api.ErrArg},
		{"the depth 0", func(n *frost.Night) { n.Stream.Depths[0] = 0 }, api.ErrArg},
		{"the least depth", func(n *frost.Night) { n.Stream.Depths[0] = math.MinInt }, api.ErrArg},
		{"the depth 7", func(n *frost.Night) { n.Stream.Depths[2] = 7 }, api.ErrArg},
		{"a reading that is right", func(n *frost.Night) { n.Stream.Readings = []warm.Reading{reading} }, api.ErrArg},
		{"six readings", func(n *frost.Night) { n.Stream.Readings = slices.Repeat([]warm.Reading{reading}, 6) }, api.ErrArg},
		{"a reading of no bed", func(n *frost.Night) { n.Stream.Readings = []warm.Reading{{Bed: 9}} }, api.ErrArg},
		{"a first bed that is deeper than Deep", func(n *frost.Night) { n.Stream.Depths[0] = 5 }, api.ErrArg},
		{"a last bed that is deeper than Deep", func(n *frost.Night) { n.Stream.Depths[2] = 5 }, api.ErrArg},
		{"a Deep less than a depth", func(n *frost.Night) { n.Stream.Depths[1], n.Deep = 2, 1 }, api.ErrArg},
		{"the Deep 0", func(n *frost.Night) { n.Deep = 0 }, api.ErrArg},
		{"the Deep 7", func(n *frost.Night) { n.Deep = 7 }, api.ErrArg},
		{"the least Deep", func(n *frost.Night) { n.Deep = math.MinInt }, api.ErrArg},
		{"the greatest Deep", func(n *frost.Night) { n.Deep = math.MaxInt }, api.ErrArg},
		{"no hands", func(n *frost.Night) { n.Hands = 0 }, api.ErrArg},
		{"four hands", func(n *frost.Night) { n.Hands = 4 }, api.ErrArg},
		{"the fewest hands", func(n *frost.Night) { n.Hands = math.MinInt }, api.ErrArg},
		{"the most hands", func(n *frost.Night) { n.Hands = math.MaxInt }, api.ErrArg},
		{"a Most below 0", func(n *frost.Night) { n.Most = -1 }, api.ErrArg},
		{"the Most 6", func(n *frost.Night) { n.Most = 6 }, api.ErrArg},
		{"the least Most", func(n *frost.Night) { n.Most = math.MinInt }, api.ErrArg},
		{"the greatest Most", func(n *frost.Night) { n.Most = math.MaxInt }, api.ErrArg},
	} {
		n := ofChapter(1, 2)
		x.change(&n)
		t.Run(x.what, func(t *testing.T) {
			// What is asked is wrong too, which does not count before the night.
			checkErrors(t, answers(n, fine()), everyCall(x.want))
			checkErrors(t, answers(n, nowhere()), everyCall(x.want))
			if frost.ProvePlan(n, fine().plan, 0) || frost.ProvePlan(n, list(-1, -1, -1), -1) || frost.Prove(n, list(2)) || frost.Prove(n, nil) {
				t.Error("proved of a night that is not valid")
			}
		})
	}
}

func TestLimitsThatAreReached(t *testing.T) {
	for _, x := range []struct {
		what   string
		change func(n *frost.Night)
	}{
		{"the chapter's night", func(n *frost.Night) {}},
		{"the Deep 6", func(n *frost.Night) { n.Deep = 6 }},
		{"the Deep 1", func(n *frost.Night) { n.Deep = 1 }},
		{"all beds as deep as Deep", func(n *frost.Night) { n.Stream.Depths = list(4, 4, 4) }},
		{"the depth 6 and the Deep 6", func(n *frost.Night) { n.Stream.Depths[1], n.Deep = 6, 6 }},
		{"one hand", func(n *frost.Night) { n.Hands = 1 }},
		{"three hands", func(n *frost.Night) { n.Hands = 3 }},
		{"the Most 0", func(n *frost.Night) { n.Most = 0 }},
		{"the Most 5, which is more than there are beds", func(n *frost.Night) { n.Most = 5 }},
		{"one bed", func(n *frost.Night) { n.Stream.Depths = list(1) }},
		{"five beds", func(n *frost.Night) { n.Stream.Depths = list(1, 2, 3, 4, 1) }},
		{"one hour", func(n *frost.Night) { n.Stream.Air = n.Stream.Air[:1] }},
		{"four hours", func(n *frost.Night) { n.Stream.Air = slices.Repeat(n.Stream.Air, 2) }},
		{"a list of no readings", func(n *frost.Night) { n.Stream.Readings = []warm.Reading{} }},
		{"a wide spring", func(n *frost.Night) { n.Stream.Spring = to(280, 300) }},
		{"wide airs", func(n *frost.Night) { n.Stream.Air = ranges(-300, -280, 280, 300) }},
	} {
		n := ofChapter(1, 2)
		x.change(&n)
		checkErrors(t, answers(n, asked{}), map[string]api.Errno{"CheckNight": api.OK, "Best": api.OK, "Fewest": api.OK})
		if t.Failed() {
			t.Fatalf("with %s", x.what)
		}
	}
}

func TestErrRangeOfPlay(t *testing.T) {
	for _, tr := range []warm.Truth{
		{}, truth(60), truth(60, -30), truth(60, -30, -70, -70), truth(59, -30, -70), truth(63, -30, -70), truth(60, -31, -70), truth(60, -29, -70), truth(60, -30, -71), truth(60, -30, -57), truth(60, -70, -30),
		truth(math.MinInt, -30, -70), truth(math.MaxInt, -30, -70), truth(60, math.MinInt, -70), truth(60, -30, math.MaxInt),
	} {
		ask := fine()
		ask.truth = tr
		checkErrors(t, answers(ofChapter(1, 2), ask), map[string]api.Errno{"Play": api.ErrRange, "Saved": api.OK})
		if t.Failed() {
			t.Fatalf("with the truth %v", tr)
		}
	}
}

func TestErrRangeOfPlans(t *testing.T) {
	for _, plan := range [][]int{
		nil, {}, {0}, {0, 1}, {0, 1, -1, -1}, {0, 1, -1, 0}, {2, -1, -1}, {-1, -1, 2}, {-2, -1, -1}, {-1, -1, -2}, {math.MinInt, -1, -1}, {-1, math.MaxInt, -1},
		{0, 0, -1}, {1, -1, 1}, {0, 0, 0}, {0, 1, 1}, {0, 1, 0}, slices.Repeat(list(-1), 10000),
	} {
		ask := fine()
		ask.plan = plan
		checkErrors(t, answers(ofChapter(1, 2), ask), map[string]api.Errno{"Play": api.ErrRange, "Saved": api.ErrRange, "Best": api.OK})
		if t.Failed() || frost.ProvePlan(ofChapter(1, 2), plan, 0) {
			t.Fatalf("with the plan %v", plan)
		}
	}
	// Hands are for one hour, and Most is for all of them.
	four := known(list(1, 1, 1, 1, 1), 4, 2, 3, 60, -30, -30, -30, -30)
	for _, x := range []struct {
		plan []int
		want api.Errno
	}{
		{list(3, 3, 0, -1, -1), api.OK}, {list(-1, 1, -1, 1, 2), api.OK}, {list(0, 1, 2, -1, -1), api.OK}, {list(3, 3, 3, -1, -1), api.ErrRange}, {list(0, 0, 3, 3, -1), api.ErrRange}, {list(0, 1, 2, 3, -1), api.ErrRange}, {list(4, -1, -1, -1, -1), api.ErrRange},
	} {
		checkErrors(t, answers(four, asked{plan: x.plan, truth: truth(60, -30, -30, -30, -30), bed: 4}), map[string]api.Errno{"Play": x.want, "Saved": x.want})
		if t.Failed() {
			t.Fatalf("with the plan %v", x.plan)
		}
	}
}

func TestErrRangeOfSaved(t *testing.T) {
	for _, bed := range list(-1, 3, 4, 5, 100, math.MinInt, math.MaxInt) {
		ask := fine()
		ask.bed = bed
		checkErrors(t, answers(ofChapter(1, 2), ask), map[string]api.Errno{"Play": api.OK, "Saved": api.ErrRange})
		if t.Failed() {
			t.Fatalf("with the bed %d", bed)
		}
	}
	// Beds and hours are not mixed.
	beds, hours := known(list(1, 1, 1), 4, 1, 1, 60, -30), known(list(1), 4, 1, 1, 60, -30, -30, -30)
	if _, e := frost.Saved(beds, list(-1, -1, -1), 2); e != api.OK {
		t.Errorf("Saved of the last of three beds: %v", e)
	}
	if _, e := frost.Saved(hours, list(2), 2); e != api.ErrRange {
		t.Errorf("Saved of the third of one bed: %v", e)
	}
}

func TestErrNoneOfProof(t *testing.T) {
	for _, x := range []struct {
		n    frost.Night
		want api.Errno
	}{
		{ofChapter(1, 2), api.OK}, {ofChapter(2, 3), api.ErrNone}, {ofChapter(3, 5), api.ErrNone}, {ofChapter(3, 0), api.OK}, {known(list(1), 1, 1, 0, 9, -8), api.ErrNone}, {known(list(1), 1, 1, 0, 8, -8), api.OK},
	} {
		checkErrors(t, answers(x.n, asked{}), map[string]api.Errno{"CheckNight": api.OK, "Best": api.OK, "Fewest": api.OK, "Proof": x.want})
		if t.Failed() {
			t.Fatalf("with %v", x.n)
		}
	}
}

// wildNumber is near a limit, or far from all of them.
func wildNumber(r *rand.Rand) int {
	l := list(math.MinInt, -301, -300, -2, -1, 0, 1, 2, 3, 4, 5, 6, 7, 20, 100, 101, 300, 301, math.MaxInt)
	return l[r.Intn(len(l))]
}

func wildNight(r *rand.Rand) frost.Night {
	n := anyNight(r, r.Intn(2) == 0)
	s := &n.Stream
	for range r.Intn(3) {
		switch r.Intn(12) {
		case 0:
			n.Deep = wildNumber(r)
		case 1:
			n.Hands = wildNumber(r)
		case 2:
			n.Most = wildNumber(r)
		case 3:
			s.Spring = to(wildNumber(r), wildNumber(r))
		case 4:
			s.Rate = wildNumber(r)
		case 5:
			s.Depths = append(s.Depths, wildNumber(r))
		case 6:
			s.Depths = slices.Repeat(s.Depths, r.Intn(3))
		case 7:
			s.Air = append(s.Air, to(wildNumber(r), wildNumber(r)))
		case 8:
			s.Air = slices.Repeat(s.Air, r.Intn(3))
		case 9:
			s.Readings = make([]warm.Reading, r.Intn(9))
		case 10:
			s.Readings = append(s.Readings, warm.Reading{Bed: wildNumber(r), Hour: wildNumber(r), Seen: wildNumber(r), Error: wildNumber(r)})
		case 11:
			s.Depths[0] = wildNumber(r)
		}
		if len(s.Depths) == 0 {
			break
		}
	}
	return n
}

// wildAsked can have a plan of the night, and a truth of it.
func wildAsked(r *rand.Rand, n frost.Night) asked {
	x := asked{bed: wildNumber(r), truth: truth(wildNumber(r))}
	if r.Intn(2) == 0 {
		x.truth.Spring = n.Stream.Spring.Lo
		for _, air := range n.Stream.Air {
			x.truth.Air = append(x.truth.Air, air.Hi)
		}
	}
	for range max(0, r.Intn(9)-3) {
		x.truth.Air = append(x.truth.Air, wildNumber(r))
	}
	if r.Intn(4) > 0 {
		x.plan = slices.Repeat(list(-1), len(n.Stream.Depths))
	}
	for range max(0, r.Intn(9)-3) {
		x.plan = append(x.plan, wildNumber(r))
	}
	if len(x.plan) > 0 && r.Intn(2) == 0 {
		x.plan[r.Intn(len(x.plan))] = r.Intn(len(n.Stream.Air) + 1)
	}
	return x
}

// checked says what CheckNight has to return, in the words of the chapter.
func checked(n frost.Night) api.Errno {
	if e := warm.CheckStream(n.Stream); e != api.OK {
		return e
	}
	if len(n.Stream.Readings) > 0 || n.Deep < 1 || n.Deep > 6 || slices.Max(n.Stream.Depths) > n.Deep || n.Hands < 1 || n.Hands > 3 || n.Most < 0 || n.Most > 5 {
		return api.ErrArg
	}
	return api.OK
}

// isOf reports whether the truth has one number of each range.
func isOf(n frost.Night, t warm.Truth) bool {
	is := has(n.Stream.Spring, t.Spring) && len(t.Air) == len(n.Stream.Air)
	for hour := 0; is && hour < len(t.Air); hour++ {
		is = has(n.Stream.Air[hour], t.Air[hour])
	}
	return is
}

func TestP1_AnyArguments(t *testing.T) {
	r := rand.New(rand.NewSource(1))
	seen, played, saved := map[api.Errno]int{}, map[api.Errno]int{}, map[api.Errno]int{}
	for range 6000 {
		n := wildNight(r)
		x := wildAsked(r, n)
		all := answers(n, x)
		want := everyCall(checked(n))
		seen[checked(n)]++
		if checked(n) == api.OK {
			delete(want, "Proof")
			if !isPlan(n, x.plan) || !isOf(n, x.truth) {
				want["Play"] = api.ErrRange
			}
			if !isPlan(n, x.plan) || x.bed < 0 || x.bed >= len(n.Stream.Depths) {
				want["Saved"] = api.ErrRange
			}
			played[want["Play"]]++
			saved[want["Saved"]]++
		}
		checkErrors(t, all, want)
		beds := []int{}
		for range r.Intn(4) {
			beds = append(beds, wildNumber(r))
		}
		proved := frost.ProvePlan(n, x.plan, wildNumber(r)) || frost.Prove(n, beds)
		if t.Failed() || proved && checked(n) != api.OK {
			t.Fatalf("with %v, %v, %v: proved %v", n, x, beds, proved)
		}
	}
	if seen[api.OK] < 100 || seen[api.ErrArg] < 100 || seen[api.ErrLimit] < 100 || played[api.OK] < 100 || played[api.ErrRange] < 100 || saved[api.OK] < 100 || saved[api.ErrRange] < 100 {
		t.Errorf("not enough of each kind: %v, %v, %v", seen, played, saved)
	}
}

func TestP1_TheLargestNight(t *testing.T) {
	s := warm.Stream{Spring: to(40, 60), Rate: 50, Depths: list(1, 1, 1, 1, 1), Air: slices.Repeat(ranges(-70, -50), 4)}
	n := frost.Night{Stream: s, Deep: 6, Hands: 3, Most: 5}
	// With three floods in the first hour 40 becomes 31, 23 and 16; the bed 3 would need a fourth one.
	if plan, many, e := frost.Best(n); many != 3 || e != api.OK || !frost.ProvePlan(n, plan, 3) {
		t.Errorf("Best: %v, %d, %v", plan, many, e)
	}
	if few, e := frost.Fewest(n); few != 3 || e != api.OK {
		t.Errorf("Fewest: %d, %v", few, e)
	}
	if l, e := frost.Proof(n); !slices.Equal(l, list(3)) || e != api.OK {
		t.Errorf("Proof: %v, %v", l, e)
	}
	// In the warmest truth 60 becomes 51, 43 and 36, and then -7.
	for bed, want := range list(always, always, always, never, never) {
		if v, e := frost.Saved(n, list(0, 0, 0, 1, 1), bed); v != want || e != api.OK {
			t.Errorf("Saved of %d: %d, %v", bed, v, e)
		}
	}
	// In the first hour the air is mild.
	n.Stream.Air[0] = to(0, 20)
	if plan, many, e := frost.Best(n); many != 5 || e != api.OK || !frost.ProvePlan(n, plan, 5) {
		t.Errorf("Best: %v, %d, %v", plan, many, e)
	}
	if few, e := frost.Fewest(n); few != 5 || e != api.OK {
		t.Errorf("Fewest: %d, %v", few, e)
	}
	if l, e := frost.Proof(n); len(l) > 0 || e != api.ErrNone {
		t.Errorf("Proof: %v, %v", l, e)
	}
}

func TestR3_EmptyIsNil(t *testing.T) {
	n := ofChapter(1, 2)
	m := with(n, func(n *frost.Night) { n.Stream.Readings = []warm.Reading{} })
	a, b := answers(n, fine()), answers(m, fine())
	for i := range a {
		if a[i].e != b[i].e || !slices.Equal(a[i].numbers, b[i].numbers) || a[i].e != api.OK {
			t.Errorf("%s: %v, and %v of a list without readings", a[i].name, a[i], b[i])
		}
	}
	if frost.Prove(n, nil) || frost.Prove(n, list()) || frost.ProvePlan(n, nil, 0) || frost.ProvePlan(n, list(), 0) {
		t.Error("nil and a list without elements are not the same")
	}
}

func TestR4_ArgumentsAreNotWrittenTo(t *testing.T) {
	for _, n := range nights(200, 4) {
		was := copied(n)
		all, in := plans(n), truths(n)
		ask := asked{plan: all[len(all)/2], truth: in[len(in)/2]}
		plan, air, beds := slices.Clone(ask.plan), slices.Clone(ask.truth.Air), list(0)
		before := answers(n, ask)
		frost.ProvePlan(n, ask.plan, 1)
		frost.Prove(n, beds)
		if !same(n, was) || !slices.Equal(ask.plan, plan) || !slices.Equal(ask.truth.Air, air) || !slices.Equal(beds, list(0)) {
			t.Fatalf("%v became %v, or %v, %v was written to", was, n, ask, beds)
		}
		for i, a := range answers(n, ask) {
			if a.e != before[i].e || !slices.Equal(a.numbers, before[i].numbers) {
				t.Fatalf("%s of %v: %v, and then %v", a.name, n, before[i], a)
			}
		}
	}
}

func TestR4_ListsWithRoomAreNotWrittenTo(t *testing.T) {
	// Behind each list there is memory that belongs to somebody else.
	n, ask := ofChapter(1, 2), fine()
	depths, airs := append(n.Stream.Depths, 99), append(n.Stream.Air, to(99, 99))
	plan, own, beds := append(ask.plan, 99), append(ask.truth.Air, 99), list(0, 2, 99)
	n.Stream.Depths, n.Stream.Air, ask.plan, ask.truth.Air = depths[:3], airs[:2], plan[:3], own[:2]
	checkErrors(t, answers(n, ask), everyCall(api.OK))
	if !frost.ProvePlan(n, ask.plan, 2) || !frost.Prove(n, beds[:2]) {
		t.Error("not proved")
	}
	if depths[3] != 99 || airs[2] != to(99, 99) || plan[3] != 99 || own[2] != 99 || beds[2] != 99 {
		t.Errorf("%v, %v, %v, %v or %v was written to", depths, airs, plan, own, beds)
	}
}

func TestR4_ResultsAreInMemoryOfTheirOwn(t *testing.T) {
	// The rows of equal hours are equal, and still not the same memory.
	n, plan, tr := known(list(1, 2), 4, 1, 2, 30, 0, 0, 0), list(0, -1), truth(30, 0, 0, 0)
	hours, e := frost.Play(n, plan, tr)
	if e != api.OK || !slices.Equal(hours[0], hours[2]) {
		t.Fatalf("Play: %v, %v", hours, e)
	}
	hours[0][0] = 99
	for _, row := range hours[1:] {
		if _ = append(hours[0], 98); row[0] == 99 || row[0] == 98 {
			t.Errorf("Play: rows share memory: %v", hours)
		}
	}
	if again, _ := frost.Play(n, plan, tr); again[0][0] == 99 || !slices.Equal(plan, list(0, -1)) {
		t.Errorf("Play, after its result was written to: %v", again)
	}
	for _, call := range []func() ([]int, api.Errno){
		func() ([]int, api.Errno) { return frost.Proof(ofChapter(1, 2)) },
		func() ([]int, api.Errno) {
			best, _, e := frost.Best(ofChapter(1, 2))
			return best, e
		},
	} {
		l, e := call()
		was := slices.Clone(l)
		for i := range l {
			l[i] = 99
		}
		if again, g := call(); !slices.Equal(again, was) || e != api.OK || g != api.OK {
			t.Errorf("%v, %v; after it was written to: %v, %v", was, e, again, g)
		}
	}
}

func TestExampleOfTheReadme(t *testing.T) {
	night := frost.Night{
		Stream: warm.Stream{
			Spring: warm.Range{Lo: 60, Hi: 62},
			Rate:   50,
			Depths: []int{1, 1, 1},
			Air:    []warm.Range{{Lo: -30, Hi: -30}, {Lo: -70, Hi: -58}},
		},
		Deep: 4, Hands: 1, Most: 2,
	}
	if v, e := frost.Saved(night, []int{-1, -1, -1}, 0); v != perhaps || e != api.OK {
		t.Errorf("Saved: %d, %v", v, e)
	}
	if plan, many, e := frost.Best(night); many != 2 || e != api.OK || !frost.ProvePlan(night, plan, 2) {
		t.Errorf("Best: %v, %d, %v", plan, many, e)
	}
	if !frost.ProvePlan(night, []int{0, 1, -1}, 2) {
		t.Error("ProvePlan: not proved")
	}
	if few, e := frost.Fewest(night); few != 2 || e != api.OK {
		t.Errorf("Fewest: %d, %v", few, e)
	}
	if l, e := frost.Proof(night); !slices.Equal(l, list(2)) || e != api.OK {
		t.Errorf("Proof: %v, %v", l, e)
	}
	truth := warm.Truth{Spring: 60, Air: []int{-30, -70}}
	if l, e := frost.Play(night, []int{0, 1, -1}, truth); !sameRows(l, rows(list(49, 10, -10), list(44, 30, -20))) || e != api.OK {
		t.Errorf("Play: %v, %v", l, e)
	}
}
