package bed_test

import (
	"math"
	"math/rand"
	"slices"
	"testing"

	"watercress/api"
	"watercress/bed"
)

// answer is what a call returns, whatever it is called: numbers, and the error if it has one.
type answer struct {
	name    string
	numbers []int
	e       api.Errno
}

// answers calls everything that has an error, with these arguments.
func answers(f bed.Farm, n, notch int, flows []int) []answer {
	var all []answer
	add := func(name string, e api.Errno, numbers ...int) { all = append(all, answer{name, numbers, e}) }
	add("CheckFarm", bed.CheckFarm(f))
	water, e := bed.Play(f, flows)
	var numbers []int
	for _, w := range water {
		numbers = append(numbers, w.In, w.Kept, w.Over)
	}
	add("Play", e, numbers...)
	bounds, e := bed.Bounds(f)
	numbers = nil
	for _, b := range bounds {
		numbers = append(numbers, b.In.Lo, b.In.Hi, b.Kept.Lo, b.Kept.Hi, b.Over.Lo, b.Over.Hi)
	}
	add("Bounds", e, numbers...)
	v, e := bed.Fed(f, n)
	add("Fed", e, numbersBut(v)...)
	l, e := bed.Fewest(f)
	add("Fewest", e, l...)
	c, l, e := bed.Cut(f)
	add("Cut", e, append(numbersBut(c), l...)...)
	l, e = bed.Forgotten(f, n, notch)
	add("Forgotten", e, l...)
	v, e = bed.First(f)
	add("First", e, numbersBut(v)...)
	l, e = bed.Leave(f)
	add("Leave", e, l...)
	return all
}

// numbersBut has the number unless it is 0, so that with an error nothing may be in the list.
func numbersBut(n int) []int {
	if n == 0 {
		return nil
	}
	return []int{n}
}

func errorOf(all []answer, name string) api.Errno {
	i := slices.IndexFunc(all, func(a answer) bool { return a.name == name })
	return all[i].e
}

func checkErrors(t *testing.T, all []answer, want map[string]api.Errno) {
	t.Helper()
	for _, a := range all {
		if e, ok := want[a.name]; ok && a.e != e {
			t.Errorf("%s: %v, not %v", a.name, a.e, e)
		}
		if a.e != api.OK && len(a.numbers) > 0 {
			t.Errorf("%s: %v together with %v", a.name, a.numbers, a.e)
		}
	}
}

func everyCall(e api.Errno) map[string]api.Errno {
	want := map[string]api.Errno{}
	for _, a := range answers(bed.Farm{}, 0, 0, nil) {
		want[a.name] = e
	}
	return want
}

func TestErrorsOfTheFarm(t *testing.T) {
	twenty := bed.Spring{Flow: to(0, 19)}
	for _, x := range []struct {
		what   string
		change func(f *bed.Farm)
		want   api.Errno
	}{
		{"nine beds", func(f *bed.Farm) { f.Beds = make([]bed.Bed, 9) }, api.ErrLimit},
		{"five springs", func(f *bed.Farm) { f.Springs = make([]bed.Spring, 5) }, api.ErrLimit},
		{"six looks", func(f *bed.Farm) { f.Looks = make([]bed.Look, 6) }, api.ErrLimit},
		{"too many looks before a bed that is not valid", func(f *bed.Farm) { f.Looks = make([]bed.Look, 6); f.Beds[0].Need = -1 }, api.ErrLimit},
		{"no beds", func(f *bed.Farm) { f.Beds = nil }, api.ErrArg},
		{"a list of no beds", func(f *bed.Farm) { *f = bed.Farm{Beds: []bed.Bed{}} }, api.ErrArg},
		{"need too small", func(f *bed.Farm) { f.Beds[1].Need = -1 }, api.ErrArg},
		{"need too great", func(f *bed.Farm) { f.Beds[1].Need = 10 }, api.ErrArg},
		{"notch too small", func(f *bed.Farm) { f.Beds[1].Notch = -1 }, api.ErrArg},
		{"notch too great", func(f *bed.Farm) { f.Beds[1].Notch = 10 }, api.ErrArg},
		{"down to itself", func(f *bed.Farm) { f.Beds[1].Down = 1 }, api.ErrArg},
		{"up", func(f *bed.Farm) { f.Beds[1].Down = 0 }, api.ErrArg},
		{"down to no bed", func(f *bed.Farm) { f.Beds[1].Down = 4 }, api.ErrArg},
		{"below -1", func(f *bed.Farm) { f.Beds[1].Down = -2 }, api.ErrArg},
		{"spring of no bed", func(f *bed.Farm) { f.Springs[1].Bed = 4 }, api.ErrArg},
		{"spring below 0", func(f *bed.Farm) { f.Springs[1].Bed = -1 }, api.ErrArg},
		{"flow below 0", func(f *bed.Farm) { f.Springs[1].Flow = to(-1, 2) }, api.ErrArg},
		{"flow too great", func(f *bed.Farm) { f.Springs[1].Flow = to(29, 31) }, api.ErrArg},
		{"flow that is no range", func(f *bed.Farm) { f.Springs[1].Flow = to(3, 2) }, api.ErrArg},
		{"look at no bed", func(f *bed.Farm) { f.Looks[0].Bed = 4 }, api.ErrArg},
		{"look below 0", func(f *bed.Farm) { f.Looks[0].Bed = -1 }, api.ErrArg},
		{"water below 0", func(f *bed.Farm) { f.Looks[0].Water = to(-1, 2) }, api.ErrArg},
		{"water too great", func(f *bed.Farm) { f.Looks[0].Water = to(0, 121) }, api.ErrArg},
		{"water that is no range", func(f *bed.Farm) { f.Looks[0].Water = to(3, 2) }, api.ErrArg},
		{"a bed that is not valid before too many truths", func(f *bed.Farm) {
			f.Springs = []bed.Spring{twenty, twenty, twenty}
			f.Beds[3].Notch = 10
		}, api.ErrArg},
		{"too many truths", func(f *bed.Farm) { f.Springs = []bed.Spring{twenty, twenty, {Flow: to(7, 12)}} }, api.ErrLimit},
	} {
		f := ofChapter(firstLook())
		x.change(&f)
		t.Run(x.what, func(t *testing.T) {
			// The bed, the notch and the flows are wrong too, which does not count before the farm.
			checkErrors(t, answers(f, 9, 99, []int{99}), everyCall(x.want))
			if bed.ProveTruth(f, []int{4, 5}) || bed.ProveCut(f, 3, []int{4, 5}) {
				t.Error("proved of a farm that is not valid")
			}
		})
	}
}

func TestLimitsThatAreReached(t *testing.T) {
	twenty := bed.Spring{Flow: to(0, 19)}
	for _, x := range []struct {
		what string
		f    bed.Farm
	}{
		{"eight beds, four springs, five looks", bed.Farm{Beds: slices.Repeat([]bed.Bed{{Need: 9, Notch: 9, Down: -1}}, 8), Springs: slices.Repeat([]bed.Spring{{Bed: 7, Flow: to(30, 30)}}, 4), Looks: slices.Repeat([]bed.Look{look(7, true, 0, 120)}, 5)}},
		{"2000 truths", bed.Farm{Beds: []bed.Bed{{Down: -1}}, Springs: []bed.Spring{twenty, twenty, {Flow: to(26, 30)}}}},
		{"a bed without springs", bed.Farm{Beds: []bed.Bed{{Down: -1}}}},
		{"beds that meet at the last one", bed.Farm{Beds: []bed.Bed{{Down: 2}, {Down: 2}, {Down: -1}}}},
	} {
		if e := bed.CheckFarm(x.f); e != api.OK {
			t.Errorf("CheckFarm of %s: %v", x.what, e)
		}
		if _, e := bed.Bounds(x.f); e != api.OK {
			t.Errorf("Bounds of %s: %v", x.what, e)
		}
	}
}

func TestErrRangeOfPlay(t *testing.T) {
	for _, flows := range [][]int{nil, {4}, {4, 5, 0}, {3, 5}, {4, 7}, {6, 5}, {4, 4}, {math.MinInt, math.MaxInt}} {
		if l, e := bed.Play(ofChapter(), flows); len(l) > 0 || e != api.ErrRange {
			t.Errorf("Play of %v: %v, %v", flows, l, e)
		}
		if bed.ProveTruth(ofChapter(), flows) || bed.ProveCut(ofChapter(), 3, flows) {
			t.Errorf("%v is proved", flows)
		}
	}
}

func TestErrRangeComesBeforeErrFalse(t *testing.T) {
	for _, f := range []bed.Farm{ofChapter(), ofChapter(firstLook(), falseLook())} {
		for _, n := range []int{-1, 4, math.MinInt, math.MaxInt} {
			all := answers(f, n, 2, []int{4, 5})
			checkErrors(t, all, map[string]api.Errno{"Fed": api.ErrRange, "Forgotten": api.ErrRange, "Play": api.OK, "Leave": api.OK})
		}
		for _, notch := range []int{-1, 10, math.MinInt, math.MaxInt} {
			if l, e := bed.Forgotten(f, 0, notch); len(l) > 0 || e != api.ErrRange {
				t.Errorf("Forgotten of the notch %d: %v, %v", notch, l, e)
			}
		}
	}
	for _, n := range []int{-1, 4} {
		if bed.ProveCut(ofChapter(), n, []int{4, 5}) {
			t.Errorf("ProveCut of the bed %d", n)
		}
	}
	for _, notch := range []int{0, 9} {
		if _, e := bed.Forgotten(ofChapter(), 3, notch); e != api.OK {
			t.Errorf("Forgotten of the notch %d: %v", notch, e)
		}
	}
}

func TestErrFalseShortAndNone(t *testing.T) {
	for _, x := range []struct {
		f    bed.Farm
		want map[string]api.Errno
	}{
		{ofChapter(firstLook(), falseLook()), map[string]api.Errno{"CheckFarm": api.OK, "Play": api.OK, "Bounds": api.ErrFalse, "Fed": api.ErrFalse, "Fewest": api.ErrFalse, "Cut": api.ErrFalse, "Forgotten": api.ErrFalse, "First": api.OK, "Leave": api.OK}},
		{ofChapter(firstLook()), map[string]api.Errno{"Bounds": api.OK, "Fed": api.OK, "Fewest": api.OK, "Cut": api.ErrNone, "Forgotten": api.OK, "First": api.ErrNone, "Leave": api.OK}},
		{ofChapter(), map[string]api.Errno{"Bounds": api.OK, "Fed": api.OK, "Fewest": api.ErrShort, "Cut": api.OK, "Forgotten": api.OK, "First": api.ErrNone, "Leave": api.OK}},
	} {
		checkErrors(t, answers(x.f, 3, 3, []int{4, 5}), x.want)
	}
}

// wildNumber is near a limit, or far from all of them.
func wildNumber(r *rand.Rand) int {
	l := []int{math.MinInt, -2, -1, 0, 1, 2, 3, 5, 8, 9, 10, 30, 31, 120, 121, math.MaxInt}
	return l[r.Intn(len(l))]
}

func wildFarm(r *rand.Rand) bed.Farm {
	f := bareFarm(r, 20)
	for range 1 + r.Intn(3) {
		switch r.Intn(8) {
		case 0:
			f.Beds = append(f.Beds, bed.Bed{Need: wildNumber(r), Notch: wildNumber(r), Down: wildNumber(r)})
		case 1:
			f.Springs = append(f.Springs, bed.Spring{Bed: wildNumber(r), Flow: to(wildNumber(r), wildNumber(r))})
		case 2:
			f.Looks = append(f.Looks, bed.Look{Bed: wildNumber(r), Over: true, Water: to(wildNumber(r), wildNumber(r))})
		case 3:
			f.Beds[r.Intn(len(f.Beds))].Down = wildNumber(r)
		case 4:
			f.Beds[r.Intn(len(f.Beds))].Notch = wildNumber(r)
		case 5:
			f.Beds[r.Intn(len(f.Beds))].Need = wildNumber(r)
		case 6:
			f.Looks = append(f.Looks, look(r.Intn(len(f.Beds)), false, wildNumber(r), wildNumber(r)))
		case 7:
			f.Springs = append(f.Springs, bed.Spring{Flow: to(wildNumber(r), wildNumber(r))})
		}
	}
	return f
}

// checked says what CheckFarm has to return, in the words of the chapter.
func checked(f bed.Farm) api.Errno {
	if len(f.Beds) > 8 || len(f.Springs) > 4 || len(f.Looks) > 5 {
		return api.ErrLimit
	}
	ok := len(f.Beds) >= 1
	for i, b := range f.Beds {
		ok = ok && b.Need >= 0 && b.Need <= 9 && b.Notch >= 0 && b.Notch <= 9 && (b.Down == -1 || b.Down > i && b.Down < len(f.Beds))
	}
	many := 1
	for _, s := range f.Springs {
		ok = ok && s.Bed >= 0 && s.Bed < len(f.Beds) && s.Flow.Lo >= 0 && s.Flow.Lo <= s.Flow.Hi && s.Flow.Hi <= 30
		if ok {
			many *= s.Flow.Hi - s.Flow.Lo + 1
		}
	}
	for _, l := range f.Looks {
		ok = ok && l.Bed >= 0 && l.Bed < len(f.Beds) && l.Water.Lo >= 0 && l.Water.Lo <= l.Water.Hi && l.Water.Hi <= 120
	}
	if !ok {
		return api.ErrArg
	}
	if many > 2000 {
		return api.ErrLimit
	}
	return api.OK
}

func TestP1_AnyArguments(t *testing.T) {
	r := rand.New(rand.NewSource(1))
	seen := map[api.Errno]int{}
	for range 4000 {
		f := wildFarm(r)
		n, notch := wildNumber(r), wildNumber(r)
		flows := make([]int, r.Intn(6))
		for i := range flows {
			flows[i] = wildNumber(r)
		}
		all := answers(f, n, notch, flows)
		want := checked(f)
		seen[want]++
		if e := errorOf(all, "CheckFarm"); e != want {
			t.Fatalf("CheckFarm of %v: %v, not %v", f, e, want)
		}
		proved := bed.ProveTruth(f, flows)
		cut := bed.ProveCut(f, n, flows)
		if want != api.OK {
			checkErrors(t, all, everyCall(want))
			if proved || cut {
				t.Fatalf("%v, %v is proved", f, flows)
			}
		}
		checkErrors(t, all, nil)
		if t.Failed() {
			t.Fatalf("with %v, %d, %d, %v", f, n, notch, flows)
		}
	}
	if seen[api.OK] < 100 || seen[api.ErrArg] < 100 || seen[api.ErrLimit] < 100 {
		t.Errorf("not enough of each kind: %v", seen)
	}
}

func TestP1_TheLargestFarm(t *testing.T) {
	f := bed.Farm{Springs: []bed.Spring{{Bed: 0, Flow: to(0, 9)}, {Bed: 1, Flow: to(0, 9)}, {Bed: 2, Flow: to(0, 4)}, {Bed: 3, Flow: to(0, 3)}}}
	for n := range 8 {
		f.Beds = append(f.Beds, bed.Bed{Need: 0, Notch: 9, Down: n + 1})
	}
	f.Beds[7] = bed.Bed{Need: 9, Notch: 9, Down: -1}
	for range 5 {
		f.Looks = append(f.Looks, look(7, true, 120, 120))
	}
	if l, e := bed.Leave(f); len(l) != 5 || e != api.OK {
		t.Errorf("Leave: %v, %v", l, e)
	}
	f.Looks = nil
	if l, e := bed.Fewest(f); len(l) > 0 || e != api.ErrShort {
		t.Errorf("Fewest: %v, %v", l, e)
	}
}

func TestR3_EmptyIsNil(t *testing.T) {
	f := bed.Farm{Beds: []bed.Bed{{Notch: 1, Down: -1}}}
	g := bed.Farm{Beds: f.Beds, Springs: []bed.Spring{}, Looks: []bed.Look{}}
	a, b := answers(f, 0, 0, nil), answers(g, 0, 0, []int{})
	for i := range a {
		if a[i].e != b[i].e || !slices.Equal(a[i].numbers, b[i].numbers) {
			t.Errorf("%s: %v, and %v of lists without elements", a[i].name, a[i], b[i])
		}
	}
	if !bed.ProveTruth(f, nil) || !bed.ProveTruth(g, []int{}) {
		t.Error("a farm without springs has the truth of no flows")
	}
}

func TestR4_ArgumentsAreNotWrittenTo(t *testing.T) {
	for _, f := range farms(60, 4) {
		was := copied(f)
		flows := choices(f)[0]
		kept := slices.Clone(flows)
		before := answers(f, 0, 9, flows)
		bed.ProveTruth(f, flows)
		bed.ProveCut(f, 0, flows)
		if !same(f, was) || !slices.Equal(flows, kept) {
			t.Fatalf("%v became %v", was, f)
		}
		for i, a := range answers(f, 0, 9, flows) {
			if a.e != before[i].e || !slices.Equal(a.numbers, before[i].numbers) {
				t.Fatalf("%s of %v: %v, and then %v", a.name, f, before[i], a)
			}
		}
	}
}

func TestR4_ResultsAreInMemoryOfTheirOwn(t *testing.T) {
	f := ofChapter()
	_, flows, e := bed.Cut(f)
	if e != api.OK || len(flows) != 2 {
		t.Fatalf("Cut: %v, %v", flows, e)
	}
	flows[0] = 99
	if _, again, _ := bed.Cut(f); !slices.Equal(again, []int{4, 5}) || !same(f, ofChapter()) {
		t.Errorf("Cut, after its result was written to: %v of %v", again, f)
	}
	l, _ := bed.Play(f, []int{4, 5})
	l[0].In = 99
	if again, _ := bed.Play(f, []int{4, 5}); again[0].In != 4 {
		t.Errorf("Play, after its result was written to: %v", again)
	}
}

func TestExampleOfTheReadme(t *testing.T) {
	f := bed.Farm{
		Springs: []bed.Spring{{Bed: 0, Flow: to(4, 5)}},
		Beds:    []bed.Bed{{Need: 2, Notch: 3, Down: 1}, {Need: 2, Notch: 2, Down: -1}},
	}
	if v, e := bed.Fed(f, 1); v != bed.Perhaps || e != api.OK {
		t.Errorf("Fed: %d, %v", v, e)
	}
	if l, e := bed.Fewest(f); !slices.Equal(l, []int{0}) || e != api.OK {
		t.Errorf("Fewest: %v, %v", l, e)
	}
}
