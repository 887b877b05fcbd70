package bunch_test

import (
	"math"
	"math/rand"
	"slices"
	"testing"

	"watercress/api"
	"watercress/bunch"
)

// answer is what a call returns, whatever it is called: numbers, and the error.
type answer struct {
	name    string
	numbers []int
	e       api.Errno
}

// answers calls everything that has an error, with these arguments.
func answers(d bunch.Day, woman, number int, tr bunch.Truth) []answer {
	var all []answer
	add := func(name string, e api.Errno, numbers ...int) { all = append(all, answer{name, numbers, e}) }
	add("CheckDay", bunch.CheckDay(d))
	y, e := bunch.Play(d, tr)
	add("Play", e, numbersBut0(4, numbers(y))...)
	b, e := bunch.Bounds(d)
	var l []int
	for _, r := range ranges(b) {
		l = append(l, r.Lo, r.Hi)
	}
	add("Bounds", e, numbersBut0(8, l)...)
	v, e := bunch.Thicker(d, woman, number)
	add("Thicker", e, numbersBut0(1, list(v))...)
	l, e = bunch.Fewest(d)
	add("Fewest", e, l...)
	v, e = bunch.First(d)
	add("First", e, numbersBut0(1, list(v))...)
	l, e = bunch.Leave(d)
	add("Leave", e, l...)
	return all
}

// numbersBut0 has the numbers unless they are those of a result that is zero: so many, and all 0. With an error nothing may be in the list.
func numbersBut0(many int, l []int) []int {
	if slices.Equal(l, make([]int, many)) {
		return nil
	}
	return l
}

// checkErrors asks for the errors that are named; with each error there must be nothing else.
func checkErrors(t *testing.T, all []answer, want map[string]api.Errno) {
	t.Helper()
	for _, a := range all {
		if e, ok := want[a.name]; ok && a.e != e {
			t.Errorf("%s: %v, not %v", a.name, a.e, e)
		}
		if a.e != api.OK && len(a.numbers) > 0 {
			t.Errorf("%s: %v together with %v", a.name, a.numbers, a.e)
		}
	}
}

func everyCall(e api.Errno) map[string]api.Errno {
	want := map[string]api.Errno{}
	for _, a := range answers(bunch.Day{}, 0, 0, bunch.Truth{}) {
		want[a.name] = e
	}
	return want
}

// own is a truth of the day of the chapter.
func own() bunch.Truth { return truth(list(21, 25), 500, 610) }

func TestErrorsOfTheDay(t *testing.T) {
	for _, x := range []struct {
		what   string
		change func(d *bunch.Day)
		want   api.Errno
	}{
		{"five women", func(d *bunch.Day) { d.Women = slices.Repeat(women(to(5, 5)), 5) }, api.ErrLimit},
		{"five lots", func(d *bunch.Day) { d.Lots = slices.Repeat([]bunch.Lot{lot(0, 5, 5)}, 5) }, api.ErrLimit},
		{"six counts", func(d *bunch.Day) { d.Counts = slices.Repeat([]bunch.Count{first()}, 6) }, api.ErrLimit},
		{"five women who are not valid", func(d *bunch.Day) { d.Women = make([]bunch.Range, 5) }, api.ErrLimit},
		{"five lots, and no women", func(d *bunch.Day) { d.Women, d.Lots = nil, make([]bunch.Lot, 5) }, api.ErrLimit},
		{"six counts, and the Hand 0", func(d *bunch.Day) { d.Hand, d.Counts = 0, make([]bunch.Count, 6) }, api.ErrLimit},
		{"six counts, and too many truths", func(d *bunch.Day) { tooMany(d); d.Counts = make([]bunch.Count, 6) }, api.ErrLimit},
		{"the Hand 0", func(d *bunch.Day) { d.Hand = 0 }, api.ErrArg},
		{"a Hand below 0", func(d *bunch.Day) { d.Hand = math.MinInt }, api.ErrArg},
		{"the Hand 21", func(d *bunch.Day) { d.Hand = 21 }, api.ErrArg},
		{"the greatest Hand", func(d *bunch.Day) { d.Hand = math.MaxInt }, api.ErrArg},
		{"the Flat 0", func(d *bunch.Day) { d.Flat = 0 }, api.ErrArg},
		{"a Flat below 0", func(d *bunch.Day) { d.Flat = -1 }, api.ErrArg},
		{"the Flat 21", func(d *bunch.Day) { d.Flat = 21 }, api.ErrArg},
		{"the greatest Flat", func(d *bunch.Day) { d.Flat = math.MaxInt }, api.ErrArg},
		{"no women", func(d *bunch.Day) { d.Women = nil }, api.ErrArg},
		{"no women, lots and counts", func(d *bunch.Day) { d.Women, d.Lots, d.Counts = nil, nil, nil }, api.ErrArg},
		{"a list of no women", func(d *bunch.Day) { d.Women, d.Lots, d.Counts = women(), nil, nil }, api.ErrArg},
		{"a woman too few", func(d *bunch.Day) { d.Women = d.Women[:1] }, api.ErrArg},
		{"a feel that is no range", func(d *bunch.Day) { d.Women[1] = to(25, 24) }, api.ErrArg},
		{"a feel of 0", func(d *bunch.Day) { d.Women[1] = to(0, 1) }, api.ErrArg},
		{"a feel above 60", func(d *bunch.Day) { d.Women[1] = to(60, 61) }, api.ErrArg},
		{"a feel below 0", func(d *bunch.Day) { d.Women[1] = to(-1, -1) }, api.ErrArg},
		{"a feel as wide as ints are", func(d *bunch.Day) { d.Women[1] = to(math.MinInt, math.MaxInt) }, api.ErrArg},
		{"a lot of no woman", func(d *bunch.Day) { d.Lots[1].Woman = 2 }, api.ErrArg},
		{"a lot of a woman below 0", func(d *bunch.Day) { d.Lots[1].Woman = -1 }, api.ErrArg},
		{"Stems that are no range", func(d *bunch.Day) { d.Lots[1].Stems = to(6, 5) }, api.ErrArg},
		{"Stems below 0", func(d *bunch.Day) { d.Lots[1].Stems = to(-1, 0) }, api.ErrArg},
		{"Stems above 5000", func(d *bunch.Day) { d.Lots[1].Stems = to(5000, 5001) }, api.ErrArg},
		{"Stems as wide as ints are", func(d *bunch.Day) { d.Lots[1].Stems = to(math.MinInt, math.MaxInt) }, api.ErrArg},
		{"the kind 6", func(d *bunch.Day) { d.Counts[1].Kind = 6 }, api.ErrArg},
		{"a kind below 0", func(d *bunch.Day) { d.Counts[1].Kind = -1 }, api.ErrArg},
		{"the least kind", func(d *bunch.Day) { d.Counts[1].Kind = math.MinInt }, api.ErrArg},
		{"the greatest kind", func(d *bunch.Day) { d.Counts[1].Kind = math.MaxInt }, api.ErrArg},
		{"the bunches of no woman", func(d *bunch.Day) { d.Counts[1] = count(bunch.Bunches, 2, 0, 9) }, api.ErrArg},
		{"the bunches of a woman below 0", func(d *bunch.Day) { d.Counts[1] = count(bunch.Bunches, -1, 0, 9) }, api.ErrArg},
		{"what is left with no woman", func(d *bunch.Day) { d.Counts[1] = count(bunch.Left, 2, 0, 9) }, api.ErrArg},
		{"what is left with a woman below 0", func(d *bunch.Day) { d.Counts[1] = count(bunch.Left, -1, 0, 9) }, api.ErrArg},
		{"the hands of a woman", func(d *bunch.Day) { d.Counts[1] = count(bunch.Hands, 1, 0, 9) }, api.ErrArg},
		{"the loose bunches of a woman", func(d *bunch.Day) { d.Counts[1] = count(bunch.Loose, 1, 0, 9) }, api.ErrArg},
		{"the flats of a woman", func(d *bunch.Day) { d.Counts[1] = count(bunch.Flats, 1, 0, 9) }, api.ErrArg},
		{"the spare hands of a woman", func(d *bunch.Day) { d.Counts[1] = count(bunch.Spare, 1, 0, 9) }, api.ErrArg},
		{"the hands of a woman below 0", func(d *bunch.Day) { d.Counts[1] = count(bunch.Hands, -1, 0, 9) }, api.ErrArg},
		{"a Number that is no range", func(d *bunch.Day) { d.Counts[1].Number = to(6, 5) }, api.ErrArg},
		{"a Number below 0", func(d *bunch.Day) { d.Counts[1].Number = to(-1, 5) }, api.ErrArg},
		{"a Number above 20000", func(d *bunch.Day) { d.Counts[1].Number = to(0, 20001) }, api.ErrArg},
		{"a Number as wide as ints are", func(d *bunch.Day) { d.Counts[1].Number = to(math.MinInt, math.MaxInt) }, api.ErrArg},
		{"too many truths", tooMany, api.ErrLimit},
		{"too many truths of women alone", func(d *bunch.Day) { d.Women, d.Lots = women(to(1, 60), to(20, 53)), nil }, api.ErrLimit},
		{"too many truths of a lot alone", func(d *bunch.Day) { d.Women[0], d.Lots[0].Stems = to(5, 5), to(0, 2000) }, api.ErrLimit},
		{"as many truths as there can be", func(d *bunch.Day) { *d = wide() }, api.ErrLimit},
		{"sizes whose product is 0 in 64 bits", func(d *bunch.Day) { *d = round() }, api.ErrLimit},
		{"too many truths, and the Hand 21", func(d *bunch.Day) { tooMany(d); d.Hand = 21 }, api.ErrArg},
		{"too many truths, and a count that is not valid", func(d *bunch.Day) { tooMany(d); d.Counts[1].Woman = 2 }, api.ErrArg},
	} {
		d := ofChapter(first(), second())
		x.change(&d)
		t.Run(x.what, func(t *testing.T) {
			// The woman, the number and the truth are wrong too, which does not count before the day.
			checkErrors(t, answers(d, 9, 61, bunch.Truth{}), everyCall(x.want))
			checkErrors(t, answers(d, 0, 20, own()), everyCall(x.want))
			if bunch.ProveTruth(d, own()) || bunch.ProveTruth(d, bunch.Truth{}) || bunch.ProveTruth(without(d, list(0, 1)), bunch.Truth{}) {
				t.Error("proved of a day that is not valid")
			}
		})
	}
}

// tooMany makes the sizes of the women 3 and 7, and those of the lots 32 and 3: these are 2016 together.
func tooMany(d *bunch.Day) {
	d.Women[1], d.Lots[0].Stems, d.Lots[1].Stems = to(20, 26), to(500, 531), to(610, 612)
}

// wide is as wide as ranges can be: an int does not hold how many truths it has.
func wide() bunch.Day {
	d := bunch.Day{Hand: 1, Flat: 1, Women: slices.Repeat(women(to(1, 60)), 4)}
	for woman := range d.Women {
		d.Lots = append(d.Lots, lot(woman, 0, 5000))
	}
	return d
}

// round has sizes of 2 to the power of 5, and of 12, four each: 2 to the power of 68 together, of which the last 64 bits are 0.
func round() bunch.Day {
	d := bunch.Day{Hand: 1, Flat: 1, Women: slices.Repeat(women(to(1, 32)), 4)}
	for woman := range d.Women {
		d.Lots = append(d.Lots, lot(woman, 0, 4095))
	}
	return d
}

func TestLimitsThatAreReached(t *testing.T) {
	for _, x := range []struct {
		what   string
		change func(d *bunch.Day)
	}{
		{"the Hand 1", func(d *bunch.Day) { d.Hand = 1 }},
		{"the Hand 20", func(d *bunch.Day) { d.Hand = 20 }},
		{"the Flat 1", func(d *bunch.Day) { d.Flat = 1 }},
		{"the Flat 20", func(d *bunch.Day) { d.Flat = 20 }},
		{"one woman", func(d *bunch.Day) { *d = one(5, 5, 9) }},
		{"four women", func(d *bunch.Day) { d.Women = append(d.Women, to(1, 1), to(60, 60)) }},
		{"no lots", func(d *bunch.Day) { d.Lots = nil }},
		{"four lots", func(d *bunch.Day) { d.Lots = append(d.Lots, lot(0, 0, 0), lot(1, 5000, 5000)) }},
		{"no counts", func(d *bunch.Day) { d.Counts = nil }},
		{"five counts", func(d *bunch.Day) { d.Counts = slices.Repeat(d.Counts[:1], 5) }},
		{"the widest feel", func(d *bunch.Day) { d.Women[0] = to(1, 60); d.Lots[0].Stems = to(9, 9) }},
		{"the least and the greatest Stems", func(d *bunch.Day) { d.Lots[0].Stems, d.Lots[1].Stems = to(0, 0), to(5000, 5000) }},
		{"the widest Number", func(d *bunch.Day) { d.Counts[0].Number = to(0, 20000) }},
		{"the least and the greatest Number", func(d *bunch.Day) { d.Counts[0].Number, d.Counts[1].Number = to(0, 0), to(20000, 20000) }},
		{"bunches, and what is left, of the last woman", func(d *bunch.Day) {
			d.Counts[0], d.Counts[1] = count(bunch.Bunches, 1, 24, 24), count(bunch.Left, 1, 10, 10)
		}},
		{"2000 truths", func(d *bunch.Day) {
			d.Women[0], d.Women[1], d.Lots[0].Stems, d.Lots[1].Stems = to(20, 23), to(21, 25), to(500, 509), to(601, 610)
		}},
		{"2000 truths of a lot alone", func(d *bunch.Day) { d.Women[0], d.Lots[0].Stems = to(5, 5), to(1, 2000) }},
	} {
		d := ofChapter(first(), second())
		x.change(&d)
		checkErrors(t, answers(d, 0, 20, own()), map[string]api.Errno{"CheckDay": api.OK, "Leave": api.OK})
		if t.Failed() {
			t.Fatalf("with %s", x.what)
		}
	}
}

func TestErrRangeOfPlay(t *testing.T) {
	for _, tr := range []bunch.Truth{
		{}, truth(list(21, 25)), truth(nil, 500, 610), truth(list(21), 500, 610), truth(list(21, 25, 25), 500, 610), truth(list(21, 25), 500), truth(list(21, 25), 500, 610, 610), truth(list(21, 25, 500), 610), truth(list(21), 25, 500, 610),
		truth(list(19, 25), 500, 610), truth(list(23, 25), 500, 610), truth(list(21, 24), 500, 610), truth(list(21, 26), 500, 610), truth(list(21, 25), 499, 610), truth(list(21, 25), 503, 610), truth(list(21, 25), 500, 609), truth(list(21, 25), 500, 611),
		truth(list(0, 25), 500, 610), truth(list(math.MinInt, 25), 500, math.MaxInt), truth(list(25, 21), 610, 500),
	} {
		for _, d := range []bunch.Day{ofChapter(), ofChapter(first()), ofChapter(first(), second())} {
			checkErrors(t, answers(d, 0, 20, tr), map[string]api.Errno{"CheckDay": api.OK, "Play": api.ErrRange, "Leave": api.OK})
			if t.Failed() || bunch.ProveTruth(d, tr) {
				t.Fatalf("Play, ProveTruth of %v, %v", d, tr)
			}
		}
	}
}

// noTruth has counts that contradict each other.
func noTruth() bunch.Day { return ofChapter(first(), second()) }

func TestErrRangeComesBeforeErrFalse(t *testing.T) {
	for _, d := range []bunch.Day{ofChapter(), noTruth()} {
		for _, n := range list(-1, 61, math.MinInt, math.MaxInt) {
			checkErrors(t, answers(d, n, 20, own()), map[string]api.Errno{"Thicker": api.ErrRange})
			checkErrors(t, answers(d, 0, n, own()), map[string]api.Errno{"Thicker": api.ErrRange})
		}
		// There is a number 2, but no woman 2.
		checkErrors(t, answers(d, 2, 2, own()), map[string]api.Errno{"Thicker": api.ErrRange})
	}
	for _, n := range list(0, 60) {
		checkErrors(t, answers(ofChapter(), 1, n, own()), map[string]api.Errno{"Thicker": api.OK})
		checkErrors(t, answers(noTruth(), 1, n, own()), map[string]api.Errno{"Thicker": api.ErrFalse})
	}
}

func TestErrFalseComesBeforeErrShort(t *testing.T) {
	// Of 9 or 10 stems there is one bunch more, or not, whoever is known.
	short := packed(one(5, 5), 1, 1)
	short.Lots = []bunch.Lot{lot(0, 9, 10)}
	wrong := copied(short)
	wrong.Counts = []bunch.Count{count(bunch.Flats, 0, 3, 3)}
	for _, x := range []struct {
		d                   bunch.Day
		tr                  bunch.Truth
		call, fewest, first api.Errno
	}{
		{short, truth(list(5), 10), api.OK, api.ErrShort, api.ErrNone}, {wrong, truth(list(5), 10), api.ErrFalse, api.ErrFalse, api.OK},
		{ofChapter(), own(), api.OK, api.OK, api.ErrNone}, {ofChapter(first()), own(), api.OK, api.OK, api.ErrNone}, {noTruth(), own(), api.ErrFalse, api.ErrFalse, api.OK},
	} {
		checkErrors(t, answers(x.d, 0, 20, x.tr), map[string]api.Errno{
			"CheckDay": api.OK, "Play": api.OK, "Bounds": x.call, "Thicker": x.call, "Fewest": x.fewest, "First": x.first, "Leave": api.OK,
		})
		if t.Failed() {
			t.Fatalf("with %v", x.d)
		}
	}
}

// wildNumber is near a limit, or far from all of them.
func wildNumber(r *rand.Rand) int {
	l := list(math.MinInt, -2, -1, 0, 1, 2, 3, 4, 5, 6, 19, 20, 21, 59, 60, 61, 4999, 5000, 5001, 20000, 20001, math.MaxInt)
	return l[r.Intn(len(l))]
}

func wildRange(r *rand.Rand) bunch.Range {
	if r.Intn(2) == 0 {
		return to(wildNumber(r), wildNumber(r))
	}
	low := r.Intn(62) - 1
	return to(low, low+r.Intn(30)-1)
}

func wildDay(r *rand.Rand) bunch.Day {
	d := bareDay(r)
	addCounts(r, &d, r.Intn(5), r.Intn(2) == 0)
	for range r.Intn(3) {
		switch n := r.Intn(len(d.Women)); r.Intn(8) {
		case 0:
			d.Hand = wildNumber(r)
		case 1:
			d.Flat = wildNumber(r)
		case 2:
			d.Women[n] = wildRange(r)
		case 3:
			d.Women = append(d.Women, to(20, 20+r.Intn(30)))
		case 4:
			d.Lots = append(d.Lots, bunch.Lot{Woman: wildNumber(r), Stems: wildRange(r)})
		case 5:
			d.Lots = append(d.Lots, lot(n, 9, 9+r.Intn(2000)))
		case 6:
			d.Counts = append(d.Counts, bunch.Count{Kind: wildNumber(r), Woman: wildNumber(r), Number: wildRange(r)})
		case 7:
			d.Counts = append(d.Counts, count(r.Intn(8)-1, r.Intn(5)-1, 0, 9))
		}
	}
	return d
}

func isRange(r bunch.Range, low, high int) bool { return r.Lo >= low && r.Hi <= high && r.Lo <= r.Hi }

// checked says what CheckDay has to return, in the words of the chapter.
func checked(d bunch.Day) api.Errno {
	if len(d.Women) > 4 || len(d.Lots) > 4 || len(d.Counts) > 5 {
		return api.ErrLimit
	}
	ok := d.Hand >= 1 && d.Hand <= 20 && d.Flat >= 1 && d.Flat <= 20 && len(d.Women) >= 1
	sizes := 1.0
	for _, r := range d.Women {
		ok = ok && isRange(r, 1, 60)
		sizes *= float64(r.Hi) - float64(r.Lo) + 1
	}
	for _, l := range d.Lots {
		ok = ok && l.Woman >= 0 && l.Woman < len(d.Women) && isRange(l.Stems, 0, 5000)
		sizes *= float64(l.Stems.Hi) - float64(l.Stems.Lo) + 1
	}
	for _, c := range d.Counts {
		ok = ok && c.Kind >= 0 && c.Kind <= 5 && isRange(c.Number, 0, 20000)
		ok = ok && (c.Woman == 0 || c.Kind <= 1 && c.Woman > 0 && c.Woman < len(d.Women))
	}
	switch {
	case !ok:
		return api.ErrArg
	case sizes > 2000:
		return api.ErrLimit
	}
	return api.OK
}

func TestP1_AnyArguments(t *testing.T) {
	r := rand.New(rand.NewSource(1))
	seen := map[api.Errno]int{}
	for range 5000 {
		d := wildDay(r)
		woman, number := wildNumber(r), wildNumber(r)
		var tr bunch.Truth
		for range r.Intn(5) {
			tr.Feels, tr.Stems = append(tr.Feels, wildNumber(r)), append(tr.Stems, wildNumber(r))
		}
		all := answers(d, woman, number, tr)
		want := checked(d)
		seen[want]++
		if e := bunch.CheckDay(d); e != want {
			t.Fatalf("CheckDay of %v: %v, not %v", d, e, want)
		}
		proved := bunch.ProveTruth(d, tr)
		if want != api.OK {
			checkErrors(t, all, everyCall(want))
			if proved {
				t.Fatalf("%v, %v is proved", d, tr)
			}
		}
		checkErrors(t, all, nil)
		if t.Failed() {
			t.Fatalf("with %v, %d, %d, %v", d, woman, number, tr)
		}
	}
	if seen[api.OK] < 300 || seen[api.ErrArg] < 300 || seen[api.ErrLimit] < 300 {
		t.Errorf("not enough of each kind: %v", seen)
	}
}

func TestP1_TheLargestDays(t *testing.T) {
	// Three women, with 4, 5 and 4 feels, and 25 numbers of stems.
	d := bunch.Day{Hand: 20, Flat: 20, Women: women(to(1, 4), to(1, 5), to(1, 4), to(60, 60))}
	d.Lots = []bunch.Lot{lot(0, 4976, 5000), lot(0, 5000, 5000), lot(1, 5000, 5000), lot(2, 5000, 5000)}
	b, e := bunch.Bounds(d)
	if b.Bunches[0] != to(2494, 10000) || b.Hands != to((2494+1000+1250)/20, 1000) || b.Flats != to((2494+1000+1250)/400, 50) || e != api.OK {
		t.Errorf("Bounds: %v, %v", b, e)
	}
	if l, e := bunch.Fewest(d); len(l) > 0 || e != api.ErrShort {
		t.Errorf("Fewest: %v, %v", l, e)
	}
	// No truth has as many loose bunches as Hand.
	d.Counts = slices.Repeat([]bunch.Count{count(bunch.Loose, 0, 20, 20000)}, 5)
	if l, e := bunch.Leave(d); !slices.Equal(l, list(0, 1, 2, 3, 4)) || e != api.OK {
		t.Errorf("Leave: %v, %v", l, e)
	}
}

func TestR3_EmptyIsNil(t *testing.T) {
	d, g := one(5, 7), one(5, 7)
	g.Lots, g.Counts = []bunch.Lot{}, []bunch.Count{}
	a, b := answers(d, 0, 5, truth(list(6))), answers(g, 0, 5, bunch.Truth{Feels: list(6), Stems: list()})
	for i := range a {
		if a[i].e != b[i].e || !slices.Equal(a[i].numbers, b[i].numbers) {
			t.Errorf("%s: %v, and %v of lists without elements", a[i].name, a[i], b[i])
		}
	}
	if !bunch.ProveTruth(d, bunch.Truth{Feels: list(6), Stems: list()}) || !bunch.ProveTruth(g, truth(list(6))) {
		t.Error("nil and a list without elements are not the same")
	}
}

func TestR4_ArgumentsAreNotWrittenTo(t *testing.T) {
	for _, d := range days(200, 4) {
		was := copied(d)
		tr := choices(d)[0]
		feels, stems := slices.Clone(tr.Feels), slices.Clone(tr.Stems)
		before := answers(d, 0, 20, tr)
		bunch.ProveTruth(d, tr)
		if !same(d, was) || !slices.Equal(tr.Feels, feels) || !slices.Equal(tr.Stems, stems) {
			t.Fatalf("%v became %v, or %v was written to", was, d, tr)
		}
		for i, a := range answers(d, 0, 20, tr) {
			if a.e != before[i].e || !slices.Equal(a.numbers, before[i].numbers) {
				t.Fatalf("%s of %v: %v, and then %v", a.name, d, before[i], a)
			}
		}
	}
}

func TestR4_ListsWithRoomAreNotWrittenTo(t *testing.T) {
	// Behind each list there is memory that belongs to somebody else.
	d := ofChapter(first(), second())
	all := append(d.Women, to(9, 9), to(9, 9), to(9, 9), to(9, 9))
	lots, counts := append(d.Lots, lot(9, 9, 9)), append(d.Counts, count(9, 9, 9, 9))
	feels, stems := list(21, 25, 99), list(500, 610, 99)
	d.Women, d.Lots, d.Counts = all[:2], lots[:2], counts[:2]
	tr := truth(feels[:2], stems[:2]...)
	answers(d, 0, 20, tr)
	bunch.ProveTruth(d, tr)
	if !slices.Equal(all[2:], slices.Repeat(women(to(9, 9)), 4)) || lots[2] != lot(9, 9, 9) || counts[2] != count(9, 9, 9, 9) || feels[2] != 99 || stems[2] != 99 {
		t.Errorf("%v, %v, %v, %v or %v was written to", all, lots, counts, feels, stems)
	}
}

func TestR4_ResultsAreInMemoryOfTheirOwn(t *testing.T) {
	// The bunches and what is left are the same numbers, and so are all ranges of a woman.
	d := one(2, 2, 3)
	y, e := bunch.Play(d, truth(list(2), 3))
	b, f := bunch.Bounds(d)
	if !slices.Equal(y.Bunches, list(1)) || !slices.Equal(y.Left, list(1)) || e != api.OK || f != api.OK {
		t.Fatalf("Play, Bounds: %v, %v; %v, %v", y, e, b, f)
	}
	y.Bunches[0], b.Feel[0] = 99, to(99, 99)
	_, _ = append(y.Bunches, 98), append(b.Feel, to(98, 98))
	if y.Left[0] != 1 || b.Bunches[0] != to(1, 1) || b.Left[0] != to(1, 1) || d.Women[0] != to(2, 2) {
		t.Errorf("%v, %v, %v share memory", y, b, d)
	}
	b.Bunches[0] = to(97, 97)
	if b.Left[0] != to(1, 1) {
		t.Errorf("%v shares memory", b)
	}
	if again, _ := bunch.Play(d, truth(list(2), 3)); again.Bunches[0] != 1 {
		t.Errorf("Play, after its result was written to: %v", again)
	}
	wrong := ofChapter(second(), second())
	for _, call := range []func() ([]int, api.Errno){
		func() ([]int, api.Errno) { return bunch.Fewest(ofChapter()) },
		func() ([]int, api.Errno) { return bunch.Leave(wrong) },
	} {
		l, e := call()
		was := slices.Clone(l)
		for i := range l {
			l[i] = 99
		}
		_ = append(l, 98)
		if again, f := call(); len(was) == 0 || e != api.OK || f != api.OK || !slices.Equal(again, was) {
			t.Errorf("%v, and %v after this was written to", was, again)
		}
	}
}

func TestExampleOfTheReadme(t *testing.T) {
	day := bunch.Day{
		Hand: 6, Flat: 4,
		Women:  []bunch.Range{{Lo: 20, Hi: 22}, {Lo: 25, Hi: 25}},
		Lots:   []bunch.Lot{{Woman: 0, Stems: bunch.Range{Lo: 500, Hi: 502}}, {Woman: 1, Stems: bunch.Range{Lo: 610, Hi: 610}}},
		Counts: []bunch.Count{{Kind: bunch.Left, Woman: 0, Number: bunch.Range{Lo: 0, Hi: 16}}},
	}
	if b, e := bunch.Bounds(day); b.Flats != to(1, 2) || e != api.OK {
		t.Errorf("Bounds: %v, %v", b, e)
	}
	if v, e := bunch.Thicker(day, 0, 20); v != bunch.Perhaps || e != api.OK {
		t.Errorf("Thicker: %d, %v", v, e)
	}
	if l, e := bunch.Fewest(day); !slices.Equal(l, list(0)) || e != api.OK {
		t.Errorf("Fewest: %v, %v", l, e)
	}
	if y, e := bunch.Play(day, bunch.Truth{Feels: list(22, 25), Stems: list(500, 610)}); !slices.Equal(y.Bunches, list(22, 24)) || y.Hands != 7 || y.Loose != 4 || e != api.OK {
		t.Errorf("Play: %v, %v", y, e)
	}
}
