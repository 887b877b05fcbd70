package bunch_test

import (
	"math/rand"
	"slices"
	"testing"

	"watercress/api"
	"watercress/bunch"
)

// ofChapter is the day of the chapter's examples, with counts.
func ofChapter(counts ...bunch.Count) bunch.Day {
	return bunch.Day{Hand: 6, Flat: 4, Women: women(to(20, 22), to(25, 25)), Lots: []bunch.Lot{lot(0, 500, 502), lot(1, 610, 610)}, Counts: counts}
}

// The counts of the chapter's examples: the second one contradicts the first.
func first() bunch.Count  { return count(bunch.Flats, 0, 2, 2) }
func second() bunch.Count { return count(bunch.Left, 0, 5, 9) }

// one has a woman with this feel and lots of known stems, and hands and flats of one, so that all bunches are flats.
func one(low, high int, stems ...int) bunch.Day {
	d := bunch.Day{Hand: 1, Flat: 1, Women: women(to(low, high))}
	for _, n := range stems {
		d.Lots = append(d.Lots, lot(0, n, n))
	}
	return d
}

// packed is the day with these hands and flats.
func packed(d bunch.Day, hand, flat int) bunch.Day {
	d.Hand, d.Flat = hand, flat
	return d
}

func TestP5_1_PlayOfTheChapter(t *testing.T) {
	want := bunch.Tally{Bunches: list(23, 24), Left: list(17, 10), Hands: 7, Loose: 5, Flats: 1, Spare: 3}
	for _, d := range []bunch.Day{ofChapter(), ofChapter(first()), ofChapter(first(), second())} {
		y, e := bunch.Play(d, truth(list(21, 25), 500, 610))
		if !slices.Equal(y.Bunches, want.Bunches) || !slices.Equal(y.Left, want.Left) || y.Hands != 7 || y.Loose != 5 || y.Flats != 1 || y.Spare != 3 || e != api.OK {
			t.Errorf("Play of %v: %v, %v", d, y, e)
		}
	}
}

func TestP5_1_PlayOfOneWoman(t *testing.T) {
	for _, x := range []struct {
		d    bunch.Day
		want []int
	}{
		{one(21, 21, 500), list(23, 17, 23, 0, 23, 0)},
		{packed(one(21, 21, 500), 4, 2), list(23, 17, 5, 3, 2, 1)},
		{packed(one(21, 21, 500), 20, 20), list(23, 17, 1, 3, 0, 1)},
		// No stems, fewer than her feel, as many, and one more.
		{one(21, 21), list(0, 0, 0, 0, 0, 0)}, {one(21, 21, 0), list(0, 0, 0, 0, 0, 0)}, {one(21, 21, 20), list(0, 20, 0, 0, 0, 0)}, {one(21, 21, 21), list(1, 0, 1, 0, 1, 0)}, {one(21, 21, 22), list(1, 1, 1, 0, 1, 0)},
		// What is left of one lot is bunched with the next.
		{one(10, 10, 9, 9), list(1, 8, 1, 0, 1, 0)}, {one(10, 10, 5, 5, 5, 5), list(2, 0, 2, 0, 2, 0)},
		// All bunches, and all hands, are just used up, or one is too few.
		{packed(one(1, 1, 12), 6, 2), list(12, 0, 2, 0, 1, 0)}, {packed(one(1, 1, 11), 6, 2), list(11, 0, 1, 5, 0, 1)}, {packed(one(1, 1, 6), 6, 2), list(6, 0, 1, 0, 0, 1)}, {packed(one(1, 1, 5), 6, 2), list(5, 0, 0, 5, 0, 0)},
		{one(1, 1, 5000, 5000, 5000, 5000), list(20000, 0, 20000, 0, 20000, 0)}, {packed(one(60, 60, 5000, 5000, 5000, 5000), 20, 20), list(333, 20, 16, 13, 0, 16)},
	} {
		feel := list(x.d.Women[0].Lo)
		var stems []int
		for _, l := range x.d.Lots {
			stems = append(stems, l.Stems.Lo)
		}
		y, e := bunch.Play(x.d, truth(feel, stems...))
		if !slices.Equal(numbers(y), x.want) || e != api.OK {
			t.Errorf("Play of %v: %v, %v, not %v", x.d, y, e, x.want)
		}
	}
}

func TestP5_1_PlayOfSeveralWomen(t *testing.T) {
	// The woman 1 has no lot, and the woman 2 has two that are not neighbours; what is left with one woman helps no other.
	d := bunch.Day{Hand: 5, Flat: 2, Women: women(to(10, 10), to(1, 1), to(7, 9), to(4, 4)), Lots: []bunch.Lot{lot(2, 30, 32), lot(0, 109, 109), lot(2, 20, 20), lot(3, 3, 3)}}
	for _, x := range []struct {
		feel, stems int
		want        []int
	}{
		{7, 30, list(10, 0, 7, 0, 9, 0, 1, 3, 3, 2, 1, 1)}, {8, 31, list(10, 0, 6, 0, 9, 0, 3, 3, 3, 1, 1, 1)}, {9, 32, list(10, 0, 5, 0, 9, 0, 7, 3, 3, 0, 1, 1)},
	} {
		if y, e := bunch.Play(d, truth(list(10, 1, x.feel, 4), x.stems, 109, 20, 3)); !slices.Equal(numbers(y), x.want) || e != api.OK {
			t.Errorf("Play of %d, %d: %v, %v, not %v", x.feel, x.stems, y, e, x.want)
		}
	}
}

func TestP5_1_ProveTruthOfTheChapter(t *testing.T) {
	for _, x := range []struct {
		d    bunch.Day
		t    bunch.Truth
		want bool
	}{
		{ofChapter(), truth(list(21, 25), 500, 610), true}, {ofChapter(first()), truth(list(21, 25), 500, 610), false}, {ofChapter(first()), truth(list(20, 25), 500, 610), true}, {ofChapter(first(), second()), truth(list(20, 25), 500, 610), false},
		{ofChapter(), truth(list(20, 25), 502, 610), true}, {ofChapter(), truth(list(22, 25), 500, 610), true},
		{ofChapter(), truth(list(19, 25), 500, 610), false}, {ofChapter(), truth(list(23, 25), 500, 610), false}, {ofChapter(), truth(list(20, 24), 500, 610), false}, {ofChapter(), truth(list(20, 25), 499, 610), false}, {ofChapter(), truth(list(20, 25), 503, 610), false}, {ofChapter(), truth(list(20, 25), 500, 611), false},
		{ofChapter(), truth(list(20), 500, 610), false}, {ofChapter(), truth(list(20, 25, 25), 500, 610), false}, {ofChapter(), truth(list(20, 25), 500), false}, {ofChapter(), truth(list(20, 25), 500, 610, 0), false}, {ofChapter(), bunch.Truth{}, false},
		{bunch.Day{}, bunch.Truth{}, false}, {bunch.Day{Hand: 1, Flat: 1}, bunch.Truth{}, false}, {one(5, 5), truth(list(5)), true}, {one(5, 5), truth(nil), false},
	} {
		if bunch.ProveTruth(x.d, x.t) != x.want {
			t.Errorf("ProveTruth of %v, %v is not %v", x.d, x.t, x.want)
		}
	}
}

func TestP5_1_WhatEachKindCounts(t *testing.T) {
	if l := list(bunch.Bunches, bunch.Left, bunch.Hands, bunch.Loose, bunch.Flats, bunch.Spare); !slices.Equal(l, list(0, 1, 2, 3, 4, 5)) {
		t.Errorf("the kinds are %v", l)
	}
	// All numbers are different: bunches 60 and 44, left 11 and 9, hands 10, loose 4, flats 3, spare 1.
	d := bunch.Day{Hand: 10, Flat: 3, Women: women(to(12, 12), to(13, 13)), Lots: []bunch.Lot{lot(0, 731, 731), lot(1, 581, 581)}}
	tr := truth(list(12, 13), 731, 581)
	for _, x := range []struct{ kind, woman, number int }{
		{bunch.Bunches, 0, 60}, {bunch.Bunches, 1, 44}, {bunch.Left, 0, 11}, {bunch.Left, 1, 9}, {bunch.Hands, 0, 10}, {bunch.Loose, 0, 4}, {bunch.Flats, 0, 3}, {bunch.Spare, 0, 1},
	} {
		for n := range 70 {
			d.Counts = []bunch.Count{count(x.kind, x.woman, n, n)}
			if bunch.ProveTruth(d, tr) != (n == x.number) {
				t.Errorf("ProveTruth with %v is not %v", d.Counts, n == x.number)
			}
		}
		for _, y := range []struct {
			low, high int
			want      bool
		}{{x.number - 1, x.number, true}, {x.number, x.number + 1, true}, {0, 20000, true}, {0, x.number - 1, false}, {x.number + 1, 20000, false}} {
			d.Counts = []bunch.Count{count(x.kind, x.woman, y.low, y.high)}
			if bunch.ProveTruth(d, tr) != y.want {
				t.Errorf("ProveTruth with %v is not %v", d.Counts, y.want)
			}
		}
	}
}

func TestP5_1_CheckDayPlayAndProveTruthAgreeWithTheDefinitions(t *testing.T) {
	seen := map[bool]int{}
	r := rand.New(rand.NewSource(11))
	for _, d := range days(300, 11) {
		if e := bunch.CheckDay(d); e != api.OK {
			t.Fatalf("CheckDay of %v: %v", d, e)
		}
		for _, tr := range choices(d) {
			want := tally(d, tr)
			y, e := bunch.Play(d, tr)
			if !slices.Equal(y.Bunches, want.Bunches) || !slices.Equal(y.Left, want.Left) || !slices.Equal(numbers(y), numbers(want)) || e != api.OK {
				t.Fatalf("Play of %v, %v: %v, %v, not %v", d, tr, y, e, want)
			}
			is := isOf(d, tr)
			if bunch.ProveTruth(d, tr) != is {
				t.Fatalf("ProveTruth of %v, %v is not %v", d, tr, is)
			}
			seen[is]++
			// One number that is perhaps not of its range.
			n := r.Intn(len(tr.Feels))
			tr.Feels[n] += r.Intn(9) - 4
			if is := has(d.Women[n], tr.Feels[n]); bunch.ProveTruth(d, tr) != (is && isOf(d, tr)) {
				t.Fatalf("ProveTruth of %v, %v", d, tr)
			}
		}
	}
	if seen[true] < 500 || seen[false] < 500 {
		t.Errorf("not enough of each kind: %v", seen)
	}
}

func TestP5_2_BoundsOfTheChapter(t *testing.T) {
	b, e := bunch.Bounds(ofChapter())
	if !slices.Equal(b.Feel, women(to(20, 22), to(25, 25))) || !slices.Equal(b.Bunches, women(to(22, 25), to(24, 24))) || !slices.Equal(b.Left, women(to(0, 19), to(10, 10))) {
		t.Errorf("Bounds of the women: %v", b)
	}
	if b.Hands != to(7, 8) || b.Loose != to(1, 5) || b.Flats != to(1, 2) || b.Spare != to(0, 3) || e != api.OK {
		t.Errorf("Bounds: %v, %v", b, e)
	}
}

func TestP5_2_CountsTellOfWhatTheyDoNotCount(t *testing.T) {
	for _, x := range []struct {
		d    bunch.Day
		want []bunch.Range
	}{
		{ofChapter(first()), women(to(20, 20), to(25, 25), to(25, 25), to(24, 24), to(0, 2), to(10, 10), to(8, 8), to(1, 1), to(2, 2), to(0, 0))},
		// 5 to 9 stems are left in no truth, 17 to 18 in three.
		{ofChapter(count(bunch.Left, 0, 17, 18)), women(to(21, 22), to(25, 25), to(22, 23), to(24, 24), to(17, 18), to(10, 10), to(7, 7), to(4, 5), to(1, 1), to(3, 3))},
		// The loose bunches tell of the stems: 21 of them are a bunch more than 20.
		{bunch.Day{Hand: 2, Flat: 1, Women: women(to(7, 7)), Lots: []bunch.Lot{lot(0, 20, 21)}, Counts: []bunch.Count{count(bunch.Loose, 0, 1, 1)}}, women(to(7, 7), to(3, 3), to(0, 0), to(1, 1), to(1, 1), to(1, 1), to(0, 0))},
	} {
		if b, e := bunch.Bounds(x.d); !slices.Equal(ranges(b), x.want) || e != api.OK {
			t.Errorf("Bounds of %v: %v, %v, not %v", x.d, b, e, x.want)
		}
	}
}

func TestP5_2_BoundsAreNotThoseOfTheEndsOfTheRanges(t *testing.T) {
	// 12 stems leave nothing with the feels 4 and 6, but 2 with 5; of 9 to 11 bunches in hands of 10 one, none and 9 are loose.
	if b, e := bunch.Bounds(one(4, 6, 12)); b.Left[0] != to(0, 2) || e != api.OK {
		t.Errorf("Bounds: %v, %v", b, e)
	}
	d := packed(one(1, 1), 10, 1)
	d.Lots = []bunch.Lot{lot(0, 9, 11)}
	if b, e := bunch.Bounds(d); b.Loose != to(0, 9) || b.Hands != to(0, 1) || e != api.OK {
		t.Errorf("Bounds: %v, %v", b, e)
	}
}

func TestP5_2_BoundsAgreeWithTheDefinitions(t *testing.T) {
	seen := map[api.Errno]int{}
	for _, d := range days(600, 12) {
		in := truths(d)
		b, e := bunch.Bounds(d)
		seen[e]++
		if len(in) == 0 {
			if e != api.ErrFalse {
				t.Fatalf("Bounds of %v, which has no truth: %v, %v", d, b, e)
			}
			continue
		}
		want := bounds(d, in)
		many := len(d.Women)
		if len(b.Feel) != many || len(b.Bunches) != many || len(b.Left) != many || !slices.Equal(ranges(b), want) || e != api.OK {
			t.Fatalf("Bounds of %v: %v, %v, not %v", d, b, e, want)
		}
	}
	if seen[api.OK] < 200 || seen[api.ErrFalse] < 100 {
		t.Errorf("not enough of each kind: %v", seen)
	}
}

func TestP5_3_ThickerOfTheChapter(t *testing.T) {
	for _, x := range []struct {
		d                   bunch.Day
		woman, number, want int
	}{
		{ofChapter(), 0, 20, bunch.Perhaps}, {ofChapter(), 0, 22, bunch.Never}, {ofChapter(), 0, 19, bunch.Always}, {ofChapter(first()), 0, 20, bunch.Never},
		{ofChapter(), 0, 21, bunch.Perhaps}, {ofChapter(), 0, 0, bunch.Always}, {ofChapter(), 0, 60, bunch.Never}, {ofChapter(), 1, 24, bunch.Always}, {ofChapter(), 1, 25, bunch.Never}, {ofChapter(), 1, 60, bunch.Never},
		{ofChapter(first()), 0, 19, bunch.Always}, {ofChapter(first()), 1, 24, bunch.Always}, {one(60, 60), 0, 59, bunch.Always}, {one(60, 60), 0, 60, bunch.Never}, {one(1, 1), 0, 0, bunch.Always}, {one(1, 1), 0, 1, bunch.Never}, {one(1, 60), 0, 30, bunch.Perhaps},
	} {
		if v, e := bunch.Thicker(x.d, x.woman, x.number); v != x.want || e != api.OK {
			t.Errorf("Thicker of %v, %d, %d: %d, %v, not %d", x.d, x.woman, x.number, v, e, x.want)
		}
	}
}

func TestP5_3_NumbersOfTheKinds(t *testing.T) {
	if bunch.Always != 1 || bunch.Never != 2 || bunch.Perhaps != 3 {
		t.Errorf("%d, %d, %d", bunch.Always, bunch.Never, bunch.Perhaps)
	}
}

func TestP5_3_ThickerAgreesWithTheDefinitions(t *testing.T) {
	seen := map[int]int{}
	for _, d := range days(500, 13) {
		in := truths(d)
		for woman, r := range d.Women {
			for _, number := range list(0, r.Lo-1, r.Lo, r.Lo+1, r.Hi-1, r.Hi, min(60, r.Hi+1), 60) {
				want, code := 0, api.ErrFalse
				if len(in) > 0 {
					want, code = thicker(in, woman, number), api.OK
				}
				seen[want]++
				if v, e := bunch.Thicker(d, woman, number); v != want || e != code {
					t.Fatalf("Thicker of %v, %d, %d: %d, %v, not %d, %v", d, woman, number, v, e, want, code)
				}
			}
		}
	}
	for _, v := range list(0, bunch.Always, bunch.Never, bunch.Perhaps) {
		if seen[v] < 300 {
			t.Errorf("not enough of each kind: %v", seen)
		}
	}
}

func TestP5_4_FewestOfTheChapter(t *testing.T) {
	for _, x := range []struct {
		d    bunch.Day
		want []int
	}{{ofChapter(), list(0)}, {ofChapter(first()), nil}, {ofChapter(count(bunch.Bunches, 0, 22, 23)), nil}, {ofChapter(count(bunch.Bunches, 0, 23, 25)), list(0)}} {
		if l, e := bunch.Fewest(x.d); !slices.Equal(l, x.want) || e != api.OK {
			t.Errorf("Fewest of %v: %v, %v, not %v", x.d, l, e, x.want)
		}
	}
}

// crew has for each range of feels a woman with these stems, and hands of one bunch.
func crew(flat, stems int, feels ...bunch.Range) bunch.Day {
	d := bunch.Day{Hand: 1, Flat: flat, Women: feels}
	for woman := range feels {
		d.Lots = append(d.Lots, lot(woman, stems, stems))
	}
	return d
}

func TestP5_4_WhoHasToBeKnown(t *testing.T) {
	known, unknown := to(5, 5), to(4, 5)
	for _, x := range []struct {
		d    bunch.Day
		want []int
	}{
		// With the feels 4 and 5 a woman makes 5 bunches of 20 stems, or 4.
		{crew(1, 20, known, known), nil}, {crew(1, 20, unknown, known), list(0)}, {crew(1, 20, known, unknown), list(1)}, {crew(1, 20, unknown, unknown), list(0, 1)},
		{crew(1, 20, known, unknown, known, unknown), list(1, 3)}, {crew(1, 20, unknown, unknown, known, unknown), list(0, 1, 3)}, {crew(1, 20, unknown, unknown, unknown, unknown), list(0, 1, 2, 3)},
		// 9 bunches and 10 are one flat of 9; 8 are none.
		{crew(9, 20, unknown, known), list(0)}, {crew(9, 20, unknown, unknown), list(0, 1)}, {crew(10, 20, unknown, known), nil}, {crew(8, 20, unknown, unknown), nil}, {crew(4, 20, unknown), nil},
		// She has no stems: her feel makes no difference.
		{crew(1, 0, unknown, unknown), nil}, {bunch.Day{Hand: 1, Flat: 1, Women: women(unknown)}, nil},
	} {
		if l, e := bunch.Fewest(x.d); !slices.Equal(l, x.want) || e != api.OK {
			t.Errorf("Fewest of %v: %v, %v, not %v", x.d, l, e, x.want)
		}
	}
}

func TestP5_4_TheFirstOfSeveralLists(t *testing.T) {
	// An even number of hands is made by two women if they have the same feel: each of them tells that of the other.
	d := crew(2, 20, to(4, 5), to(4, 5))
	d.Counts = []bunch.Count{count(bunch.Spare, 0, 0, 0)}
	if l, e := bunch.Fewest(d); !slices.Equal(l, list(0)) || e != api.OK {
		t.Errorf("Fewest: %v, %v", l, e)
	}
	if b, e := bunch.Bounds(d); b.Flats != to(4, 5) || e != api.OK {
		t.Errorf("Bounds: %v, %v", b, e)
	}
	// Of three women, two of whom have to be known, any two will do.
	d = crew(2, 20, to(4, 5), to(4, 5), to(4, 5))
	d.Counts = []bunch.Count{count(bunch.Spare, 0, 0, 0)}
	if l, e := bunch.Fewest(d); !slices.Equal(l, list(0, 1)) || e != api.OK {
		t.Errorf("Fewest of three: %v, %v", l, e)
	}
	// A shorter list is better than one that is lexicographically before it.
	d.Counts = []bunch.Count{count(bunch.Bunches, 0, 4, 4), count(bunch.Spare, 0, 0, 0), count(bunch.Bunches, 2, 5, 5)}
	if l, e := bunch.Fewest(d); len(l) > 0 || e != api.OK {
		t.Errorf("Fewest of one: %v, %v", l, e)
	}
	d.Counts = []bunch.Count{count(bunch.Bunches, 0, 4, 4)}
	d.Flat = 1
	if l, e := bunch.Fewest(d); !slices.Equal(l, list(1, 2)) || e != api.OK {
		t.Errorf("Fewest of the others: %v, %v", l, e)
	}
}

func TestP5_4_StemsThatAreNotKnown(t *testing.T) {
	d := bunch.Day{Hand: 1, Flat: 1, Women: women(to(5, 5), to(4, 6)), Lots: []bunch.Lot{lot(0, 9, 10)}}
	if l, e := bunch.Fewest(d); len(l) > 0 || e != api.ErrShort {
		t.Errorf("Fewest: %v, %v", l, e)
	}
	// The stems make a difference, but a count tells which.
	d.Counts = []bunch.Count{count(bunch.Left, 0, 0, 3)}
	if l, e := bunch.Fewest(d); len(l) > 0 || e != api.OK {
		t.Errorf("Fewest with a count: %v, %v", l, e)
	}
	// They make none, or not with every feel.
	d.Counts, d.Lots = nil, []bunch.Lot{lot(0, 5, 9)}
	if l, e := bunch.Fewest(d); len(l) > 0 || e != api.OK {
		t.Errorf("Fewest of stems that make no difference: %v, %v", l, e)
	}
	d.Lots = []bunch.Lot{lot(1, 6, 7)}
	if l, e := bunch.Fewest(d); len(l) > 0 || e != api.OK {
		t.Errorf("Fewest of 6 or 7 stems: %v, %v", l, e)
	}
	d.Lots = []bunch.Lot{lot(1, 7, 8)}
	if l, e := bunch.Fewest(d); len(l) > 0 || e != api.ErrShort {
		t.Errorf("Fewest of 7 or 8 stems: %v, %v", l, e)
	}
	d.Lots = []bunch.Lot{lot(1, 10, 11)}
	if l, e := bunch.Fewest(d); !slices.Equal(l, list(1)) || e != api.OK {
		t.Errorf("Fewest of 10 or 11 stems: %v, %v", l, e)
	}
}

func TestP5_4_FewestAgreesWithTheDefinitions(t *testing.T) {
	seen := map[int]int{}
	for _, d := range days(4000, 14) {
		in := truths(d)
		l, e := bunch.Fewest(d)
		if len(in) == 0 {
			if len(l) > 0 || e != api.ErrFalse {
				t.Fatalf("Fewest of %v, which has no truth: %v, %v", d, l, e)
			}
			continue
		}
		want, ok := fewest(d, in)
		if ok != (e == api.OK) || !ok && e != api.ErrShort || !slices.Equal(l, want) {
			t.Fatalf("Fewest of %v: %v, %v, not %v", d, l, e, want)
		}
		if !ok {
			seen[-1]++
			continue
		}
		seen[len(l)]++
	}
	for length, many := range map[int]int{-1: 200, 0: 1000, 1: 300, 2: 50} {
		if seen[length] < many {
			t.Errorf("not enough of each kind: %v", seen)
		}
	}
}

func TestP5_5_FirstAndLeaveOfTheChapter(t *testing.T) {
	for _, x := range []struct {
		d     bunch.Day
		first int
		e     api.Errno
		leave []int
	}{
		{ofChapter(), 0, api.ErrNone, nil}, {ofChapter(first()), 0, api.ErrNone, nil}, {ofChapter(first(), second()), 1, api.OK, list(1)},
		// In no truth are 5 to 9 stems left, so that this count is false wherever it stands.
		{ofChapter(second()), 0, api.OK, list(0)}, {ofChapter(second(), first()), 0, api.OK, list(0)}, {ofChapter(first(), first(), second()), 2, api.OK, list(2)},
		// Either of two counts can be left out: the first one is; with a third one it is the one that both contradict.
		{ofChapter(first(), count(bunch.Bunches, 0, 22, 23)), 1, api.OK, list(0)}, {ofChapter(first(), count(bunch.Bunches, 0, 22, 23), count(bunch.Spare, 0, 0, 0)), 1, api.OK, list(1)}, {ofChapter(first(), count(bunch.Bunches, 0, 22, 23), count(bunch.Spare, 0, 3, 3)), 1, api.OK, list(0)},
		{ofChapter(second(), second(), first(), count(bunch.Flats, 0, 1, 1)), 0, api.OK, list(0, 1, 2)}, {ofChapter(first(), count(bunch.Flats, 0, 1, 1), second(), count(bunch.Hands, 0, 8, 8), second()), 1, api.OK, list(1, 2, 4)},
		{ofChapter(slices.Repeat([]bunch.Count{second()}, 5)...), 0, api.OK, list(0, 1, 2, 3, 4)}, {ofChapter(slices.Repeat([]bunch.Count{first()}, 5)...), 0, api.ErrNone, nil},
		// The third one only contradicts the first two together.
		{ofChapter(count(bunch.Loose, 0, 4, 5), count(bunch.Bunches, 0, 23, 25), count(bunch.Left, 0, 0, 16)), 2, api.OK, list(0)},
	} {
		n, e := bunch.First(x.d)
		l, f := bunch.Leave(x.d)
		if n != x.first || e != x.e || !slices.Equal(l, x.leave) || f != api.OK {
			t.Errorf("First, Leave of %v: %d, %v; %v, %v, not %d, %v; %v", x.d, n, e, l, f, x.first, x.e, x.leave)
		}
	}
}

func TestP5_5_FirstAndLeaveAgreeWithTheDefinitions(t *testing.T) {
	seen := map[int]int{}
	for _, d := range days(700, 15) {
		var want []int
		for _, out := range allLists(len(d.Counts)) {
			if len(truthsBut(d, out)) > 0 {
				want = out
				break
			}
		}
		seen[len(want)]++
		if l, e := bunch.Leave(d); !slices.Equal(l, want) || e != api.OK {
			t.Fatalf("Leave of %v: %v, %v, not %v", d, l, e, want)
		}
		n, code := 0, api.ErrNone
		for i := range d.Counts {
			before := copied(d)
			before.Counts = d.Counts[:i+1]
			if len(truths(before)) == 0 {
				n, code = i, api.OK
				break
			}
		}
		if m, e := bunch.First(d); m != n || e != code {
			t.Fatalf("First of %v: %d, %v, not %d, %v", d, m, e, n, code)
		}
	}
	for length, many := range list(200, 100, 50, 10) {
		if seen[length] < many {
			t.Errorf("not enough of each kind: %v", seen)
		}
	}
}
