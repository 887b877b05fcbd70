package warm_test

import (
	"slices"
	"testing"

	"watercress/api"
	"watercress/warm"
)

// ofChapter is the stream of the chapter's examples, with readings.
func ofChapter(readings ...warm.Reading) warm.Stream {
	return warm.Stream{
		Spring:   to(100, 104),
		Rate:     50,
		Depths:   []int{1, 2},
		Air:      []warm.Range{to(-40, -40), to(0, 10)},
		Readings: readings,
	}
}

// The readings of the chapter's examples; the third one contradicts the two others.
func first() warm.Reading  { return reading(0, 0, 31, 1) }
func second() warm.Reading { return reading(1, 1, 40, 0) }
func third() warm.Reading  { return reading(0, 1, 57, 0) }

// atRate is the stream of the chapter's examples with another Rate, and without readings.
func atRate(rate int) warm.Stream {
	s := ofChapter()
	s.Rate = rate
	return s
}

// one has one bed, and the Rate 100.
func one(depth int, spring, air warm.Range, readings ...warm.Reading) warm.Stream {
	return warm.Stream{Spring: spring, Rate: 100, Depths: []int{depth}, Air: []warm.Range{air}, Readings: readings}
}

func truth(spring int, air ...int) warm.Truth { return warm.Truth{Spring: spring, Air: air} }

func TestP2_1_PlayOfTheChapter(t *testing.T) {
	want := [][]int{{30, 13}, {55, 44}}
	for _, s := range []warm.Stream{ofChapter(), ofChapter(first(), second()), ofChapter(first(), second(), third())} {
		if l, e := warm.Play(s, truth(100, -40, 10)); !sameRows(l, want) || e != api.OK {
			t.Errorf("Play of %v: %v, %v", s, l, e)
		}
	}
}

func TestP2_1_HalfTheWay(t *testing.T) {
	s := warm.Stream{Spring: to(100, 100), Rate: 50, Depths: []int{1}, Air: []warm.Range{to(-40, -40)}}
	if l, e := warm.Play(s, truth(100, -40)); !sameRows(l, [][]int{{30}}) || e != api.OK {
		t.Errorf("Play: %v, %v", l, e)
	}
}

func TestP2_1_QuotientsAreRoundedTowards0(t *testing.T) {
	for _, x := range []struct{ depth, spring, air, want int }{
		{3, 10, -10, 4}, {3, -10, 10, -4}, {6, 0, 5, 0}, {6, 0, -5, 0}, {6, 0, 6, 1}, {6, 0, -6, -1},
		{2, 300, -300, 0}, {2, -300, 300, 0}, {1, 300, -300, -300}, {1, -300, 300, 300}, {2, -7, -4, -6}, {2, -4, -7, -5},
	} {
		s := one(x.depth, to(x.spring, x.spring), to(x.air, x.air))
		if l, e := warm.Play(s, truth(x.spring, x.air)); !sameRows(l, [][]int{{x.want}}) || e != api.OK {
			t.Errorf("Play of %v: %v, %v, not %d", s, l, e, x.want)
		}
	}
}

func TestP2_1_WhatWasInAnEarlierHourDoesNotMatter(t *testing.T) {
	s := warm.Stream{Spring: to(40, 40), Rate: 50, Depths: []int{1, 1}, Air: []warm.Range{to(0, 0), to(80, 80), to(0, 0)}}
	if l, e := warm.Play(s, truth(40, 0, 80, 0)); !sameRows(l, [][]int{{20, 10}, {60, 70}, {20, 10}}) || e != api.OK {
		t.Errorf("Play: %v, %v", l, e)
	}
}

func TestP2_1_ProveTruthOfTheChapter(t *testing.T) {
	s := ofChapter(first(), second())
	for _, x := range []struct {
		t    warm.Truth
		want bool
	}{
		{truth(100, -40, 3), true}, {truth(100, -40, 10), false}, {truth(104, -40, 0), false}, {truth(104, -40, 1), true},
		{truth(99, -40, 3), false}, {truth(105, -40, 3), false}, {truth(100, -41, 3), false}, {truth(100, -40, 11), false},
		{truth(100, -40), false}, {truth(100), false}, {truth(100, -40, 3, 3), false},
	} {
		if warm.ProveTruth(s, x.t) != x.want {
			t.Errorf("ProveTruth of %v is not %v", x.t, x.want)
		}
	}
	if warm.ProveTruth(ofChapter(first(), second(), third()), truth(100, -40, 3)) {
		t.Error("ProveTruth of a stream that contradicts itself")
	}
}

func TestP2_1_ErrorIsTheMostThatAReadingIsWrong(t *testing.T) {
	for off, want := range map[int]bool{1: false, 2: true, 3: true} {
		for _, seen := range []int{3 - 2, 3 + 2} {
			s := one(1, to(7, 7), to(3, 3), reading(0, 0, seen, off))
			if warm.ProveTruth(s, truth(7, 3)) != want {
				t.Errorf("ProveTruth of %v is not %v", s, want)
			}
		}
	}
}

func TestP2_1_CheckStreamPlayAndProveTruthAgreeWithTheDefinitions(t *testing.T) {
	for _, s := range streams(150, 11) {
		if e := warm.CheckStream(s); e != api.OK {
			t.Fatalf("CheckStream of %v: %v", s, e)
		}
		for _, tr := range choices(s) {
			var want [][]int
			for hour := range s.Air {
				var row []int
				for n := range s.Depths {
					row = append(row, warmth(s, tr, n, hour))
				}
				want = append(want, row)
			}
			if l, e := warm.Play(s, tr); !sameRows(l, want) || e != api.OK {
				t.Fatalf("Play of %v, %v: %v, %v, not %v", s, tr, l, e, want)
			}
			is := true
			for _, r := range s.Readings {
				is = is && right(s, tr, r)
			}
			if warm.ProveTruth(s, tr) != is {
				t.Fatalf("ProveTruth of %v, %v is not %v", s, tr, is)
			}
		}
	}
}

func TestP2_2_BoundsAndSpringsOfTheChapter(t *testing.T) {
	springs := []int{100, 101, 102, 103, 104}
	for _, x := range []struct {
		s       warm.Stream
		bounds  [][]warm.Range
		springs []int
	}{
		{ofChapter(first()), [][]warm.Range{{to(30, 32), to(13, 14)}, {to(50, 57), to(38, 46)}}, springs},
		{ofChapter(first(), second()), [][]warm.Range{{to(30, 32), to(13, 14)}, {to(52, 53), to(40, 40)}}, springs},
		{atRate(0), [][]warm.Range{{to(100, 104), to(100, 104)}, {to(100, 104), to(100, 104)}}, springs},
	} {
		b, e := warm.Bounds(x.s)
		l, f := warm.Springs(x.s)
		if !sameRows(b, x.bounds) || e != api.OK || !slices.Equal(l, x.springs) || f != api.OK {
			t.Errorf("Bounds, Springs of %v: %v, %v; %v, %v", x.s, b, e, l, f)
		}
	}
}

func TestP2_2_SpringsThatARoundedWarmthAllows(t *testing.T) {
	for seen, want := range map[int][]int{2: {1, 2}, 3: {3}, 4: {4, 5}, 5: {6, 7}, 7: {10, 11}, 8: {12}} {
		s := one(2, to(1, 12), to(3, 3), reading(0, 0, seen, 0))
		if l, e := warm.Springs(s); !slices.Equal(l, want) || e != api.OK {
			t.Errorf("Springs of %v: %v, %v, not %v", s, l, e, want)
		}
	}
	for _, seen := range []int{1, 9} {
		s := one(2, to(1, 12), to(3, 3), reading(0, 0, seen, 0))
		if l, e := warm.Springs(s); len(l) > 0 || e != api.ErrFail {
			t.Errorf("Springs of %v: %v, %v", s, l, e)
		}
	}
}

func TestP2_2_HoursAgreeOnTheSpring(t *testing.T) {
	// Each hour alone allows two springs, but only one of them both.
	s := warm.Stream{Spring: to(0, 9), Rate: 0, Depths: []int{1}, Air: []warm.Range{to(0, 0), to(0, 0)}, Readings: []warm.Reading{reading(0, 0, 3, 1), reading(0, 1, 5, 1)}}
	if l, e := warm.Springs(s); !slices.Equal(l, []int{4}) || e != api.OK {
		t.Errorf("Springs: %v, %v", l, e)
	}
	if b, e := warm.Bounds(s); !sameRows(b, [][]warm.Range{{to(4, 4)}, {to(4, 4)}}) || e != api.OK {
		t.Errorf("Bounds: %v, %v", b, e)
	}
}

func TestP2_2_BoundsAndSpringsAgreeWithTheDefinitions(t *testing.T) {
	contradicted := 0
	for _, s := range streams(300, 12) {
		own := truths(s)
		b, e := warm.Bounds(s)
		l, f := warm.Springs(s)
		if len(own) == 0 {
			contradicted++
			if len(b) > 0 || e != api.ErrFail || len(l) > 0 || f != api.ErrFail {
				t.Fatalf("Bounds, Springs of %v: %v, %v; %v, %v", s, b, e, l, f)
			}
			continue
		}
		var want [][]warm.Range
		for hour := range s.Air {
			var row []warm.Range
			for n := range s.Depths {
				row = append(row, bounds(s, own, n, hour))
			}
			want = append(want, row)
		}
		var springs []int
		for n := s.Spring.Lo; n <= s.Spring.Hi; n++ {
			if slices.ContainsFunc(own, func(x warm.Truth) bool { return x.Spring == n }) {
				springs = append(springs, n)
			}
		}
		if !sameRows(b, want) || e != api.OK || !slices.Equal(l, springs) || f != api.OK {
			t.Fatalf("Bounds, Springs of %v: %v, %v, not %v; %v, %v, not %v", s, b, e, want, l, f, springs)
		}
	}
	if contradicted < 50 || contradicted > 250 {
		t.Errorf("%d of 300 streams contradict themselves", contradicted)
	}
}

func TestP2_3_FrozenAndKeepOfTheChapter(t *testing.T) {
	s := atRate(100)
	if v, e := warm.Frozen(s, 1, 0); v != warm.Always || e != api.OK {
		t.Errorf("Frozen: %d, %v", v, e)
	}
	if n, e := warm.Keep(s, 0); n != 2 || e != api.OK {
		t.Errorf("Keep of the bed 0: %d, %v", n, e)
	}
	if n, e := warm.Keep(s, 1); n != 0 || e != api.ErrShort {
		t.Errorf("Keep of the bed 1: %d, %v", n, e)
	}
}

func TestP2_3_NumbersOfTheKinds(t *testing.T) {
	if warm.Always != 1 || warm.Never != 2 || warm.Perhaps != 3 {
		t.Errorf("%d, %d, %d", warm.Always, warm.Never, warm.Perhaps)
	}
}

func TestP2_3_FrozenAtMost0(t *testing.T) {
	for _, x := range []struct {
		air  warm.Range
		more []warm.Reading
		want int
	}{
		{to(-3, 0), nil, warm.Always}, {to(0, 0), nil, warm.Always}, {to(-3, 1), nil, warm.Perhaps}, {to(0, 1), nil, warm.Perhaps}, {to(1, 1), nil, warm.Never}, {to(1, 3), nil, warm.Never},
		{to(-3, 1), []warm.Reading{reading(0, 0, 1, 0)}, warm.Never}, {to(-3, 1), []warm.Reading{reading(0, 0, 0, 0)}, warm.Always}, {to(-3, 1), []warm.Reading{reading(0, 0, 0, 1)}, warm.Perhaps},
	} {
		s := one(1, to(7, 9), x.air, x.more...)
		if v, e := warm.Frozen(s, 0, 0); v != x.want || e != api.OK {
			t.Errorf("Frozen of %v: %d, %v, not %d", s, v, e, x.want)
		}
	}
}

func TestP2_3_FrozenIsOfThatBedInThatHour(t *testing.T) {
	s := warm.Stream{Spring: to(10, 10), Rate: 100, Depths: []int{2, 1}, Air: []warm.Range{to(-5, -5), to(-11, -9), to(5, 5)}}
	for hour, row := range [][]int{{warm.Never, warm.Always}, {warm.Perhaps, warm.Always}, {warm.Never, warm.Never}} {
		for n, want := range row {
			if v, e := warm.Frozen(s, n, hour); v != want || e != api.OK {
				t.Errorf("Frozen of the bed %d in the hour %d: %d, %v, not %d", n, hour, v, e, want)
			}
		}
	}
}

func TestP2_3_FrozenAgreesWithTheDefinition(t *testing.T) {
	seen := map[int]int{}
	for _, s := range streams(700, 13) {
		own := truths(s)
		for n := range s.Depths {
			for hour := range s.Air {
				want, code := warm.Perhaps, api.OK
				switch many := frozen(s, own, n, hour); {
				case len(own) == 0:
					want, code = 0, api.ErrFail
				case many == len(own):
					want = warm.Always
				case many == 0:
					want = warm.Never
				}
				seen[want]++
				if v, e := warm.Frozen(s, n, hour); v != want || e != code {
					t.Fatalf("Frozen of %v, %d, %d: %d, %v, not %d", s, n, hour, v, e, want)
				}
			}
		}
	}
	for v, many := range seen {
		if many < 30 {
			t.Errorf("only %d of the kind %d", many, v)
		}
	}
}

func TestP2_3_KeepDoesNotAskReadings(t *testing.T) {
	for _, r := range []warm.Reading{reading(0, 0, 300, 0), reading(0, 0, 4, 0)} {
		s := one(1, to(0, 5), to(0, 4), r)
		if n, e := warm.Keep(s, 0); n != 0 || e != api.ErrShort {
			t.Errorf("Keep of %v: %d, %v", s, n, e)
		}
		s.Air[0] = to(4, 4)
		if n, e := warm.Keep(s, 0); n != 1 || e != api.OK {
			t.Errorf("Keep of %v: %d, %v", s, n, e)
		}
	}
}

func TestP2_3_KeepDoesNotAskTheDepthThatTheBedHas(t *testing.T) {
	for depth := 1; depth <= api.MaxWarmDepth; depth++ {
		if n, e := warm.Keep(one(depth, to(10, 10), to(-30, -30)), 0); n != 5 || e != api.OK {
			t.Errorf("Keep of a bed of the depth %d: %d, %v", depth, n, e)
		}
		if n, e := warm.Keep(one(depth, to(10, 10), to(-40, -40)), 0); n != 6 || e != api.OK {
			t.Errorf("Keep of a colder bed of the depth %d: %d, %v", depth, n, e)
		}
		if n, e := warm.Keep(one(depth, to(10, 10), to(-60, -50)), 0); n != 0 || e != api.ErrShort {
			t.Errorf("Keep of the coldest bed of the depth %d: %d, %v", depth, n, e)
		}
	}
}

func TestP2_4_FirstAndLeaveOfTheChapter(t *testing.T) {
	s := ofChapter(first(), second(), third())
	if n, e := warm.First(s); n != 2 || e != api.OK {
		t.Errorf("First: %d, %v", n, e)
	}
	if l, e := warm.Leave(s); !slices.Equal(l, []int{1}) || e != api.OK {
		t.Errorf("Leave: %v, %v", l, e)
	}
}

func TestP2_4_NothingIsLeftOutOfATruth(t *testing.T) {
	for _, s := range []warm.Stream{ofChapter(), ofChapter(first()), ofChapter(first(), second()), ofChapter(second(), second(), second(), second(), second(), second())} {
		if n, e := warm.First(s); n != 0 || e != api.ErrNone {
			t.Errorf("First of %v: %d, %v", s, n, e)
		}
		if l, e := warm.Leave(s); len(l) > 0 || e != api.OK {
			t.Errorf("Leave of %v: %v, %v", s, l, e)
		}
	}
}

func TestP2_4_FirstOfSeveralSmallestSets(t *testing.T) {
	for _, x := range []struct {
		readings []warm.Reading
		first    int
		leave    []int
	}{
		{[]warm.Reading{reading(0, 0, 3, 0), reading(0, 0, 4, 0)}, 1, []int{0}},
		{[]warm.Reading{reading(0, 0, 3, 0), reading(0, 0, 4, 0), reading(0, 0, 2, 1)}, 1, []int{1}},
		{[]warm.Reading{reading(0, 0, 1, 0), reading(0, 0, 4, 0), reading(0, 0, 7, 1)}, 1, []int{0, 1}},
		{[]warm.Reading{reading(0, 0, 20, 0), reading(0, 0, 4, 0), reading(0, 0, 7, 1)}, 0, []int{0, 1}},
		{[]warm.Reading{reading(0, 0, 4, 0), reading(0, 0, 20, 0), reading(0, 0, 7, 1), reading(0, 0, 4, 1)}, 1, []int{1, 2}},
	} {
		s := one(1, to(0, 0), to(0, 9), x.readings...)
		n, e := warm.First(s)
		l, f := warm.Leave(s)
		if n != x.first || e != api.OK || !slices.Equal(l, x.leave) || f != api.OK {
			t.Errorf("First, Leave of %v: %d, %v; %v, %v", s, n, e, l, f)
		}
	}
}

func TestP2_4_AllReadingsMayBeFalse(t *testing.T) {
	wrong := reading(0, 0, 300, 20)
	s := ofChapter(wrong, wrong, wrong, wrong, wrong, wrong)
	if l, e := warm.Leave(s); !slices.Equal(l, []int{0, 1, 2, 3, 4, 5}) || e != api.OK {
		t.Errorf("Leave: %v, %v", l, e)
	}
	if n, e := warm.First(s); n != 0 || e != api.OK {
		t.Errorf("First: %d, %v", n, e)
	}
}

func TestP2_4_HoursMayContradictEachOther(t *testing.T) {
	// Each hour alone has truths, but with other springs.
	s := warm.Stream{Spring: to(0, 9), Rate: 0, Depths: []int{1, 1}, Air: []warm.Range{to(0, 0), to(0, 0)}, Readings: []warm.Reading{reading(1, 0, 3, 1), reading(0, 1, 6, 1), reading(1, 1, 6, 1)}}
	if n, e := warm.First(s); n != 1 || e != api.OK {
		t.Errorf("First: %d, %v", n, e)
	}
	if l, e := warm.Leave(s); !slices.Equal(l, []int{0}) || e != api.OK {
		t.Errorf("Leave: %v, %v", l, e)
	}
}
