package drain_test

import (
	"math/rand"
	"slices"
	"testing"

	"watercress/api"
	"watercress/bed"
	"watercress/drain"
)

const always, never, perhaps = drain.Always, drain.Never, drain.Perhaps

// ofChapter is the foul of the chapter's examples, with cases.
func ofChapter(cases ...drain.Fever) drain.Foul {
	farm := bed.Farm{
		Beds:    []bed.Bed{{Need: 2, Notch: 2, Down: 2}, {Need: 3, Notch: 5, Down: 2}, {Need: 2, Notch: 2, Down: 3}, {Need: 3, Notch: 3, Down: -1}},
		Springs: []bed.Spring{spring(0, 4, 5), spring(1, 5, 6)},
	}
	return drain.Foul{Farm: farm, Last: 12, Hours: ranges(1, 2, 1, 1, 2, 2, 0, 0), Drains: []drain.Drain{opened(0, 3, 4), opened(1, 2, 2)}, Cases: cases}
}

// looked is the chapter's foul with looks.
func looked(f drain.Foul, looks ...bed.Look) drain.Foul {
	f.Farm.Looks = looks
	return f
}

// noTruth is a foul whose farm has none.
func noTruth(cases ...drain.Fever) drain.Foul { return looked(ofChapter(cases...), over(0, 9, 9)) }

// chain is a foul of beds one below the other, through all of which one spring goes; these are the ranges of Hours.
func chain(last int, hours []drain.Range, drains ...drain.Drain) drain.Foul {
	f := drain.Foul{Last: last, Hours: hours, Drains: drains, Farm: bed.Farm{Springs: []bed.Spring{spring(0, 1, 1)}}}
	for n := range hours {
		f.Farm.Beds = append(f.Farm.Beds, bed.Bed{Down: n + 1})
	}
	f.Farm.Beds[len(hours)-1].Down = -1
	return f
}

// dry is the chain in which the board of the bed keeps all water.
func dry(f drain.Foul, n int) drain.Foul {
	f.Farm.Beds = slices.Clone(f.Farm.Beds)
	f.Farm.Beds[n].Notch = 1
	return f
}

func TestP8_1_CheckFoul(t *testing.T) {
	for _, f := range []drain.Foul{
		ofChapter(), ofChapter(fever(0, 6), fever(3, 12)), noTruth(), chain(0, ranges(0, 0), opened(0, 0, 0)), chain(24, ranges(0, 6, 6, 6), opened(1, 0, 24)),
	} {
		if e := drain.CheckFoul(f); e != api.OK {
			t.Errorf("CheckFoul of %v: %v", f, e)
		}
	}
	if e := drain.CheckFoul(drain.Foul{}); e != api.ErrArg {
		t.Errorf("CheckFoul of nothing: %v", e)
	}
}

func TestP8_1_Play(t *testing.T) {
	five := ranges(1, 1, 2, 2, 3, 3, 0, 0, 6, 6)
	for _, x := range []struct {
		f    drain.Foul
		t    drain.Truth
		want []int
	}{
		// The chapter's examples.
		{ofChapter(), truth(list(5, 6), list(1, 1, 2, 0), 0, 4), list(4, -1, 5, 7)}, {ofChapter(), truth(list(4, 5), list(2, 1, 2, 0), 0, 3), list(3, -1, 5, -1)},
		// 6 of the bed 1 go on, and 5 do not; the bed 2 keeps 2 of 3, or of 2.
		{ofChapter(), truth(list(4, 6), list(2, 1, 2, 0), 1, 2), list(-1, 2, 3, 5)}, {ofChapter(), truth(list(5, 5), list(1, 1, 2, 0), 1, 2), list(-1, 2, -1, -1)}, {ofChapter(), truth(list(5, 5), list(1, 1, 2, 0), 0, 3), list(3, -1, 4, 6)},
		// The hours are those of the upper bed, and the number of the drain is not that of its bed.
		{chain(9, five, opened(0, 2, 2)), truth(list(1), list(1, 2, 3, 0, 6), 0, 2), list(2, 3, 5, 8, 8)}, {chain(9, five, opened(0, 2, 2), opened(3, 0, 0), opened(2, 7, 8)), truth(list(1), list(1, 2, 3, 0, 6), 1, 0), list(-1, -1, -1, 0, 0)}, {chain(9, five, opened(0, 2, 2), opened(3, 0, 0), opened(2, 7, 8)), truth(list(1), list(1, 2, 3, 0, 6), 2, 8), list(-1, -1, 8, 11, 11)}, {chain(9, five, opened(4, 9, 9)), truth(list(1), list(1, 2, 3, 0, 6), 0, 9), list(-1, -1, -1, -1, 9)},
		// It goes no further than a bed from which no water does, which it reaches; further up it does not matter.
		{dry(chain(9, five, opened(0, 2, 2)), 2), truth(list(1), list(1, 2, 3, 0, 6), 0, 2), list(2, 3, 5, -1, -1)}, {dry(chain(9, five, opened(0, 2, 2)), 0), truth(list(1), list(1, 2, 3, 0, 6), 0, 2), list(2, -1, -1, -1, -1)}, {dry(chain(9, five, opened(2, 2, 2)), 4), truth(list(1), list(1, 2, 3, 0, 6), 0, 2), list(-1, -1, 2, 5, 5)}, {dry(chain(9, five, opened(0, 2, 2)), 3), truth(list(1), list(1, 2, 3, 0, 6), 0, 2), list(2, 3, 5, 8, -1)},
		// Without water the bed of the drain is reached all the same.
		{dry(chain(9, five, opened(1, 2, 2)), 0), truth(list(1), list(1, 2, 3, 0, 6), 0, 2), list(-1, 2, -1, -1, -1)},
		// Later than in Last, and as late as can be.
		{chain(5, ranges(6, 6, 0, 0, 3, 3), opened(0, 5, 5)), truth(list(1), list(6, 0, 3), 0, 5), list(5, 11, 11)}, {chain(24, slices.Repeat(ranges(6, 6), 8), opened(0, 24, 24)), truth(list(1), slices.Repeat(list(6), 8), 0, 24), list(24, 30, 36, 42, 48, 54, 60, 66)},
		// One bed, and no springs.
		{chain(0, ranges(3, 3), opened(0, 0, 0)), truth(list(1), list(3), 0, 0), list(0)}, {drain.Foul{Farm: bed.Farm{Beds: []bed.Bed{{Down: 1}, {Down: -1}}}, Hours: ranges(0, 0, 0, 0), Drains: []drain.Drain{{}}}, truth(nil, list(0, 0), 0, 0), list(0, -1)},
		// Neither looks nor cases are asked.
		{noTruth(), truth(list(5, 6), list(1, 1, 2, 0), 0, 4), list(4, -1, 5, 7)}, {ofChapter(fever(1, 0), fever(3, 4)), truth(list(5, 6), list(1, 1, 2, 0), 0, 4), list(4, -1, 5, 7)},
	} {
		if l, e := drain.Play(x.f, x.t); !slices.Equal(l, x.want) || e != api.OK {
			t.Errorf("Play of %v, %v: %v, %v, not %v", x.f, x.t, l, e, x.want)
		}
	}
}

func TestP8_1_ProveTruth(t *testing.T) {
	fine := truth(list(5, 6), list(1, 1, 2, 0), 0, 4)
	for _, x := range []struct {
		f    drain.Foul
		t    drain.Truth
		want bool
	}{
		{ofChapter(), fine, true}, {ofChapter(), truth(list(4, 5), list(2, 1, 2, 0), 1, 2), true},
		// In its hour, before it, and after it.
		{ofChapter(fever(2, 5)), fine, true}, {ofChapter(fever(2, 6)), fine, true}, {ofChapter(fever(2, 4)), fine, false}, {ofChapter(fever(0, 4)), fine, true}, {ofChapter(fever(0, 3)), fine, false}, {ofChapter(fever(3, 7)), fine, true}, {ofChapter(fever(3, 6)), fine, false},
		// In a bed that is not reached, in any hour.
		{ofChapter(fever(1, 12)), fine, false}, {ofChapter(fever(1, 0)), fine, false},
		// All cases count.
		{ofChapter(fever(0, 4), fever(2, 5), fever(3, 7)), fine, true}, {ofChapter(fever(0, 3), fever(2, 5), fever(3, 7)), fine, false}, {ofChapter(fever(0, 4), fever(2, 4), fever(3, 7)), fine, false}, {ofChapter(fever(0, 4), fever(2, 5), fever(3, 6)), fine, false}, {ofChapter(fevers(6, fever(3, 7))...), fine, true},
		// Reached after Last.
		{withCases(chain(5, ranges(6, 6, 0, 0), opened(0, 0, 5)), fever(1, 5)), truth(list(1), list(6, 0), 0, 0), false}, {withCases(chain(6, ranges(6, 6, 0, 0), opened(0, 0, 5)), fever(1, 6)), truth(list(1), list(6, 0), 0, 0), true},
		// The looks must be right.
		{looked(ofChapter(), over(2, 0, 0)), fine, false}, {looked(ofChapter(), over(2, 0, 0)), truth(list(4, 5), list(1, 1, 2, 0), 0, 4), true}, {looked(ofChapter(), over(2, 0, 9)), fine, true}, {noTruth(), fine, false},
		// It must have one number of each range.
		{ofChapter(), drain.Truth{}, false}, {ofChapter(), truth(list(3, 6), list(1, 1, 2, 0), 0, 4), false}, {ofChapter(), truth(list(5, 7), list(1, 1, 2, 0), 0, 4), false}, {ofChapter(), truth(list(5), list(1, 1, 2, 0), 0, 4), false}, {ofChapter(), truth(list(5, 6, 6), list(1, 1, 2, 0), 0, 4), false}, {ofChapter(), truth(list(5, 6), list(3, 1, 2, 0), 0, 4), false}, {ofChapter(), truth(list(5, 6), list(0, 1, 2, 0), 0, 4), false}, {ofChapter(), truth(list(5, 6), list(1, 1, 2), 0, 4), false}, {ofChapter(), truth(list(5, 6), list(1, 1, 2, 0, 0), 0, 4), false}, {ofChapter(), truth(list(5, 6), list(1, 1, 2, 0), 0, 2), false}, {ofChapter(), truth(list(5, 6), list(1, 1, 2, 0), 0, 5), false}, {ofChapter(), truth(list(5, 6), list(1, 1, 2, 0), 1, 3), false}, {ofChapter(), truth(list(5, 6), list(1, 1, 2, 0), 2, 2), false}, {ofChapter(), truth(list(5, 6), list(1, 1, 2, 0), -1, 2), false},
		// The foul must be valid.
		{drain.Foul{}, drain.Truth{}, false}, {drain.Foul{}, fine, false}, {chain(25, ranges(0, 0), opened(0, 0, 0)), truth(list(1), list(0), 0, 0), false}, {chain(24, ranges(0, 0), opened(0, 0, 0)), truth(list(1), list(0), 0, 0), true},
	} {
		if drain.ProveTruth(x.f, x.t) != x.want {
			t.Errorf("ProveTruth of %v, %v is not %v", x.f, x.t, x.want)
		}
	}
}

// isOf reports whether the truth has one number of each range, and one of the drains.
func isOf(f drain.Foul, t drain.Truth) bool {
	is := len(t.Flows) == len(f.Farm.Springs) && len(t.Hours) == len(f.Hours) && t.Drain >= 0 && t.Drain < len(f.Drains) && has(f.Drains[t.Drain].Opened, t.Opened)
	for n := 0; is && n < len(t.Flows); n++ {
		is = has(drain.Range(f.Farm.Springs[n].Flow), t.Flows[n])
	}
	for n := 0; is && n < len(t.Hours); n++ {
		is = has(f.Hours[n], t.Hours[n])
	}
	return is
}

func TestP8_1_PlayAndProveTruthAgreeWithTheDefinitions(t *testing.T) {
	seen := map[bool]int{}
	far, outside := 0, 0
	r := rand.New(rand.NewSource(11))
	for _, f := range fouls(400, 11) {
		for _, tr := range choices(f) {
			want := reaches(f, tr)
			if l, e := drain.Play(f, tr); !slices.Equal(l, want) || e != api.OK {
				t.Fatalf("Play of %v, %v: %v, %v, not %v", f, tr, l, e, want)
			}
			is := bed.ProveTruth(f.Farm, tr.Flows)
			for _, c := range f.Cases {
				is = is && explained(c, want)
			}
			if drain.ProveTruth(f, tr) != is {
				t.Fatalf("ProveTruth of %v, %v is not %v", f, tr, is)
			}
			seen[is]++
			if slices.Max(want) > tr.Opened+2 {
				far++
			}
			// Some number that is perhaps not of its range.
			for _, l := range []*int{&tr.Flows[r.Intn(len(tr.Flows))], &tr.Hours[r.Intn(len(tr.Hours))], &tr.Opened} {
				if r.Intn(4) == 0 {
					*l += r.Intn(5) - 2
				}
			}
			if isOf(f, tr) {
				continue
			}
			outside++
			if l, e := drain.Play(f, tr); len(l) > 0 || e != api.ErrRange || drain.ProveTruth(f, tr) {
				t.Fatalf("Play, ProveTruth of %v, %v: %v, %v", f, tr, l, e)
			}
		}
	}
	if seen[true] < 1000 || seen[false] < 1000 || far < 1000 || outside < 1000 {
		t.Errorf("not enough of each kind: %v, %d, %d", seen, far, outside)
	}
}

func TestP8_2_Reached(t *testing.T) {
	both := ofChapter(fever(2, 5), fever(3, 5))
	three := ranges(1, 2, 0, 1, 0, 0)
	for _, x := range []struct {
		f       drain.Foul
		n, hour int
		want    int
	}{
		// The chapter's examples.
		{ofChapter(), 2, 6, perhaps}, {ofChapter(), 1, 2, perhaps}, {ofChapter(), 3, 4, never}, {both, 2, 3, always}, {both, 0, 12, never},
		// The bed of one of two drains; the hours 0 and Last.
		{ofChapter(), 0, 12, perhaps}, {ofChapter(), 0, 2, never}, {ofChapter(), 0, 3, perhaps}, {ofChapter(), 1, 1, never}, {ofChapter(), 0, 0, never}, {ofChapter(), 2, 2, never}, {ofChapter(), 2, 3, perhaps}, {ofChapter(), 3, 5, perhaps}, {ofChapter(), 3, 12, perhaps},
		// Cases tell the drain, the hour and the water.
		{ofChapter(fever(0, 6)), 0, 3, perhaps}, {ofChapter(fever(0, 6)), 0, 4, always}, {ofChapter(fever(0, 3)), 0, 3, always}, {ofChapter(fever(0, 6)), 2, 6, always}, {ofChapter(fever(0, 6)), 2, 5, perhaps}, {ofChapter(fever(0, 6)), 2, 3, never}, {ofChapter(fever(0, 6)), 1, 12, never}, {ofChapter(fever(0, 6)), 3, 12, perhaps}, {ofChapter(fever(0, 6), fever(3, 12)), 3, 8, always}, {ofChapter(fever(0, 6), fever(3, 12)), 3, 7, perhaps}, {both, 3, 5, always}, {both, 3, 4, never}, {both, 2, 2, never}, {both, 1, 2, always},
		// Looks tell the water, too.
		{looked(ofChapter(), over(2, 0, 0)), 3, 12, never}, {looked(ofChapter(), over(2, 1, 9)), 3, 12, perhaps}, {looked(ofChapter(fever(0, 6)), over(2, 1, 9)), 3, 12, always}, {looked(ofChapter(), over(1, 1, 1)), 2, 6, always}, {looked(ofChapter(), over(1, 0, 0)), 2, 3, never},
		// One drain: the hours of the beds decide.
		{chain(9, three, opened(0, 1, 1)), 0, 1, always}, {chain(9, three, opened(0, 1, 1)), 0, 0, never}, {chain(9, three, opened(0, 1, 1)), 1, 2, perhaps}, {chain(9, three, opened(0, 1, 1)), 1, 3, always}, {chain(9, three, opened(0, 1, 1)), 2, 1, never}, {chain(9, three, opened(0, 1, 1)), 2, 3, perhaps}, {chain(9, three, opened(0, 1, 1)), 2, 4, always}, {dry(chain(9, three, opened(0, 1, 1)), 1), 2, 9, never},
		// It can reach a bed after Last.
		{chain(5, ranges(5, 6, 0, 0), opened(0, 0, 0)), 1, 5, perhaps}, {chain(5, ranges(6, 6, 0, 0), opened(0, 0, 0)), 1, 5, never}, {chain(24, ranges(6, 6, 0, 0), opened(0, 20, 20)), 1, 24, never}, {chain(0, ranges(0, 0, 0, 0), opened(0, 0, 0)), 1, 0, always}, {chain(0, ranges(0, 1, 0, 0), opened(0, 0, 0)), 1, 0, perhaps},
	} {
		if v, e := drain.Reached(x.f, x.n, x.hour); v != x.want || e != api.OK {
			t.Errorf("Reached of %v, %d, %d: %d, %v, not %d", x.f, x.n, x.hour, v, e, x.want)
		}
	}
}

func TestP8_2_Earliest(t *testing.T) {
	both := ofChapter(fever(2, 5), fever(3, 5))
	for _, x := range []struct {
		f    drain.Foul
		n    int
		want int
		e    api.Errno
	}{
		{ofChapter(), 3, 5, api.OK}, {ofChapter(fever(0, 6)), 3, 6, api.OK},
		{ofChapter(), 0, 3, api.OK}, {ofChapter(), 1, 2, api.OK}, {ofChapter(), 2, 3, api.OK}, {ofChapter(fever(0, 6)), 2, 4, api.OK}, {ofChapter(fever(0, 6)), 0, 3, api.OK}, {both, 3, 5, api.OK}, {both, 2, 3, api.OK}, {looked(ofChapter(), over(1, 0, 0)), 2, 4, api.OK}, {looked(ofChapter(), over(1, 0, 0)), 3, 6, api.OK},
		// In the hour 0, and in one later than Last.
		{chain(0, ranges(0, 1, 0, 0), opened(0, 0, 0)), 0, 0, api.OK}, {chain(0, ranges(0, 1, 0, 0), opened(0, 0, 0)), 1, 0, api.OK}, {chain(5, ranges(6, 6, 0, 0, 3, 3), opened(0, 5, 5)), 2, 11, api.OK}, {chain(24, slices.Repeat(ranges(6, 6), 8), opened(0, 24, 24)), 7, 66, api.OK},
		// In none of the truths that explain the foul.
		{both, 0, 0, api.ErrNone}, {looked(ofChapter(), over(2, 0, 0)), 3, 0, api.ErrNone}, {chain(9, ranges(0, 0, 0, 0), opened(1, 2, 2)), 0, 0, api.ErrNone}, {dry(chain(9, ranges(0, 0, 0, 0), opened(0, 2, 2)), 0), 1, 0, api.ErrNone},
	} {
		if n, e := drain.Earliest(x.f, x.n); n != x.want || e != x.e {
			t.Errorf("Earliest of %v, %d: %d, %v, not %d, %v", x.f, x.n, n, e, x.want, x.e)
		}
	}
}

func TestP8_2_ReachedAndEarliestAgreeWithTheDefinitions(t *testing.T) {
	seen := map[int]int{}
	none, late, failed, untrue := 0, 0, 0, 0
	for _, f := range fouls(500, 12) {
		when := allHours(f, explaining(f, nil))
		for n := range f.Farm.Beds {
			least, e := drain.Earliest(f, n)
			switch want := earliest(when, n); {
			case len(when) > 0 && want >= 0:
				if least != want || e != api.OK {
					t.Fatalf("Earliest of %v, %d: %d, %v, not %d", f, n, least, e, want)
				}
				if want > f.Last {
					late++
				}
			case len(when) > 0:
				none++
				if least != 0 || e != api.ErrNone {
					t.Fatalf("Earliest of %v, %d: %d, %v", f, n, least, e)
				}
			case len(truths(f)) > 0:
				failed++
				if least != 0 || e != api.ErrFail {
					t.Fatalf("Earliest of %v, %d: %d, %v", f, n, least, e)
				}
			default:
				untrue++
				if least != 0 || e != api.ErrFalse {
					t.Fatalf("Earliest of %v, %d: %d, %v", f, n, least, e)
				}
			}
			for hour := 0; hour <= f.Last && len(when) > 0; hour++ {
				want := reachedBy(when, n, hour)
				if v, e := drain.Reached(f, n, hour); v != want || e != api.OK {
					t.Fatalf("Reached of %v, %d, %d: %d, %v, not %d", f, n, hour, v, e, want)
				}
				seen[want]++
			}
		}
	}
	if seen[always] < 500 || seen[never] < 500 || seen[perhaps] < 500 || none < 100 || late < 10 || failed < 100 || untrue < 20 {
		t.Errorf("not enough of each kind: %v, %d, %d, %d, %d", seen, none, late, failed, untrue)
	}
}

func TestP8_3_Drains(t *testing.T) {
	four := ranges(1, 2, 0, 0, 3, 3, 0, 0)
	many := func(cases ...drain.Fever) drain.Foul {
		return withCases(chain(9, four, opened(2, 4, 4), opened(0, 0, 3), opened(3, 8, 9), opened(2, 2, 6)), cases...)
	}
	for _, x := range []struct {
		f    drain.Foul
		want []int
	}{
		// The chapter's examples.
		{ofChapter(), list(0, 1)}, {ofChapter(fever(0, 6)), list(0)}, {ofChapter(fever(2, 5), fever(3, 5)), list(1)},
		{ofChapter(fever(2, 3)), list(1)}, {ofChapter(fever(2, 4)), list(0, 1)}, {ofChapter(fever(1, 1)), nil}, {ofChapter(fever(3, 5), fever(0, 6)), nil}, {looked(ofChapter(fever(2, 12)), over(1, 0, 0)), list(0)}, {looked(ofChapter(fever(3, 12)), over(2, 0, 0)), nil},
		// Each case may be explained by a drain, but not all of them by one.
		{ofChapter(fever(0, 6), fever(1, 6)), nil},
		{many(), list(0, 1, 2, 3)}, {many(fever(2, 9)), list(0, 1, 3)}, {many(fever(2, 3)), list(1, 3)}, {many(fever(2, 1)), list(1)}, {many(fever(3, 8)), list(0, 1, 2, 3)}, {many(fever(3, 7)), list(0, 1, 3)}, {many(fever(3, 6)), list(1, 3)}, {many(fever(3, 4)), list(1)}, {many(fever(3, 3)), nil}, {many(fever(1, 9)), list(1)}, {many(fever(0, 9), fever(3, 7)), list(1)},
		// Two drains that are alike.
		{withCases(chain(9, ranges(0, 0), opened(0, 3, 4), opened(0, 3, 4)), fever(0, 3)), list(0, 1)}, {withCases(chain(9, ranges(0, 0), opened(0, 3, 4), opened(0, 3, 4)), fever(0, 2)), nil},
	} {
		if l, e := drain.Drains(x.f); !slices.Equal(l, x.want) || e != api.OK {
			t.Errorf("Drains of %v: %v, %v, not %v", x.f, l, e, x.want)
		}
	}
}

func TestP8_3_DrainsAgreesWithTheDefinition(t *testing.T) {
	none, some, all := 0, 0, 0
	for _, f := range fouls(800, 13) {
		if len(truths(f)) == 0 {
			continue
		}
		want := drainsOf(f, explaining(f, nil))
		if l, e := drain.Drains(f); !slices.Equal(l, want) || e != api.OK {
			t.Fatalf("Drains of %v: %v, %v, not %v", f, l, e, want)
		}
		switch len(want) {
		case 0:
			none++
		case len(f.Drains):
			all++
		default:
			some++
		}
	}
	if none < 100 || some < 100 || all < 100 {
		t.Errorf("not enough of each kind: %d, %d, %d", none, some, all)
	}
}

func TestP8_4_FirstAndLeave(t *testing.T) {
	for _, x := range []struct {
		f     drain.Foul
		first int
		e     api.Errno
		leave []int
	}{
		// The chapter's example.
		{ofChapter(fever(3, 5), fever(0, 6)), 1, api.OK, list(0)},
		{ofChapter(), 0, api.ErrNone, nil}, {ofChapter(fever(2, 5), fever(3, 5)), 0, api.ErrNone, nil}, {ofChapter(fever(0, 6), fever(3, 5)), 1, api.OK, list(0)}, {ofChapter(fever(0, 2)), 0, api.OK, list(0)}, {ofChapter(fever(0, 6), fever(0, 2)), 1, api.OK, list(1)}, {ofChapter(fever(0, 2), fever(0, 6)), 0, api.OK, list(0)},
		// Of several sets the lexicographically first one, but shorter ones before it.
		{ofChapter(fever(1, 5), fever(0, 5), fever(0, 4), fever(3, 8)), 1, api.OK, list(0)}, {ofChapter(fever(0, 5), fever(0, 4), fever(1, 5), fever(3, 8)), 2, api.OK, list(2)}, {ofChapter(fever(0, 5), fever(1, 5), fever(0, 4), fever(1, 6)), 1, api.OK, list(0, 2)}, {ofChapter(fever(1, 5), fever(0, 5), fever(0, 4), fever(1, 6)), 1, api.OK, list(0, 3)}, {ofChapter(fever(0, 2), fever(0, 6), fever(1, 2)), 0, api.OK, list(0, 1)},
		// What is explained only by different hours, or by different waters.
		{ofChapter(fever(0, 3), fever(2, 3)), 1, api.OK, list(0)}, {ofChapter(fever(0, 3), fever(2, 4)), 0, api.ErrNone, nil}, {looked(ofChapter(fever(2, 12), fever(3, 12)), over(2, 0, 0)), 1, api.OK, list(1)}, {looked(ofChapter(fever(2, 12), fever(3, 12)), over(2, 1, 9)), 0, api.ErrNone, nil},
		// All of them, and the last of six.
		{ofChapter(fevers(6, fever(0, 2))...), 0, api.OK, list(0, 1, 2, 3, 4, 5)}, {ofChapter(append(fevers(5, fever(0, 12)), fever(1, 12))...), 5, api.OK, list(5)}, {ofChapter(append(fevers(5, fever(0, 12)), fever(2, 12))...), 0, api.ErrNone, nil}, {ofChapter(append(fevers(3, fever(0, 12)), fevers(3, fever(1, 12))...)...), 3, api.OK, list(0, 1, 2)},
	} {
		n, e := drain.First(x.f)
		l, g := drain.Leave(x.f)
		if n != x.first || e != x.e || !slices.Equal(l, x.leave) || g != api.OK {
			t.Errorf("First, Leave of %v: %d, %v; %v, %v", x.f, n, e, l, g)
		}
	}
}

func TestP8_4_FirstAndLeaveAgreeWithTheDefinitions(t *testing.T) {
	wrong, several := 0, 0
	for _, f := range fouls(700, 14) {
		if len(truths(f)) == 0 {
			continue
		}
		want, is := firstOf(f)
		if n, e := drain.First(f); n != want || e != is {
			t.Fatalf("First of %v: %d, %v, not %d, %v", f, n, e, want, is)
		}
		out := leaveOf(f)
		if l, e := drain.Leave(f); !slices.Equal(l, out) || e != api.OK {
			t.Fatalf("Leave of %v: %v, %v, not %v", f, l, e, out)
		}
		if is == api.OK {
			wrong++
		}
		if len(out) > 1 {
			several++
		}
	}
	if wrong < 150 || several < 60 {
		t.Errorf("only %d fouls have a case that is not explained, %d have to leave out several", wrong, several)
	}
}
