package bed_test

import (
	"slices"
	"testing"

	"watercress/api"
	"watercress/bed"
)

// ofChapter is the farm of the chapter's examples, with looks.
func ofChapter(looks ...bed.Look) bed.Farm {
	return bed.Farm{
		Springs: []bed.Spring{{Bed: 0, Flow: to(4, 5)}, {Bed: 1, Flow: to(5, 6)}},
		Beds:    []bed.Bed{{Need: 2, Notch: 2, Down: 2}, {Need: 3, Notch: 4, Down: 2}, {Need: 2, Notch: 2, Down: 3}, {Need: 3, Notch: 3, Down: -1}},
		Looks:   looks,
	}
}

func look(n int, over bool, low, high int) bed.Look {
	return bed.Look{Bed: n, Over: over, Water: to(low, high)}
}

// The looks of the chapter's examples: the second one contradicts the first.
func firstLook() bed.Look { return look(0, true, 3, 9) }
func falseLook() bed.Look { return look(3, true, 1, 5) }

func TestP1_1_PlayOfTheChapter(t *testing.T) {
	want := []bed.Flow{{In: 4, Kept: 2, Over: 2}, {In: 5, Kept: 4, Over: 1}, {In: 3, Kept: 2, Over: 1}, {In: 1, Kept: 1, Over: 0}}
	if l, e := bed.Play(ofChapter(), []int{4, 5}); e != api.OK || !slices.Equal(l, want) {
		t.Errorf("Play: %v, %v", l, e)
	}
}

func TestP1_1_BoardKeepsFourOfFive(t *testing.T) {
	f := bed.Farm{Springs: []bed.Spring{{Flow: to(5, 5)}}, Beds: []bed.Bed{{Notch: 4, Down: -1}}}
	if l, e := bed.Play(f, []int{5}); e != api.OK || len(l) != 1 || l[0] != (bed.Flow{In: 5, Kept: 4, Over: 1}) {
		t.Errorf("Play: %v, %v", l, e)
	}
}

func TestP1_1_PlayDoesNotAskLooks(t *testing.T) {
	f := ofChapter(firstLook(), falseLook())
	l, e := bed.Play(f, []int{4, 5})
	m, g := bed.Play(ofChapter(), []int{4, 5})
	if e != api.OK || g != api.OK || !slices.Equal(l, m) {
		t.Errorf("Play with false looks: %v, %v; without: %v, %v", l, e, m, g)
	}
	if bed.ProveTruth(f, []int{4, 5}) {
		t.Error("ProveTruth of a list in which looks are wrong")
	}
}

func TestP1_1_CheckFarmPlayAndProveTruthAgreeWithTheDefinitions(t *testing.T) {
	for _, f := range farms(150, 11) {
		if e := bed.CheckFarm(f); e != api.OK {
			t.Fatalf("CheckFarm of %v: %v", f, e)
		}
		own := truths(f)
		for _, flows := range choices(f) {
			l, e := bed.Play(f, flows)
			if e != api.OK || len(l) != len(f.Beds) {
				t.Fatalf("Play of %v, %v: %v, %v", f, flows, l, e)
			}
			for n, w := range l {
				if want := water(f, notches(f), flows, n); w != want {
					t.Fatalf("Play of %v, %v: the bed %d has %v, not %v", f, flows, n, w, want)
				}
			}
			want := slices.ContainsFunc(own, func(x []int) bool { return slices.Equal(x, flows) })
			if bed.ProveTruth(f, flows) != want {
				t.Fatalf("ProveTruth of %v, %v is not %v", f, flows, want)
			}
		}
	}
}

func TestP1_2_BoundsAndFedOfTheChapter(t *testing.T) {
	for n, want := range []int{bed.Always, bed.Always, bed.Always, bed.Perhaps} {
		if v, e := bed.Fed(ofChapter(), n); v != want || e != api.OK {
			t.Errorf("Fed of %d: %d, %v", n, v, e)
		}
	}
	l, e := bed.Bounds(ofChapter(firstLook()))
	if want := (bed.Bound{In: to(4, 5), Kept: to(2, 2), Over: to(2, 3)}); e != api.OK || len(l) != 4 || l[2] != want {
		t.Errorf("Bounds: %v, %v", l, e)
	}
	if v, e := bed.Fed(ofChapter(look(3, false, 1, 1)), 3); v != bed.Never || e != api.OK {
		t.Errorf("Fed of a bed that always has too little: %d, %v", v, e)
	}
}

func TestP1_2_BoundsAndFedAgreeWithTheDefinitions(t *testing.T) {
	for _, f := range farms(300, 12) {
		own := truths(f)
		bounds, e := bed.Bounds(f)
		if len(own) == 0 {
			if v, g := bed.Fed(f, 0); e != api.ErrFalse || g != api.ErrFalse || len(bounds) > 0 || v != 0 {
				t.Fatalf("Bounds, Fed of %v: %v, %v; %d, %v", f, bounds, e, v, g)
			}
			continue
		}
		if e != api.OK || len(bounds) != len(f.Beds) {
			t.Fatalf("Bounds of %v: %v, %v", f, bounds, e)
		}
		for n, b := range bounds {
			var in, kept, over []int
			for _, flows := range own {
				w := water(f, notches(f), flows, n)
				in, kept, over = append(in, w.In), append(kept, w.Kept), append(over, w.Over)
			}
			want := bed.Bound{In: ends(in), Kept: ends(kept), Over: ends(over)}
			if b != want {
				t.Fatalf("Bounds of %v: the bed %d has %v, not %v", f, n, b, want)
			}
			if v, e := bed.Fed(f, n); e != api.OK || v != howFed(f, own, n) {
				t.Fatalf("Fed of %v, %d: %d, %v", f, n, v, e)
			}
		}
	}
}

func ends(l []int) bed.Range { return to(slices.Min(l), slices.Max(l)) }

func howFed(f bed.Farm, own [][]int, n int) int {
	switch fed(f, notches(f), own, n) {
	case len(own):
		return bed.Always
	case 0:
		return bed.Never
	}
	return bed.Perhaps
}

func TestP1_3_FewestOfTheChapter(t *testing.T) {
	if l, e := bed.Fewest(ofChapter()); len(l) > 0 || e != api.ErrShort {
		t.Errorf("Fewest: %v, %v", l, e)
	}
	if l, e := bed.Fewest(ofChapter(firstLook())); !slices.Equal(l, []int{1}) || e != api.OK {
		t.Errorf("Fewest with the look: %v, %v", l, e)
	}
}

func TestP1_3_NoBoardsIfAllAreFed(t *testing.T) {
	f := bed.Farm{Springs: []bed.Spring{{Flow: to(7, 9)}}, Beds: []bed.Bed{{Need: 3, Notch: 4, Down: 1}, {Need: 3, Notch: 9, Down: -1}}}
	if l, e := bed.Fewest(f); len(l) > 0 || e != api.OK {
		t.Errorf("Fewest: %v, %v", l, e)
	}
}

func TestP1_3_FirstOfSeveralShortestLists(t *testing.T) {
	// One board has to come down by 1, and it may be that of either bed above.
	f := bed.Farm{Springs: []bed.Spring{{Flow: to(7, 7)}}, Beds: []bed.Bed{{Need: 2, Notch: 3, Down: 1}, {Need: 2, Notch: 3, Down: 2}, {Need: 2, Notch: 2, Down: -1}}}
	if l, e := bed.Fewest(f); !slices.Equal(l, []int{0}) || e != api.OK {
		t.Errorf("Fewest: %v, %v", l, e)
	}
}

func TestP1_3_BoardsMayGoUp(t *testing.T) {
	f := bed.Farm{Springs: []bed.Spring{{Flow: to(3, 4)}}, Beds: []bed.Bed{{Need: 3, Notch: 1, Down: -1}}}
	if l, e := bed.Fewest(f); !slices.Equal(l, []int{0}) || e != api.OK {
		t.Errorf("Fewest: %v, %v", l, e)
	}
}

func TestP1_3_FewestDoesNotAskLooksAgain(t *testing.T) {
	// With the board moved the bed would keep 2, which the look denies.
	f := bed.Farm{Springs: []bed.Spring{{Flow: to(3, 5)}}, Beds: []bed.Bed{{Need: 2, Notch: 3, Down: 1}, {Need: 1, Notch: 1, Down: -1}}, Looks: []bed.Look{look(0, false, 3, 3)}}
	if l, e := bed.Fewest(f); !slices.Equal(l, []int{0}) || e != api.OK {
		t.Errorf("Fewest: %v, %v", l, e)
	}
}

func TestP1_4_CutOfTheChapter(t *testing.T) {
	if n, flows, e := bed.Cut(ofChapter()); n != 3 || !slices.Equal(flows, []int{4, 5}) || e != api.OK {
		t.Errorf("Cut: %d, %v, %v", n, flows, e)
	}
	if n, flows, e := bed.Cut(ofChapter(firstLook())); n != 0 || len(flows) > 0 || e != api.ErrNone {
		t.Errorf("Cut with the look: %d, %v, %v", n, flows, e)
	}
}

func TestP1_4_EqualWaterIsNoCut(t *testing.T) {
	f := bed.Farm{Springs: []bed.Spring{{Flow: to(4, 4)}}, Beds: []bed.Bed{{Need: 2, Down: 1}, {Need: 2, Down: -1}}}
	if n, flows, e := bed.Cut(f); n != 0 || len(flows) > 0 || e != api.ErrNone {
		t.Errorf("Cut: %d, %v, %v", n, flows, e)
	}
	f.Beds[1].Need = 3
	if n, flows, e := bed.Cut(f); n != 1 || !slices.Equal(flows, []int{4}) || e != api.OK {
		t.Errorf("Cut of one more: %d, %v, %v", n, flows, e)
	}
}

func TestP1_4_CutAndProveCutAgreeWithTheDefinitions(t *testing.T) {
	for _, f := range farms(300, 14) {
		own := truths(f)
		want := -1
		for n := range f.Beds {
			for _, flows := range choices(f) {
				is := slices.ContainsFunc(own, func(x []int) bool { return slices.Equal(x, flows) }) && cutIn(f, flows, n)
				if bed.ProveCut(f, n, flows) != is {
					t.Fatalf("ProveCut of %v, %d, %v is not %v", f, n, flows, is)
				}
				if is && want < 0 {
					want = n
				}
			}
		}
		n, flows, e := bed.Cut(f)
		switch {
		case len(own) == 0:
			if n != 0 || len(flows) > 0 || e != api.ErrFalse {
				t.Fatalf("Cut of %v: %d, %v, %v", f, n, flows, e)
			}
		case want < 0:
			if n != 0 || len(flows) > 0 || e != api.ErrNone {
				t.Fatalf("Cut of %v: %d, %v, %v", f, n, flows, e)
			}
		case n != want || e != api.OK || !bed.ProveCut(f, n, flows):
			t.Fatalf("Cut of %v: %d, %v, %v, not %d", f, n, flows, e, want)
		}
	}
}

func TestP1_5_ForgottenOfTheChapter(t *testing.T) {
	f := ofChapter(firstLook())
	if l, e := bed.Forgotten(f, 0, 5); !slices.Equal(l, []int{2}) || e != api.OK {
		t.Errorf("Forgotten: %v, %v", l, e)
	}
	if l, e := bed.Forgotten(f, 0, 1); !slices.Equal(l, []int{0}) || e != api.OK {
		t.Errorf("Forgotten of a notch below the need: %v, %v", l, e)
	}
}

func TestP1_5_ForgottenInALaterTruth(t *testing.T) {
	// In the truth 2, 3 the board makes no difference; in 5, 0 it does.
	f := bed.Farm{
		Springs: []bed.Spring{{Bed: 0, Flow: to(2, 5)}, {Bed: 1, Flow: to(0, 3)}},
		Beds:    []bed.Bed{{Need: 2, Notch: 2, Down: 1}, {Need: 3, Notch: 3, Down: -1}},
		Looks:   []bed.Look{look(1, false, 3, 3)},
	}
	if l, e := bed.Forgotten(f, 0, 5); !slices.Equal(l, []int{1}) || e != api.OK {
		t.Errorf("Forgotten: %v, %v", l, e)
	}
}

func TestP1_5_ForgottenAgreesWithTheDefinition(t *testing.T) {
	for _, f := range farms(150, 15) {
		own := truths(f)
		for n := range f.Beds {
			for notch := 0; notch <= api.MaxBedNotch; notch++ {
				l, e := bed.Forgotten(f, n, notch)
				if len(own) == 0 {
					if len(l) > 0 || e != api.ErrFalse {
						t.Fatalf("Forgotten of %v: %v, %v", f, l, e)
					}
					continue
				}
				boards := notches(f)
				boards[n] = notch
				var want []int
				for i := range f.Beds {
					if fed(f, notches(f), own, i) == len(own) && fed(f, boards, own, i) < len(own) {
						want = append(want, i)
					}
				}
				if !slices.Equal(l, want) || e != api.OK {
					t.Fatalf("Forgotten of %v, %d, %d: %v, %v, not %v", f, n, notch, l, e, want)
				}
			}
		}
	}
}

func TestP1_6_FirstAndLeaveOfTheChapter(t *testing.T) {
	f := ofChapter(firstLook(), falseLook())
	if n, e := bed.First(f); n != 1 || e != api.OK {
		t.Errorf("First: %d, %v", n, e)
	}
	if l, e := bed.Leave(f); !slices.Equal(l, []int{1}) || e != api.OK {
		t.Errorf("Leave: %v, %v", l, e)
	}
}

func TestP1_6_NothingIsLeftOutOfATruth(t *testing.T) {
	for _, f := range []bed.Farm{ofChapter(), ofChapter(firstLook()), ofChapter(firstLook(), firstLook())} {
		if n, e := bed.First(f); n != 0 || e != api.ErrNone {
			t.Errorf("First of %v: %d, %v", f, n, e)
		}
		if l, e := bed.Leave(f); len(l) > 0 || e != api.OK {
			t.Errorf("Leave of %v: %v, %v", f, l, e)
		}
	}
}

func TestP1_6_FirstOfSeveralSmallestSets(t *testing.T) {
	// Two looks contradict each other: either may be left out, and the second is the first wrong one.
	f := ofChapter(look(0, true, 2, 2), look(0, true, 3, 3))
	if l, e := bed.Leave(f); !slices.Equal(l, []int{0}) || e != api.OK {
		t.Errorf("Leave: %v, %v", l, e)
	}
	if n, e := bed.First(f); n != 1 || e != api.OK {
		t.Errorf("First: %d, %v", n, e)
	}
}

func TestP1_6_AllLooksMayBeFalse(t *testing.T) {
	wrong := look(0, false, 100, 120)
	f := ofChapter(wrong, wrong, wrong, wrong, wrong)
	if l, e := bed.Leave(f); !slices.Equal(l, []int{0, 1, 2, 3, 4}) || e != api.OK {
		t.Errorf("Leave: %v, %v", l, e)
	}
	if n, e := bed.First(f); n != 0 || e != api.OK {
		t.Errorf("First: %d, %v", n, e)
	}
}
