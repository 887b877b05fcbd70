package frost_test

import (
	"math/rand"
	"slices"
	"testing"

	"watercress/api"
	"watercress/frost"
	"watercress/warm"
)

const always, never, perhaps = frost.Always, frost.Never, frost.Perhaps

// ofChapter is the night of the chapter's examples, with other Hands and Most.
func ofChapter(hands, most int) frost.Night {
	s := warm.Stream{Spring: to(60, 62), Rate: 50, Depths: list(1, 1, 1), Air: ranges(-30, -30, -70, -58)}
	return frost.Night{Stream: s, Deep: 4, Hands: hands, Most: most}
}

// known is a night with the Rate 50, whose warmths are known.
func known(depths []int, deep, hands, most, spring int, air ...int) frost.Night {
	s := warm.Stream{Spring: to(spring, spring), Rate: 50, Depths: depths}
	for _, a := range air {
		s.Air = append(s.Air, to(a, a))
	}
	return frost.Night{Stream: s, Deep: deep, Hands: hands, Most: most}
}

func TestP10_1_CheckNight(t *testing.T) {
	for _, n := range append(nights(40, 11), ofChapter(1, 2), ofChapter(3, 0), ofChapter(3, 5), known(list(6), 6, 1, 1, 0, 0), known(list(1, 1, 1, 1, 1), 1, 1, 0, 300, -300, -300, -300, -300)) {
		if e := frost.CheckNight(n); e != api.OK {
			t.Errorf("CheckNight of %v: %v", n, e)
		}
	}
	if e := frost.CheckNight(frost.Night{}); e != api.ErrArg {
		t.Errorf("CheckNight of nothing: %v", e)
	}
}

func TestP10_1_Play(t *testing.T) {
	for _, x := range []struct {
		n    frost.Night
		plan []int
		t    warm.Truth
		want [][]int
	}{
		// The chapter's example.
		{ofChapter(1, 2), list(0, 1, -1), truth(60, -30, -70), rows(list(49, 10, -10), list(44, 30, -20))},
		// Nothing flooded, in both ends of each range.
		{ofChapter(1, 2), list(-1, -1, -1), truth(60, -30, -70), rows(list(15, -7, -18), list(-5, -37, -53))}, {ofChapter(1, 0), list(-1, -1, -1), truth(62, -30, -58), rows(list(16, -7, -18), list(2, -28, -43))},
		// Flooded from an hour on, not before it; as many as there are hands for, in one hour and in both.
		{ofChapter(1, 1), list(1, -1, -1), truth(60, -30, -70), rows(list(15, -7, -18), list(44, -13, -41))}, {ofChapter(2, 2), list(0, 0, -1), truth(60, -30, -70), rows(list(49, 40, 5), list(44, 30, -20))}, {ofChapter(2, 3), list(0, 1, 0), truth(60, -30, -70), rows(list(49, 10, 5), list(44, 30, 18))}, {ofChapter(3, 3), list(1, 1, 1), truth(61, -30, -64), rows(list(16, -7, -18), list(46, 33, 21))},
		// Its depth is Deep, not so much more than it was.
		{known(list(2, 3), 4, 2, 2, 80, -80), list(0, -1), truth(80, -80), rows(list(60, 37))}, {known(list(2, 3), 4, 2, 2, 80, -80), list(-1, 0), truth(80, -80), rows(list(40, 25))}, {known(list(2), 2, 1, 1, 8, -8), list(0), truth(8, -8), rows(list(4))},
		// The quotient is rounded towards 0: in warmer air, too, in which deep water stays cold.
		{known(list(1), 6, 1, 1, -8, 8), list(-1), truth(-8, 8), rows(list(0))}, {known(list(1), 6, 1, 1, -8, 8), list(0), truth(-8, 8), rows(list(-7))}, {known(list(1), 2, 1, 1, 5, 0), list(-1), truth(5, 0), rows(list(3))}, {known(list(1), 2, 1, 1, 5, 0), list(0), truth(5, 0), rows(list(4))},
		// Four hours, and five beds.
		{known(list(1), 5, 1, 1, 50, -50, -50, -50, -50), list(2), truth(50, -50, -50, -50, -50), rows(list(0), list(0), list(40), list(40))}, {known(list(1, 1, 1, 1, 1), 2, 3, 5, 64, 0), list(-1, 0, -1, 0, 0), truth(64, 0), rows(list(32, 24, 12, 9, 7))},
	} {
		if l, e := frost.Play(x.n, x.plan, x.t); !sameRows(l, x.want) || e != api.OK {
			t.Errorf("Play of %v, %v, %v: %v, %v, not %v", x.n, x.plan, x.t, l, e, x.want)
		}
	}
}

func TestP10_1_PlayAgreesWithTheDefinitions(t *testing.T) {
	r := rand.New(rand.NewSource(12))
	none, some := 0, 0
	for _, n := range nights(400, 12) {
		in := truths(n)
		for _, plan := range plans(n) {
			tr := in[r.Intn(len(in))]
			want := warmths(n, plan, tr)
			if l, e := frost.Play(n, plan, tr); !sameRows(l, want) || e != api.OK {
				t.Fatalf("Play of %v, %v, %v: %v, %v, not %v", n, plan, tr, l, e, want)
			}
			// Without floods it is what layer 2 says.
			if slices.Max(plan) >= 0 {
				some++
				continue
			}
			none++
			if l, _ := warm.Play(n.Stream, tr); !sameRows(l, want) {
				t.Fatalf("warm.Play of %v, %v: %v, not %v", n.Stream, tr, l, want)
			}
		}
	}
	if none < 400 || some < 4000 {
		t.Errorf("not enough of each kind: %d, %d", none, some)
	}
}

// numbers are the lists of this length whose elements are from -2 to one more than any hour.
func numbers(length, hours int) [][]int {
	all := digits(slices.Repeat(list(hours+3), length))
	for _, l := range all {
		for i := range l {
			l[i] -= 2
		}
	}
	return all
}

func TestWhatIsAPlan(t *testing.T) {
	is, isNot := 0, 0
	for hands := 1; hands <= 3; hands++ {
		for most := range 6 {
			n := ofChapter(hands, most)
			for length := range 5 {
				for _, l := range numbers(length, 2) {
					want := api.ErrRange
					if isPlan(n, l) {
						want = api.OK
						is++
					} else {
						isNot++
					}
					_, e := frost.Play(n, l, truth(61, -30, -60))
					_, g := frost.Saved(n, l, 0)
					if e != want || g != want || frost.ProvePlan(n, l, 0) != (want == api.OK) {
						t.Fatalf("Play, Saved, ProvePlan of %v, %v: %v, %v", n, l, e, g)
					}
				}
			}
		}
	}
	if is < 200 || isNot < 1000 {
		t.Errorf("not enough of each kind: %d, %d", is, isNot)
	}
}

func TestP10_2_Saved(t *testing.T) {
	wide := func(spring warm.Range, air ...warm.Range) frost.Night {
		n := known(list(1, 1), 4, 2, 2, 0)
		n.Stream.Spring, n.Stream.Air = spring, air
		return n
	}
	for _, x := range []struct {
		n    frost.Night
		plan []int
		want []int
	}{
		// The chapter's examples.
		{ofChapter(1, 2), list(0, 1, -1), list(always, always, never)}, {ofChapter(1, 2), list(-1, -1, -1), list(perhaps, never, never)},
		{ofChapter(1, 2), list(1, -1, -1), list(always, never, never)}, {ofChapter(1, 2), list(-1, 0, 1), list(perhaps, never, never)}, {ofChapter(2, 3), list(0, 0, 1), list(always, always, always)}, {ofChapter(2, 3), list(0, 1, 1), list(always, always, never)}, {ofChapter(1, 2), list(0, -1, 1), list(always, never, never)},
		// At 0 it is not saved, at 1 it is.
		{known(list(1), 6, 1, 1, 8, -8), list(-1), list(never)}, {known(list(1), 6, 1, 1, 9, -8), list(-1), list(always)}, {known(list(1), 6, 1, 1, 8, -8), list(0), list(always)}, {known(list(1), 1, 1, 1, 8, -8), list(0), list(never)},
		// Each hour counts: the first one, and the last one.
		{known(list(1), 6, 1, 1, 8, -8, 8), list(1), list(never)}, {known(list(1), 6, 1, 1, 8, 8, -8), list(1), list(always)}, {known(list(1), 6, 1, 1, 8, 8, -8, 8, 8), list(2), list(never)}, {known(list(1), 6, 1, 1, 8, 8, 8, 8, -8), list(3), list(always)},
		// Perhaps because of the spring; because of the air.
		{wide(to(8, 9), to(-8, -8)), list(-1, -1), list(perhaps, never)}, {wide(to(8, 8), to(-9, -8)), list(-1, -1), list(never, never)}, {wide(to(8, 8), to(-8, -7)), list(-1, -1), list(perhaps, never)}, {wide(to(8, 8), to(-8, -6)), list(-1, -1), list(perhaps, never)}, {wide(to(8, 9), to(-8, -8)), list(0, 0), list(always, always)}, {wide(to(8, 9), to(-8, -8)), list(0, -1), list(always, never)}, {wide(to(8, 10), to(-8, -6)), list(0, -1), list(always, perhaps)},
		// Perhaps in one hour, and never in another; perhaps in both, but in one truth.
		{wide(to(8, 9), to(-8, -8), to(-9, -9)), list(-1, -1), list(never, never)}, {wide(to(8, 9), to(-8, -8), to(-8, -8)), list(-1, -1), list(perhaps, never)}, {wide(to(7, 9), to(-8, -7), to(-9, -8)), list(-1, -1), list(perhaps, never)},
		// Cold water, mild air: it is the flood from which a bed freezes.
		{known(list(1), 6, 1, 1, -8, 10), list(-1), list(always)}, {known(list(1), 6, 1, 1, -8, 10), list(0), list(never)}, {known(list(1, 1), 6, 1, 2, -8, 10), list(0, -1), list(never, always)}, {wide(to(-2, 2), to(2, 2)), list(0, -1), list(perhaps, perhaps)},
	} {
		for bed, want := range x.want {
			if v, e := frost.Saved(x.n, x.plan, bed); v != want || e != api.OK {
				t.Errorf("Saved of %v, %v, %d: %d, %v, not %d", x.n, x.plan, bed, v, e, want)
			}
		}
	}
}

func TestP10_2_ProvePlan(t *testing.T) {
	for _, x := range []struct {
		n    frost.Night
		plan []int
		most int // beds of which it is a proof
	}{
		{ofChapter(1, 2), list(0, 1, -1), 2}, {ofChapter(1, 2), list(1, 0, -1), 2}, {ofChapter(1, 2), list(-1, -1, -1), 0}, {ofChapter(1, 2), list(0, -1, 1), 1}, {ofChapter(2, 3), list(0, 0, 1), 3}, {ofChapter(3, 3), list(0, 0, 0), 3},
		// Perhaps is not enough.
		{with(ofChapter(1, 2), func(n *frost.Night) { n.Stream.Spring = to(44, 62) }), list(-1, -1, -1), 0},
		// A bed that is saved behind one that is not.
		{known(list(1, 1), 6, 1, 1, -8, 10), list(0, -1), 1}, {known(list(1, 1, 1, 1, 1), 6, 1, 0, 5, 0), list(-1, -1, -1, -1, -1), 5},
		// Not a plan of it, and not a night.
		{ofChapter(1, 2), list(0, 0, -1), -9}, {ofChapter(2, 1), list(0, 0, -1), -9}, {ofChapter(1, 2), list(0, 1), -9}, {ofChapter(1, 2), list(0, 1, -1, -1), -9}, {ofChapter(1, 2), list(0, 2, -1), -9}, {ofChapter(1, 2), list(0, -2, -1), -9}, {ofChapter(1, 2), nil, -9}, {frost.Night{}, nil, -9}, {ofChapter(0, 2), list(-1, -1, -1), -9}, {ofChapter(1, 6), list(0, 1, -1), -9},
	} {
		for many := -8; many <= 8; many++ {
			if frost.ProvePlan(x.n, x.plan, many) != (many <= x.most) {
				t.Errorf("ProvePlan of %v, %v, %d is not %v", x.n, x.plan, many, many <= x.most)
			}
		}
	}
}

func TestP10_2_SavedAndProvePlanAgreeWithTheDefinitions(t *testing.T) {
	seen, beds := map[int]int{}, map[int]int{}
	for _, n := range nights(500, 13) {
		for _, x := range try(n) {
			for bed, want := range x.kinds {
				if v, e := frost.Saved(n, x.plan, bed); v != want || e != api.OK {
					t.Fatalf("Saved of %v, %v, %d: %d, %v, not %d", n, x.plan, bed, v, e, want)
				}
				seen[want]++
			}
			for many := -1; many <= 6; many++ {
				if frost.ProvePlan(n, x.plan, many) != (many <= x.many()) {
					t.Fatalf("ProvePlan of %v, %v, %d is not %v", n, x.plan, many, many <= x.many())
				}
			}
			beds[x.many()]++
		}
	}
	if seen[always] < 1000 || seen[never] < 1000 || seen[perhaps] < 1000 || beds[0] < 200 || beds[1] < 200 || beds[2] < 200 || beds[3] < 100 || beds[4] < 50 || beds[5] < 50 {
		t.Errorf("not enough of each kind: %v, %v", seen, beds)
	}
}

func TestP10_3_P10_4_BestFewestAndProof(t *testing.T) {
	five := list(1, 1, 1, 1, 1)
	for _, x := range []struct {
		n            frost.Night
		most, fewest int
		proof        []int
	}{
		// The chapter's examples.
		{ofChapter(1, 2), 2, 2, list(2)}, {ofChapter(2, 3), 3, 3, nil},
		{ofChapter(2, 2), 2, 2, list(2)}, {ofChapter(3, 5), 3, 3, nil}, {ofChapter(1, 3), 2, 2, list(2)}, {ofChapter(1, 1), 1, 1, list(1)}, {ofChapter(3, 0), 0, 0, list(0)},
		// Nothing has to be flooded, or nothing helps.
		{known(list(1), 6, 1, 1, 9, -8), 1, 0, nil}, {known(list(1), 6, 1, 1, 8, -8), 1, 1, nil}, {known(list(1), 6, 1, 0, 8, -8), 0, 0, list(0)}, {known(list(1), 1, 1, 1, 8, -8), 0, 0, list(0)}, {known(list(1, 1), 6, 1, 2, 5, -99), 0, 0, list(0)}, {known(five, 6, 3, 5, 5, 5), 5, 0, nil},
		// Too many in one hour; one of two hours is too late.
		{known(list(1, 1), 6, 1, 2, 16, -16, -16), 1, 1, list(1)}, {known(list(1, 1), 6, 1, 2, 16, 16, -16), 2, 2, nil}, {known(list(1, 1), 6, 2, 2, 16, -16), 2, 2, nil}, {known(list(1, 1), 6, 1, 2, 16, -16), 1, 1, list(1)},
		// In mild air a flood is no good.
		{known(list(1, 1), 6, 1, 2, -8, 10), 2, 0, nil}, {known(list(1, 2), 6, 1, 2, -8, 10), 2, 0, nil}, {known(list(3, 1), 6, 1, 2, -8, 10), 1, 0, list(0)},
		// Cold in one hour and cold water in the other: a bed that is flooded from the second one on would be saved in the first one alone.
		{known(list(1), 6, 1, 1, 8, -8, 8), 1, 1, nil}, {known(list(1), 6, 1, 1, -2, 10, -2), 0, 0, list(0)},
	} {
		plan, many, e := frost.Best(x.n)
		if many != x.most || e != api.OK || !isPlan(x.n, plan) || !frost.ProvePlan(x.n, plan, many) {
			t.Errorf("Best of %v: %v, %d, %v, not %d", x.n, plan, many, e, x.most)
		}
		if few, e := frost.Fewest(x.n); few != x.fewest || e != api.OK {
			t.Errorf("Fewest of %v: %d, %v, not %d", x.n, few, e, x.fewest)
		}
		want := api.OK
		if x.proof == nil {
			want = api.ErrNone
		}
		if l, e := frost.Proof(x.n); !slices.Equal(l, x.proof) || e != want {
			t.Errorf("Proof of %v: %v, %v, not %v, %v", x.n, l, e, x.proof, want)
		}
	}
}

func TestP10_4_Prove(t *testing.T) {
	for _, x := range []struct {
		n    frost.Night
		beds []int
		want bool
	}{
		{ofChapter(1, 2), list(2), true}, {ofChapter(1, 2), list(0, 2), true}, {ofChapter(1, 2), list(1, 2), true}, {ofChapter(1, 2), list(0, 1, 2), true}, {ofChapter(1, 2), list(0, 1), false}, {ofChapter(1, 2), list(0), false}, {ofChapter(1, 2), list(1), false}, {ofChapter(1, 1), list(1), true}, {ofChapter(1, 0), list(0), true}, {ofChapter(2, 3), list(0, 1, 2), false},
		// No beds are never lost.
		{ofChapter(1, 2), nil, false}, {ofChapter(1, 0), list(), false},
		// Not increasing, or not of its beds.
		{ofChapter(1, 2), list(2, 0), false}, {ofChapter(1, 2), list(2, 2), false}, {ofChapter(1, 2), list(0, 2, 1), false}, {ofChapter(1, 2), list(2, 3), false}, {ofChapter(1, 2), list(-1, 2), false}, {ofChapter(1, 2), list(3), false}, {ofChapter(1, 2), list(2, 5), false}, {ofChapter(1, 2), list(4), false}, {ofChapter(1, 2), list(0, 1, 2, 3, 4, 5), false},
		// Not a night.
		{frost.Night{}, nil, false}, {frost.Night{}, list(0), false}, {ofChapter(0, 2), list(2), false}, {ofChapter(1, -1), list(2), false},
	} {
		if frost.Prove(x.n, x.beds) != x.want {
			t.Errorf("Prove of %v, %v is not %v", x.n, x.beds, x.want)
		}
	}
}

func TestP10_3_P10_4_AgreeWithTheDefinitions(t *testing.T) {
	most, fewest, proofs, none := map[int]int{}, map[int]int{}, map[int]int{}, 0
	for _, n := range nights(600, 15) {
		all := try(n)
		plan, many, e := frost.Best(n)
		best := slices.ContainsFunc(all, func(x tried) bool { return slices.Equal(x.plan, plan) && x.many() == many })
		if want := mostOf(all); many != want || e != api.OK || !best {
			t.Fatalf("Best of %v: %v, %d, %v, not %d", n, plan, many, e, want)
		}
		few, e := frost.Fewest(n)
		if want := fewestOf(all); few != want || e != api.OK {
			t.Fatalf("Fewest of %v: %d, %v, not %d", n, few, e, want)
		}
		want, no := proofOf(n, all), api.OK
		if want == nil {
			no = api.ErrNone
		}
		l, e := frost.Proof(n)
		if !slices.Equal(l, want) || e != no {
			t.Fatalf("Proof of %v: %v, %v, not %v, %v", n, l, e, want, no)
		}
		for _, beds := range allLists(len(n.Stream.Depths)) {
			if frost.Prove(n, beds) != lost(all, beds) {
				t.Fatalf("Prove of %v, %v is not %v", n, beds, lost(all, beds))
			}
		}
		most[many]++
		fewest[few]++
		if len(l) > 0 {
			proofs[l[0]]++
		} else {
			none++
		}
	}
	if most[0] < 50 || most[1] < 50 || most[2] < 50 || most[3] < 50 || most[4] < 20 || most[5] < 10 || fewest[0] < 100 || fewest[1] < 100 || fewest[2] < 30 || fewest[3] < 10 || none < 100 || proofs[0] < 50 || proofs[1] < 50 || proofs[2] < 20 || proofs[3] < 10 {
		t.Errorf("not enough of each kind: %v, %v, %v, %d", most, fewest, proofs, none)
	}
}
