package frost_test

import (
	"math/rand"
	"slices"
	"testing"

	"watercress/api"
	"watercress/frost"
	"watercress/warm"
)

// The properties are asked of the calls alone, for nights that are made at random.

func TestP10_5_InEachTruth(t *testing.T) {
	all, some := 0, 0
	for _, n := range nights(500, 21) {
		plan, many, e := frost.Best(n)
		if e != api.OK || !frost.ProvePlan(n, plan, many) {
			t.Fatalf("Best of %v: %v, %d, %v", n, plan, many, e)
		}
		for _, tr := range truths(n) {
			hours, e := frost.Play(n, plan, tr)
			if e != api.OK {
				t.Fatalf("Play of %v, %v, %v: %v", n, plan, tr, e)
			}
			saved := 0
			for bed := range n.Stream.Depths {
				if savedIn(hours, bed) {
					saved++
				}
			}
			if saved < many {
				t.Fatalf("%v saves only %d beds of %v in %v, not %d", plan, saved, n, tr, many)
			}
		}
		proof, e := frost.Proof(n)
		switch {
		case many == len(n.Stream.Depths):
			all++
			if len(proof) > 0 || e != api.ErrNone {
				t.Fatalf("all beds of %v are saved, and there is the proof %v, %v", n, proof, e)
			}
		default:
			some++
			if e != api.OK || !frost.Prove(n, proof) {
				t.Fatalf("only %d beds of %v are saved, and there is no proof: %v, %v", many, n, proof, e)
			}
		}
	}
	if all < 100 || some < 100 {
		t.Errorf("not enough of each kind: %d, %d", all, some)
	}
}

func TestP10_6_NoMore(t *testing.T) {
	as, fewer := 0, 0
	for _, n := range nights(500, 22) {
		_, most, _ := frost.Best(n)
		fewest, _ := frost.Fewest(n)
		reached := false
		for _, plan := range plans(n) {
			if frost.ProvePlan(n, plan, most+1) {
				t.Fatalf("%v saves more than %d beds of %v", plan, most, n)
			}
			if !frost.ProvePlan(n, plan, most) {
				fewer++
				continue
			}
			as++
			floods := tried{plan: plan}.flooded()
			if floods < fewest {
				t.Fatalf("%v saves %d beds of %v with fewer floods than %d", plan, most, n, fewest)
			}
			reached = reached || floods == fewest
		}
		if !reached {
			t.Fatalf("no plan saves %d beds of %v with %d floods", most, n, fewest)
		}
	}
	if as < 1000 || fewer < 1000 {
		t.Errorf("not enough of each kind: %d, %d", as, fewer)
	}
}

func TestP10_7_Proof(t *testing.T) {
	proofs, longer := 0, 0
	for _, n := range nights(600, 23) {
		proof, e := frost.Proof(n)
		if e != api.OK {
			continue
		}
		proofs++
		for i := range proof {
			if rest := slices.Delete(slices.Clone(proof), i, i+1); frost.Prove(n, rest) {
				t.Fatalf("%v is a proof of %v, smaller than %v", rest, n, proof)
			}
		}
		for _, beds := range allLists(len(n.Stream.Depths)) {
			contains := !slices.ContainsFunc(proof, func(bed int) bool { return !slices.Contains(beds, bed) })
			if contains && !frost.Prove(n, beds) {
				t.Fatalf("%v contains the proof %v of %v, and is none", beds, proof, n)
			}
			if contains && len(beds) > len(proof) {
				longer++
			}
		}
		for _, plan := range plans(n) {
			if !slices.ContainsFunc(proof, func(bed int) bool {
				v, _ := frost.Saved(n, plan, bed)
				return v != always
			}) {
				t.Fatalf("%v saves all of the proof %v of %v", plan, proof, n)
			}
		}
	}
	if proofs < 100 || longer < 200 {
		t.Errorf("not enough of each kind: %d, %d", proofs, longer)
	}
}

func TestP10_8_More(t *testing.T) {
	saved, proved := 0, 0
	for _, n := range nights(600, 24) {
		_, many, _ := frost.Best(n)
		for _, m := range []frost.Night{
			with(n, func(n *frost.Night) { n.Hands++ }), with(n, func(n *frost.Night) { n.Hands = 3 }), with(n, func(n *frost.Night) { n.Most++ }), with(n, func(n *frost.Night) { n.Most = 5 }), with(n, func(n *frost.Night) { n.Hands, n.Most = 3, 5 }),
		} {
			if frost.CheckNight(m) != api.OK {
				continue
			}
			_, more, e := frost.Best(m)
			if more < many || e != api.OK {
				t.Fatalf("Best of %v: %d beds, and %d, %v of %v", n, many, more, e, m)
			}
			if more > many {
				saved++
			}
			for _, beds := range allLists(len(n.Stream.Depths)) {
				was, is := frost.Prove(n, beds), frost.Prove(m, beds)
				if is && !was {
					t.Fatalf("%v of %v are lost in %v", beds, n, m)
				}
				if was && !is {
					proved++
				}
			}
		}
	}
	if saved < 100 || proved < 100 {
		t.Errorf("not enough of each kind: %d, %d", saved, proved)
	}
}

// isEarlier reports whether with the one plan each bed is flooded no later than with the other one.
func isEarlier(plan, other []int) bool {
	for bed, hour := range other {
		if hour >= 0 && (plan[bed] < 0 || plan[bed] > hour) {
			return false
		}
	}
	return true
}

// isCold reports whether the air of the truth is in no hour warmer than its spring.
func isCold(t warm.Truth) bool { return slices.Max(t.Air) <= t.Spring }

func TestP10_9_Earlier(t *testing.T) {
	r := rand.New(rand.NewSource(25))
	warmer, alike, whole := 0, 0, 0
	for _, n := range nights(250, 25) {
		cold := slices.DeleteFunc(truths(n), func(tr warm.Truth) bool { return !isCold(tr) })
		if len(cold) == 0 {
			continue
		}
		if len(cold) == len(truths(n)) {
			whole++
		}
		tr := cold[r.Intn(len(cold))]
		all := plans(n)
		for range 100 {
			plan, other := all[r.Intn(len(all))], all[r.Intn(len(all))]
			if !isEarlier(plan, other) {
				continue
			}
			a, _ := frost.Play(n, plan, tr)
			b, e := frost.Play(n, other, tr)
			for hour := range b {
				for bed := range b[hour] {
					switch {
					case e != api.OK || a[hour][bed] < b[hour][bed]:
						t.Fatalf("Play of %v in %v: %v with %v, %v with %v", n, tr, a, plan, b, other)
					case a[hour][bed] > b[hour][bed]:
						warmer++
					default:
						alike++
					}
				}
			}
		}
	}
	if warmer < 1000 || alike < 1000 || whole < 100 {
		t.Errorf("not enough of each kind: %d, %d, %d", warmer, alike, whole)
	}
	// In warmer air a flood can make a bed colder.
	n := known(list(1), 6, 1, 1, -8, 8)
	a, _ := frost.Play(n, list(0), truth(-8, 8))
	b, _ := frost.Play(n, list(-1), truth(-8, 8))
	if a[0][0] >= b[0][0] {
		t.Errorf("Play of %v: %v and %v", n, a, b)
	}
}

func TestP10_10_Wider(t *testing.T) {
	fewer, unsure := 0, 0
	r := rand.New(rand.NewSource(26))
	for _, n := range nights(800, 26) {
		m := with(n, func(n *frost.Night) {
			for range 1 + r.Intn(3) {
				x := &n.Stream.Spring
				if r.Intn(2) == 0 {
					x = &n.Stream.Air[r.Intn(len(n.Stream.Air))]
				}
				x.Lo, x.Hi = x.Lo-r.Intn(5), x.Hi+r.Intn(5)
			}
		})
		if frost.CheckNight(m) != api.OK {
			continue
		}
		_, many, _ := frost.Best(n)
		_, less, e := frost.Best(m)
		if less > many || e != api.OK {
			t.Fatalf("Best of %v: %d beds, and %d, %v of %v", n, many, less, e, m)
		}
		if less < many {
			fewer++
		}
		for _, plan := range plans(n) {
			for bed := range n.Stream.Depths {
				was, _ := frost.Saved(n, plan, bed)
				is, e := frost.Saved(m, plan, bed)
				// What is so in some truth, and not so in some, is so too if there are more truths.
				if e != api.OK || is != was && is != perhaps {
					t.Fatalf("Saved of %v, %v, %d: %d, and %d, %v of %v", n, plan, bed, was, is, e, m)
				}
				if is != was {
					unsure++
				}
			}
		}
	}
	if fewer < 40 || unsure < 400 {
		t.Errorf("not enough of each kind: %d, %d", fewer, unsure)
	}
}

func TestP10_11_NothingFlooded(t *testing.T) {
	seen := map[bool]int{}
	for _, n := range nights(600, 27) {
		plan := slices.Repeat(list(-1), len(n.Stream.Depths))
		for bed := range n.Stream.Depths {
			want := true
			for hour := range n.Stream.Air {
				v, e := warm.Frozen(n.Stream, bed, hour)
				want = want && v == warm.Never && e == api.OK
			}
			if v, e := frost.Saved(n, plan, bed); (v == always) != want || e != api.OK {
				t.Fatalf("Saved of %v, nothing flooded, %d: %d, %v; never frozen: %v", n, bed, v, e, want)
			}
			seen[want]++
		}
	}
	if seen[true] < 300 || seen[false] < 300 {
		t.Errorf("not enough of each kind: %v", seen)
	}
}

func TestP10_12_Upstream(t *testing.T) {
	r := rand.New(rand.NewSource(28))
	after := 0
	for _, n := range nights(400, 28) {
		all := plans(n)
		for range 40 {
			plan, other := all[r.Intn(len(all))], all[r.Intn(len(all))]
			for bed := range plan {
				if plan[bed] != other[bed] {
					break
				}
				a, e := frost.Saved(n, plan, bed)
				if b, g := frost.Saved(n, other, bed); a != b || e != api.OK || g != api.OK {
					t.Fatalf("Saved of %v, %d: %d, %v with %v; %d, %v with %v", n, bed, a, e, plan, b, g, other)
				}
				if !slices.Equal(plan, other) {
					after++
				}
			}
		}
	}
	if after < 1000 {
		t.Errorf("only %d pairs of plans differ after a bed", after)
	}
}

func TestP10_13_Warm(t *testing.T) {
	r := rand.New(rand.NewSource(29))
	for _, n := range nights(400, 29) {
		// The least warmth is 1: at 0 it would be too cold.
		thaw := func(x *warm.Range) { *x = to(1, 1+r.Intn(20)) }
		m := with(n, func(n *frost.Night) {
			thaw(&n.Stream.Spring)
			for hour := range n.Stream.Air {
				thaw(&n.Stream.Air[hour])
			}
		})
		_, many, e := frost.Best(m)
		few, g := frost.Fewest(m)
		_, f := frost.Proof(m)
		if many != len(n.Stream.Depths) || e != api.OK || few != 0 || g != api.OK || f != api.ErrNone {
			t.Fatalf("Best, Fewest, Proof of %v: %d, %v; %d, %v; %v", m, many, e, few, g, f)
		}
		for _, plan := range plans(m) {
			if !frost.ProvePlan(m, plan, len(plan)) {
				t.Fatalf("%v does not save all beds of %v", plan, m)
			}
		}
		icy := with(m, func(n *frost.Night) { n.Stream.Spring, n.Stream.Air[0] = to(0, 0), to(0, 0) })
		if _, many, e := frost.Best(icy); many != 0 || e != api.OK {
			t.Fatalf("Best of %v: %d, %v", icy, many, e)
		}
	}
}

func TestP10_14_NoDepth(t *testing.T) {
	r := rand.New(rand.NewSource(30))
	flooded := 0
	for _, n := range nights(300, 30) {
		m := with(n, func(n *frost.Night) {
			for bed := range n.Stream.Depths {
				n.Stream.Depths[bed] = n.Deep
			}
		})
		dry := slices.Repeat(list(-1), len(n.Stream.Depths))
		in := truths(n)
		tr := in[r.Intn(len(in))]
		want, _ := frost.Play(m, dry, tr)
		for _, plan := range plans(m) {
			if l, e := frost.Play(m, plan, tr); !sameRows(l, want) || e != api.OK {
				t.Fatalf("Play of %v, %v, %v: %v, %v, not %v", m, plan, tr, l, e, want)
			}
			for bed := range plan {
				a, _ := frost.Saved(m, dry, bed)
				if b, e := frost.Saved(m, plan, bed); a != b || e != api.OK {
					t.Fatalf("Saved of %v, %v, %d: %d, %v, not %d", m, plan, bed, b, e, a)
				}
			}
			flooded += tried{plan: plan}.flooded()
		}
		_, many, _ := frost.Best(m)
		if few, e := frost.Fewest(m); few != 0 || e != api.OK || !frost.ProvePlan(m, dry, many) {
			t.Fatalf("Fewest of %v: %d, %v", m, few, e)
		}
	}
	if flooded < 1000 {
		t.Errorf("only %d beds were flooded", flooded)
	}
}
