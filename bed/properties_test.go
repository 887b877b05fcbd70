package bed_test

import (
	"math/rand"
	"slices"
	"testing"

	"watercress/api"
	"watercress/bed"
)

func play(t *testing.T, f bed.Farm, flows []int) []bed.Flow {
	t.Helper()
	l, e := bed.Play(f, flows)
	if e != api.OK || len(l) != len(f.Beds) {
		t.Fatalf("Play of %v, %v: %v, %v", f, flows, l, e)
	}
	return l
}

func inside(inner, outer bed.Range) bool { return outer.Lo <= inner.Lo && inner.Hi <= outer.Hi }

func noneWider(inner, outer []bed.Bound) bool {
	for n, b := range inner {
		if !inside(b.In, outer[n].In) || !inside(b.Kept, outer[n].Kept) || !inside(b.Over, outer[n].Over) {
			return false
		}
	}
	return len(inner) == len(outer)
}

func TestP1_7_NothingIsLost(t *testing.T) {
	for _, f := range farms(100, 17) {
		for _, flows := range choices(f) {
			balance := 0
			for _, n := range flows {
				balance += n
			}
			for n, w := range play(t, f, flows) {
				if w.Kept+w.Over != w.In || w.Kept > f.Beds[n].Notch || w.Over < 0 {
					t.Fatalf("Play of %v, %v: the bed %d has %v", f, flows, n, w)
				}
				balance -= w.Kept
				if f.Beds[n].Down == -1 {
					balance -= w.Over
				}
			}
			if balance != 0 {
				t.Fatalf("Play of %v, %v loses %d", f, flows, balance)
			}
		}
	}
}

func TestP1_8_InEachTruth(t *testing.T) {
	for _, f := range farms(150, 18) {
		bounds, e := bed.Bounds(f)
		if e != api.OK {
			continue
		}
		reached := map[[2]int]int{} // by bed and end
		for _, flows := range choices(f) {
			if !bed.ProveTruth(f, flows) {
				continue
			}
			for n, w := range play(t, f, flows) {
				b := bounds[n]
				if !has(b.In, w.In) || !has(b.Kept, w.Kept) || !has(b.Over, w.Over) {
					t.Fatalf("Bounds of %v: %v of the bed %d is not in %v", f, w, n, b)
				}
				for i, is := range []bool{w.In == b.In.Lo, w.In == b.In.Hi, w.Kept == b.Kept.Lo, w.Kept == b.Kept.Hi, w.Over == b.Over.Lo, w.Over == b.Over.Hi} {
					if is {
						reached[[2]int{n, i}]++
					}
				}
				v, _ := bed.Fed(f, n)
				if is := w.Kept >= f.Beds[n].Need; v == bed.Always && !is || v == bed.Never && is {
					t.Fatalf("Fed of %v, %d: %d, but it has %v", f, n, v, w)
				}
			}
		}
		if len(reached) != 6*len(f.Beds) {
			t.Fatalf("Bounds of %v: an end of %v is not reached", f, bounds)
		}
		if l, e := bed.Leave(f); len(l) > 0 || e != api.OK {
			t.Fatalf("Leave of %v, which has a truth: %v, %v", f, l, e)
		}
	}
}

func TestP1_9_BoardsOrACut(t *testing.T) {
	boards, cuts := 0, 0
	for _, f := range farms(500, 19) {
		own := truths(f)
		if len(own) == 0 {
			if l, e := bed.Fewest(f); len(l) > 0 || e != api.ErrFalse {
				t.Fatalf("Fewest of %v: %v, %v", f, l, e)
			}
			continue
		}
		want, found := shortest(len(f.Beds), func(l []int) bool { return suffice(f, own, l) })
		l, e := bed.Fewest(f)
		n, flows, g := bed.Cut(f)
		if !found {
			cuts++
			if len(l) > 0 || e != api.ErrShort || g != api.OK || !bed.ProveCut(f, n, flows) {
				t.Fatalf("Fewest, Cut of %v: %v, %v; %d, %v, %v", f, l, e, n, flows, g)
			}
			continue
		}
		if len(want) > 0 {
			boards++
		}
		if !slices.Equal(l, want) || e != api.OK || g != api.ErrNone {
			t.Fatalf("Fewest, Cut of %v: %v, %v, not %v; %d, %v, %v", f, l, e, want, n, flows, g)
		}
		for i := range l {
			if suffice(f, own, slices.Delete(slices.Clone(l), i, i+1)) {
				t.Fatalf("Fewest of %v: %v, but %d can stay", f, l, l[i])
			}
		}
	}
	if boards < 20 || cuts < 20 {
		t.Errorf("only %d farms with boards to move, %d with a cut", boards, cuts)
	}
}

func TestP1_10_MoreWater(t *testing.T) {
	for _, f := range farms(100, 20) {
		f.Looks = nil
		for _, flows := range choices(f) {
			less := play(t, f, flows)
			for i, s := range f.Springs {
				if flows[i] == s.Flow.Hi {
					continue
				}
				greater := slices.Clone(flows)
				greater[i]++
				for n, w := range play(t, f, greater) {
					if w.In < less[n].In || w.Kept < less[n].Kept || w.Over < less[n].Over {
						t.Fatalf("Play of %v, %v: the bed %d has %v, and %v with more water", f, flows, n, less[n], w)
					}
				}
			}
		}
		narrow, e := bed.Bounds(f)
		for i := range f.Springs {
			g := copied(f)
			g.Springs[i].Flow = to(max(0, f.Springs[i].Flow.Lo-1), min(api.MaxBedFlow, f.Springs[i].Flow.Hi+1))
			if wide, h := bed.Bounds(g); e != api.OK || h != api.OK || !noneWider(narrow, wide) {
				t.Fatalf("Bounds of %v: %v, %v; with a wider range: %v, %v", f, narrow, e, wide, h)
			}
		}
	}
}

func TestP1_11_LowerBoards(t *testing.T) {
	for _, f := range farms(100, 21) {
		for n, b := range f.Beds {
			if b.Notch == 0 {
				continue
			}
			g := copied(f)
			g.Beds[n].Notch--
			for _, flows := range choices(f) {
				was, is := play(t, f, flows), play(t, g, flows)
				if is[n].Kept > was[n].Kept {
					t.Fatalf("Play of %v, %v: the bed %d keeps more with a lower board", f, flows, n)
				}
				for i := range f.Beds {
					if isBelow(f, n, i) && is[i].In < was[i].In {
						t.Fatalf("Play of %v, %v: the bed %d has less with a lower board of %d", f, flows, i, n)
					}
				}
			}
		}
	}
}

func TestP1_12_OneMoreLook(t *testing.T) {
	for _, f := range farms(300, 22) {
		if len(f.Looks) == 0 {
			continue
		}
		g := copied(f)
		g.Looks = g.Looks[:len(g.Looks)-1]
		few, _ := bed.Leave(g)
		more, _ := bed.Leave(f)
		if len(more) < len(few) || len(more) > len(few)+1 {
			t.Fatalf("Leave of %v: %v, and %v without the last look", f, more, few)
		}
		narrow, e := bed.Bounds(f)
		wide, _ := bed.Bounds(g)
		if e != api.OK {
			continue
		}
		if !noneWider(narrow, wide) {
			t.Fatalf("Bounds of %v: %v, and %v without the last look", f, narrow, wide)
		}
		for n := range f.Beds {
			was, _ := bed.Fed(g, n)
			if is, _ := bed.Fed(f, n); was != bed.Perhaps && is != was {
				t.Fatalf("Fed of %v, %d: %d, and %d without the last look", f, n, is, was)
			}
		}
		was, h := bed.Fewest(g)
		if is, e := bed.Fewest(f); h == api.OK && (e != api.OK || len(is) > len(was)) {
			t.Fatalf("Fewest of %v: %v, %v, and %v without the last look", f, is, e, was)
		}
	}
}

func TestP1_13_First(t *testing.T) {
	wrong := 0
	for _, f := range farms(300, 23) {
		n, e := bed.First(f)
		if len(truths(f)) > 0 {
			if n != 0 || e != api.ErrNone {
				t.Fatalf("First of %v, which has a truth: %d, %v", f, n, e)
			}
			continue
		}
		wrong++
		before, with := copied(f), copied(f)
		if e != api.OK || n < 0 || n >= len(f.Looks) {
			t.Fatalf("First of %v: %d, %v", f, n, e)
		}
		before.Looks, with.Looks = f.Looks[:n], f.Looks[:n+1]
		if len(truths(before)) == 0 || len(truths(with)) > 0 {
			t.Fatalf("First of %v: %d", f, n)
		}
	}
	if wrong < 50 {
		t.Errorf("only %d farms have a wrong look", wrong)
	}
}

func TestP1_14_LeftOut(t *testing.T) {
	several := 0
	for _, f := range farms(300, 24) {
		want, _ := shortest(len(f.Looks), func(l []int) bool { return len(truthsBut(f, l)) > 0 })
		if l, e := bed.Leave(f); !slices.Equal(l, want) || e != api.OK {
			t.Fatalf("Leave of %v: %v, %v, not %v", f, l, e, want)
		}
		if len(want) > 1 {
			several++
		}
	}
	if several < 20 {
		t.Errorf("in only %d farms several looks have to be left out", several)
	}
}

func TestP1_15_Forgotten(t *testing.T) {
	for _, f := range farms(100, 25) {
		if bed.CheckFarm(f) != api.OK || len(truths(f)) == 0 {
			continue
		}
		for n, b := range f.Beds {
			if l, e := bed.Forgotten(f, n, b.Notch); len(l) > 0 || e != api.OK {
				t.Fatalf("Forgotten of %v, %d at its own notch: %v, %v", f, n, l, e)
			}
			for notch := 0; notch <= api.MaxBedNotch; notch++ {
				l, _ := bed.Forgotten(f, n, notch)
				for _, i := range l {
					if i != n && !isBelow(f, n, i) {
						t.Fatalf("Forgotten of %v, %d, %d: %v, but %d is not below", f, n, notch, l, i)
					}
				}
			}
		}
	}
}

func TestP1_16_Above(t *testing.T) {
	for _, f := range farms(80, 26) {
		for n := range f.Beds {
			g := copied(f)
			for i := range g.Beds {
				if i != n && !isBelow(f, i, n) {
					g.Beds[i].Notch = (g.Beds[i].Notch + 3) % (api.MaxBedNotch + 1)
				}
			}
			for _, flows := range choices(f) {
				if was, is := play(t, f, flows)[n], play(t, g, flows)[n]; was != is {
					t.Fatalf("Play of %v, %v: the bed %d has %v, and %v with other boards that are not above it", f, flows, n, was, is)
				}
			}
		}
	}
}

func TestP7_AnyOrderOfLooks(t *testing.T) {
	r := rand.New(rand.NewSource(27))
	for _, f := range farms(200, 27) {
		g := copied(f)
		r.Shuffle(len(g.Looks), func(i, j int) { g.Looks[i], g.Looks[j] = g.Looks[j], g.Looks[i] })
		was, e := bed.Bounds(f)
		is, h := bed.Bounds(g)
		if !slices.Equal(was, is) || e != h {
			t.Fatalf("Bounds of %v: %v, %v; in another order: %v, %v", f, was, e, is, h)
		}
		out, _ := bed.Leave(f)
		if l, _ := bed.Leave(g); len(l) != len(out) {
			t.Fatalf("Leave of %v: %v; in another order: %v", f, out, l)
		}
	}
}
