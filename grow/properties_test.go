package grow_test

import (
	"math/rand"
	"slices"
	"testing"

	"watercress/api"
	"watercress/grow"
)

func play(t *testing.T, s grow.Season, tr grow.Truth, p [][]int) [][]int {
	t.Helper()
	l, e := grow.Play(s, tr, p)
	if e != api.OK || len(l) != len(s.Beds) {
		t.Fatalf("Play of %v, %v, %v: %v, %v", s, tr, p, l, e)
	}
	for _, row := range l {
		if len(row) != s.Last+1 {
			t.Fatalf("Play of %v, %v, %v: %v", s, tr, p, l)
		}
	}
	return l
}

// anyPlan cuts each bed in about every third week.
func anyPlan(r *rand.Rand, s grow.Season) [][]int {
	p := noPlan(s)
	for bed := range p {
		for week := range s.Last + 1 {
			if r.Intn(3) == 0 {
				p[bed] = append(p[bed], week)
			}
		}
	}
	return p
}

func inside(inner, outer grow.Range) bool { return outer.Lo <= inner.Lo && inner.Hi <= outer.Hi }

// verdict is what Height and Ripe say of a bed and a week.
type verdict struct {
	height grow.Range
	ripe   int
	e      api.Errno
}

func verdictOf(t *testing.T, s grow.Season, bed, week int) verdict {
	t.Helper()
	r, e := grow.Height(s, bed, week)
	v, f := grow.Ripe(s, bed, week)
	if e != f {
		t.Fatalf("Height, Ripe of %v, %d, %d: %v, %v", s, bed, week, e, f)
	}
	return verdict{r, v, e}
}

// verdicts are those of all weeks of the bed 0, then of the bed 1, and so on.
func verdicts(t *testing.T, s grow.Season) []verdict {
	t.Helper()
	var all []verdict
	for bed := range s.Beds {
		for week := range s.Last + 1 {
			all = append(all, verdictOf(t, s, bed, week))
		}
	}
	return all
}

func TestP3_6_InEachTruth(t *testing.T) {
	for _, s := range seasons(200, 15) {
		if l, e := grow.Leave(s); e != api.OK || len(l) > 0 != (len(truths(s)) == 0) {
			t.Fatalf("Leave of %v: %v, %v", s, l, e)
		}
		if _, e := grow.Height(s, 0, 0); e != api.OK {
			continue
		}
		all := verdicts(t, s)
		reached := make([][2]bool, len(all))
		for _, tr := range choices(s) {
			if !grow.ProveTruth(s, tr) {
				continue
			}
			for i, n := range slices.Concat(play(t, s, tr, noPlan(s))...) {
				v := all[i]
				can := s.Ripe <= n && n <= s.Flower
				if !has(v.height, n) || v.ripe == grow.Always && !can || v.ripe == grow.Never && can {
					t.Fatalf("Height, Ripe of %v, the bed %d in the week %d: %v, but it has %d in %v", s, i/(s.Last+1), i%(s.Last+1), v, n, tr)
				}
				reached[i][0] = reached[i][0] || n == v.height.Lo
				reached[i][1] = reached[i][1] || n == v.height.Hi
			}
		}
		for i, ends := range reached {
			if ends != [2]bool{true, true} {
				t.Fatalf("Height of %v, the bed %d in the week %d: %v, but no truth has an end of it", s, i/(s.Last+1), i%(s.Last+1), all[i])
			}
		}
	}
}

func TestP3_6_PlansThatHold(t *testing.T) {
	many := 0
	for _, s := range seasons(300, 16) {
		p, n, e := grow.Best(s)
		if e != api.OK {
			continue
		}
		bounds, e := grow.Yield(s, p)
		if e != api.OK || !grow.ProvePlan(s, p) {
			t.Fatalf("Yield of %v, %v: %v, %v", s, p, bounds, e)
		}
		var reached [2]bool
		for _, tr := range truths(s) {
			sum := 0
			for bed, row := range play(t, s, tr, p) {
				for week, n := range row {
					isCut := slices.Contains(p[bed], week)
					if n > s.Flower || isCut && n < s.Ripe {
						t.Fatalf("the plan %v of %v has the height %d of the bed %d in the week %d of %v", p, s, n, bed, week, tr)
					}
					if isCut {
						sum += n - s.Stub
					}
				}
			}
			if !has(bounds, sum) {
				t.Fatalf("Yield of %v, %v: %v, without %d of %v", s, p, bounds, sum, tr)
			}
			reached[0], reached[1] = reached[0] || sum == bounds.Lo, reached[1] || sum == bounds.Hi
		}
		if reached != [2]bool{true, true} {
			t.Fatalf("Yield of %v, %v: %v, but no truth has an end of it", s, p, bounds)
		}
		if n > 2 {
			many++
		}
	}
	if many < 50 {
		t.Errorf("only %d plans have several cuts", many)
	}
}

func TestP3_7_NoPlanHasMoreCuts(t *testing.T) {
	for _, s := range shortSeasons(150, 17) {
		p, n, e := grow.Best(s)
		if e == api.OK && (!grow.ProvePlan(s, p) || cuts(p) != n) {
			t.Fatalf("Best of %v: %v, %d", s, p, n)
		}
		for _, other := range plans(s) {
			if grow.ProvePlan(s, other) && (e != api.OK || cuts(other) > n) {
				t.Fatalf("Best of %v: %v, %d, %v, but %v holds", s, p, n, e, other)
			}
		}
	}
}

func TestP3_7_ACutFewer(t *testing.T) {
	still, flower := 0, 0
	for _, s := range shortSeasons(400, 27) {
		for _, p := range plans(s) {
			if !grow.ProvePlan(s, p) {
				continue
			}
			for bed, l := range p {
				for i := range l {
					fewer := slices.Clone(p)
					fewer[bed] = slices.Delete(slices.Clone(l), i, i+1)
					runs := false
					for _, tr := range truths(s) {
						runs = runs || slices.Max(play(t, s, tr, fewer)[bed]) > s.Flower
					}
					if grow.ProvePlan(s, fewer) == runs {
						t.Fatalf("ProvePlan of %v, %v and of %v", s, p, fewer)
					}
					if runs {
						flower++
					} else {
						still++
					}
				}
			}
		}
	}
	if still < 100 || flower < 50 {
		t.Errorf("only %d still hold, %d run to flower", still, flower)
	}
}

func TestP3_8_Growth(t *testing.T) {
	r := rand.New(rand.NewSource(18))
	for _, s := range seasons(120, 18) {
		for _, tr := range choices(s) {
			p := anyPlan(r, s)
			for bed, row := range play(t, s, tr, p) {
				for week := range row {
					if week <= tr.Cuts[bed] {
						continue
					}
					was := row[week-1]
					if slices.Contains(p[bed], week-1) {
						was = s.Stub
					}
					by := row[week] - was
					if by < 0 || by > s.Light[week] || by > tr.Warm[week] || by > s.Beds[bed].Flow || by != s.Light[week] && by != tr.Warm[week] && by != s.Beds[bed].Flow {
						t.Fatalf("Play of %v, %v, %v: the bed %d grows by %d in the week %d", s, tr, p, bed, by, week)
					}
				}
			}
		}
	}
}

func TestP3_8_MoreWarmth(t *testing.T) {
	r := rand.New(rand.NewSource(28))
	higher := 0
	for _, s := range seasons(120, 28) {
		for _, tr := range choices(s) {
			p := anyPlan(r, s)
			was := slices.Concat(play(t, s, tr, p)...)
			for week := range s.Last + 1 {
				if tr.Warm[week] == s.Warm[week].Hi {
					continue
				}
				warmer := truth(slices.Clone(tr.Warm), tr.Cuts...)
				warmer.Warm[week]++
				is := slices.Concat(play(t, s, warmer, p)...)
				for i := range is {
					if is[i] < was[i] {
						t.Fatalf("Play of %v, %v, %v: %v; with more warmth in the week %d: %v", s, tr, p, was, week, is)
					}
				}
				if !slices.Equal(is, was) {
					higher++
				}
			}
		}
	}
	if higher < 100 {
		t.Errorf("more warmth makes a difference only %d times", higher)
	}
}

func TestP3_9_OneMoreLook(t *testing.T) {
	r := rand.New(rand.NewSource(19))
	kept, lost := 0, 0
	for _, s := range seasons(300, 19) {
		if len(s.Looks) == api.MaxGrowLooks {
			continue
		}
		own := choices(s)
		more := copied(s)
		more.Looks = slices.Insert(more.Looks, r.Intn(len(s.Looks)+1), anyLook(r, s, own[r.Intn(len(own))], r.Intn(2) == 0))
		before, _ := grow.Leave(s)
		after, e := grow.Leave(more)
		if e != api.OK || len(after) < len(before) || len(after) > len(before)+1 {
			t.Fatalf("Leave of %v: %v; of %v: %v, %v", s, before, more, after, e)
		}
		if len(after) > 0 {
			lost++
			continue
		}
		kept++
		was, is := verdicts(t, s), verdicts(t, more)
		for i := range is {
			if !inside(is[i].height, was[i].height) || was[i].ripe != grow.Perhaps && is[i].ripe != was[i].ripe {
				t.Fatalf("Height, Ripe of %v: %v; of %v: %v", s, was[i], more, is[i])
			}
		}
		p, n, e := grow.Best(s)
		if _, m, f := grow.Best(more); e == api.OK && (!grow.ProvePlan(more, p) || f != api.OK || m < n) {
			t.Fatalf("Best of %v: %v, %d; of %v: %d, %v", s, p, n, more, m, f)
		}
	}
	if kept < 80 || lost < 80 {
		t.Errorf("only %d seasons have a truth with the look, %d none", kept, lost)
	}
}

// wider are seasons with one wider range each, which are valid.
func wider(s grow.Season) []grow.Season {
	var all []grow.Season
	add := func(of func(*grow.Season) *grow.Range) {
		lower, higher := copied(s), copied(s)
		of(&lower).Lo--
		of(&higher).Hi++
		for _, g := range []grow.Season{lower, higher} {
			if grow.CheckSeason(g) == api.OK && len(choices(g)) < 150 {
				all = append(all, g)
			}
		}
	}
	for i := range s.Warm {
		add(func(g *grow.Season) *grow.Range { return &g.Warm[i] })
	}
	for i := range s.Beds {
		add(func(g *grow.Season) *grow.Range { return &g.Beds[i].Cut })
	}
	for i := range s.Looks {
		add(func(g *grow.Season) *grow.Range { return &g.Looks[i].Height })
	}
	return all
}

func TestP3_10_Wider(t *testing.T) {
	fewer := 0
	for _, s := range seasons(80, 20) {
		left, _ := grow.Leave(s)
		was := verdicts(t, s)
		_, n, e := grow.Best(s)
		for _, g := range wider(s) {
			if l, f := grow.Leave(g); f != api.OK || len(l) > len(left) {
				t.Fatalf("Leave of %v: %v; of %v: %v, %v", s, left, g, l, f)
			}
			if len(left) > 0 {
				continue
			}
			for i, v := range verdicts(t, g) {
				if v.e != api.OK || !inside(was[i].height, v.height) || v.ripe != grow.Perhaps && v.ripe != was[i].ripe {
					t.Fatalf("Height, Ripe of %v: %v; of %v: %v", s, was[i], g, v)
				}
			}
			p, m, f := grow.Best(g)
			if f == api.OK && (e != api.OK || m > n || !grow.ProvePlan(s, p)) {
				t.Fatalf("Best of %v: %d, %v; of %v: %v, %d", s, n, e, g, p, m)
			}
			if m < n {
				fewer++
			}
		}
	}
	if fewer < 50 {
		t.Errorf("only %d seasons have fewer cuts with a wider range", fewer)
	}
}

func TestP3_11_Knives(t *testing.T) {
	better := 0
	for _, s := range seasons(200, 21) {
		s.Knives = 0
		p, n, e := grow.Best(s)
		if n != 0 || cuts(p) != 0 {
			t.Fatalf("Best of %v: %v, %d", s, p, n)
		}
		for s.Knives < api.MaxGrowBeds {
			s.Knives++
			_, m, f := grow.Best(s)
			if m < n || e == api.OK && f != api.OK {
				t.Fatalf("Best of %v: %d, %v; with a knife fewer: %d, %v", s, m, f, n, e)
			}
			if m > n {
				better++
			}
			n, e = m, f
		}
	}
	if better < 100 {
		t.Errorf("more knives make a difference only %d times", better)
	}
}

func TestP3_11_AsManyKnivesAsBeds(t *testing.T) {
	r := rand.New(rand.NewSource(31))
	seen := map[api.Errno]int{}
	for range 400 {
		s := bareSeason(r, r.Intn(10), 2+r.Intn(2))
		s.Knives = len(s.Beds)
		sum, want := 0, api.OK
		for _, b := range s.Beds {
			alone := copied(s)
			alone.Beds, alone.Knives = []grow.Bed{b}, 1
			_, n, e := grow.Best(alone)
			sum += n
			if e != api.OK {
				want = e
			}
		}
		if want != api.OK {
			sum = 0
		}
		seen[want]++
		if p, n, e := grow.Best(s); n != sum || e != want {
			t.Fatalf("Best of %v: %v, %d, %v, not %d, %v", s, p, n, e, sum, want)
		}
	}
	if seen[api.OK] < 50 || seen[api.ErrShort] < 50 {
		t.Errorf("not enough of each kind: %v", seen)
	}
}

func TestP3_12_Later(t *testing.T) {
	r := rand.New(rand.NewSource(22))
	for _, s := range seasons(250, 22) {
		week := r.Intn(s.Last + 1)
		s.Looks = slices.DeleteFunc(s.Looks, func(l grow.Look) bool { return l.Week > week })
		g := copied(s)
		for later := week + 1; later <= s.Last; later++ {
			g.Light[later] = r.Intn(10)
			low := r.Intn(9)
			g.Warm[later] = to(low, low+r.Intn(2))
		}
		if e := grow.CheckSeason(g); e != api.OK {
			t.Fatalf("CheckSeason of %v: %v", g, e)
		}
		for bed := range s.Beds {
			if was, is := verdictOf(t, s, bed, week), verdictOf(t, g, bed, week); is != was {
				t.Fatalf("Height, Ripe of %v, %d, %d: %v; with other weeks later on: %v", s, bed, week, was, is)
			}
		}
	}
}

func TestP3_13_First(t *testing.T) {
	wrong, late := 0, 0
	for _, s := range seasons(400, 23) {
		n, e := grow.First(s)
		if len(truths(s)) > 0 {
			if n != 0 || e != api.ErrNone {
				t.Fatalf("First of %v, which has a truth: %d, %v", s, n, e)
			}
			continue
		}
		wrong++
		if e != api.OK || n < 0 || n >= len(s.Looks) {
			t.Fatalf("First of %v: %d, %v", s, n, e)
		}
		if n > 1 {
			late++
		}
		before, with := copied(s), copied(s)
		before.Looks, with.Looks = s.Looks[:n], s.Looks[:n+1]
		if len(truths(before)) == 0 || len(truths(with)) > 0 {
			t.Fatalf("First of %v: %d", s, n)
		}
		if _, e := grow.Height(before, 0, 0); e != api.OK {
			t.Fatalf("Height of %v with the looks before the first wrong one: %v", s, e)
		}
		if _, e := grow.Height(with, 0, 0); e != api.ErrFalse {
			t.Fatalf("Height of %v with the first wrong look: %v", s, e)
		}
	}
	if wrong < 50 || late < 20 {
		t.Errorf("only %d seasons have a wrong look, in %d a late one", wrong, late)
	}
}

func TestP3_14_LeftOut(t *testing.T) {
	several := 0
	for _, s := range seasons(400, 24) {
		l, e := grow.Leave(s)
		if e != api.OK {
			t.Fatalf("Leave of %v: %v", s, e)
		}
		for _, shorter := range allLists(len(s.Looks)) {
			if slices.Equal(shorter, l) {
				break
			}
			if _, e := grow.Height(without(s, shorter), 0, 0); e != api.ErrFalse || len(truthsBut(s, shorter)) > 0 {
				t.Fatalf("Leave of %v: %v, but it has a truth without %v", s, l, shorter)
			}
		}
		if _, e := grow.Height(without(s, l), 0, 0); e != api.OK || len(truthsBut(s, l)) == 0 {
			t.Fatalf("Leave of %v: %v, but it has no truth without these", s, l)
		}
		if len(l) > 1 {
			several++
		}
	}
	if several < 20 {
		t.Errorf("in only %d seasons several looks have to be left out", several)
	}
}

func TestP3_15_Prefix(t *testing.T) {
	r := rand.New(rand.NewSource(25))
	for _, s := range seasons(150, 25) {
		for _, tr := range choices(s) {
			p := anyPlan(r, s)
			bare := play(t, s, tr, noPlan(s))
			for bed, row := range play(t, s, tr, p) {
				same := s.Last + 1
				if len(p[bed]) > 0 {
					same = p[bed][0] + 1
				}
				if !slices.Equal(row[:same], bare[bed][:same]) {
					t.Fatalf("Play of %v, %v, %v: %v; without the plan: %v", s, tr, p, row, bare[bed])
				}
			}
		}
	}
}

func TestP7_AnyOrderOfLooks(t *testing.T) {
	r := rand.New(rand.NewSource(37))
	for _, s := range seasons(250, 37) {
		g := copied(s)
		r.Shuffle(len(g.Looks), func(i, j int) { g.Looks[i], g.Looks[j] = g.Looks[j], g.Looks[i] })
		if was, is := verdicts(t, s), verdicts(t, g); !slices.Equal(was, is) {
			t.Fatalf("Height, Ripe of %v: %v; in another order: %v", s, was, is)
		}
		_, n, e := grow.Best(s)
		if p, m, f := grow.Best(g); m != n || e != f || e == api.OK && !grow.ProvePlan(s, p) {
			t.Fatalf("Best of %v: %d, %v; in another order: %v, %d, %v", s, n, e, p, m, f)
		}
		out, _ := grow.Leave(s)
		if l, _ := grow.Leave(g); len(l) != len(out) {
			t.Fatalf("Leave of %v: %v; in another order: %v", s, out, l)
		}
	}
}
