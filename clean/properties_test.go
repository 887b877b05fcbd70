package clean_test

import (
	"math/rand"
	"slices"
	"testing"

	"watercress/api"
	"watercress/clean"
)

// weeksOf are those of all beds, or nil for each if the call has an error.
func weeksOf(y clean.Yard) [][]int {
	var all [][]int
	for n := range y.Beds {
		l, _ := clean.Weeks(y, n)
		all = append(all, l)
	}
	return all
}

// verdicts are what Empty says of all weeks of the bed 0, then of the bed 1, and so on; 0 if it has an error.
func verdicts(y clean.Yard) []int {
	var all []int
	for n := range y.Beds {
		for week := range y.Last + 1 {
			v, _ := clean.Empty(y, n, week)
			all = append(all, v)
		}
	}
	return all
}

// subset reports whether for each bed the one list has nothing but what the other one has.
func subset(some, all [][]int) bool {
	for n, l := range some {
		for _, week := range l {
			if !slices.Contains(all[n], week) {
				return false
			}
		}
	}
	return true
}

func leave(t *testing.T, y clean.Yard) []int {
	t.Helper()
	l, e := clean.Leave(y)
	if e != api.OK {
		t.Fatalf("Leave of %v: %v, %v", y, l, e)
	}
	return l
}

func TestP4_6_EitherAScheduleOrAProof(t *testing.T) {
	seen := map[bool]int{}
	for _, y := range yards(1500, 21) {
		bare := copied(y)
		bare.Claims = nil
		l, e := clean.Show(bare)
		p, f := clean.Proof(y)
		is := e == api.OK
		seen[is]++
		if is && (!clean.ProveSchedule(bare, l) || f != api.ErrNone) || !is && (e != api.ErrShort || f != api.OK || !clean.Prove(y, p)) {
			t.Fatalf("Show, Proof of %v: %v, %v; %v, %v", bare, l, e, p, f)
		}
		if clean.Prove(y, numbers(y)) == is {
			t.Fatalf("Prove of %v, all beds, is not %v", y, !is)
		}
		if l, e := clean.Show(y); e == api.OK && !clean.ProveSchedule(y, l) {
			t.Fatalf("Show of %v: %v", y, l)
		}
	}
	if seen[true] < 200 || seen[false] < 200 {
		t.Errorf("not enough of each kind: %v", seen)
	}
}

func TestP4_6_Shown(t *testing.T) {
	for _, y := range goodYards(300, 22) {
		weeks, said := weeksOf(y), verdicts(y)
		found := make([][]int, len(y.Beds))
		for _, l := range choices(y) {
			if !clean.ProveSchedule(y, l) {
				continue
			}
			for n, week := range l {
				found[n] = append(found[n], week)
				for w := range y.Last + 1 {
					v, is := said[n*(y.Last+1)+w], isEmpty(y, l, n, w)
					if v == 0 || v == clean.Always && !is || v == clean.Never && is {
						t.Fatalf("Empty of %v, %d, %d: %d, but %v is a schedule", y, n, w, v, l)
					}
				}
			}
		}
		if !subset(weeks, found) || !subset(found, weeks) {
			t.Fatalf("Weeks of %v: %v, not %v", y, weeks, found)
		}
	}
}

func TestP4_7_MoreHands(t *testing.T) {
	better := 0
	for _, y := range yards(2500, 23) {
		for y.Hands = 1; y.Hands < api.MaxCleanHands; y.Hands++ {
			more := withHands(y, y.Hands+1)
			was, is := weeksOf(y), weeksOf(more)
			if !subset(was, is) {
				t.Fatalf("Weeks of %v: %v; of %v: %v", y, was, more, is)
			}
			l, e := clean.Leave(y)
			out, f := clean.Leave(more)
			if e == api.OK && (f != api.OK || len(out) > len(l)) {
				t.Fatalf("Leave of %v: %v, %v; of %v: %v, %v", y, l, e, more, out, f)
			}
			if e != f || !subset(is, was) {
				better++
			}
			if s, e := clean.Show(y); e == api.OK && !clean.ProveSchedule(more, s) {
				t.Fatalf("Show of %v: %v, but this is no schedule of %v", y, s, more)
			}
		}
	}
	if better < 50 {
		t.Errorf("more hands make a difference only %d times", better)
	}
}

func TestP4_8_Fewest(t *testing.T) {
	several := 0
	for _, y := range yards(2500, 24) {
		y.Claims = nil
		fewest, e := clean.Fewest(y)
		if e != api.OK {
			fewest = api.MaxCleanHands + 1
		}
		if fewest > 1 && e == api.OK {
			several++
		}
		for hands := 1; hands <= api.MaxCleanHands; hands++ {
			want := api.OK
			if hands < fewest {
				want = api.ErrShort
			}
			if _, f := clean.Show(withHands(y, hands)); f != want {
				t.Fatalf("Show of %v with %d hands: %v, but Fewest is %d, %v", y, hands, f, fewest, e)
			}
		}
	}
	if several < 50 {
		t.Errorf("only %d yards need several hands", several)
	}
}

func TestP4_8_AsManyHandsAsBeds(t *testing.T) {
	for _, y := range yards(600, 25) {
		if len(y.Beds) > 2 {
			y.Beds = y.Beds[:2]
			y.Claims = slices.DeleteFunc(y.Claims, func(c clean.Claim) bool { return c.Bed > 1 })
		}
		y.Hands = max(1, len(y.Beds))
		more := withHands(y, y.Hands+1)
		others := answers(more, 0, 0)
		for n, a := range answers(y, 0, 0) {
			if b := others[n]; a.e != b.e || !slices.Equal(a.numbers, b.numbers) {
				t.Fatalf("%s of %v: %v; of %v: %v", a.name, y, a, more, b)
			}
		}
	}
}

func TestP4_9_Proof(t *testing.T) {
	several := 0
	for _, y := range yards(800, 26) {
		p, e := clean.Proof(y)
		if e != api.OK {
			continue
		}
		if len(p) > 1 {
			several++
		}
		for i := range p {
			if fewer := slices.Delete(slices.Clone(p), i, i+1); clean.Prove(y, fewer) {
				t.Fatalf("Proof of %v: %v, but %v is one too", y, p, fewer)
			}
		}
		for _, l := range allLists(len(y.Beds)) {
			all := true
			for _, n := range p {
				all = all && slices.Contains(l, n)
			}
			if all && !clean.Prove(y, l) {
				t.Fatalf("Proof of %v: %v, but %v is none", y, p, l)
			}
			if len(l) < len(p) && clean.Prove(y, l) {
				t.Fatalf("Proof of %v: %v, but %v is shorter", y, p, l)
			}
		}
	}
	if several < 100 {
		t.Errorf("only %d proofs have several beds", several)
	}
}

func TestP4_10_OneMoreClaim(t *testing.T) {
	r := rand.New(rand.NewSource(27))
	kept, lost := 0, 0
	for _, y := range goodYards(600, 27) {
		if len(y.Claims) == api.MaxCleanClaims {
			continue
		}
		more := copied(y)
		more.Claims = slices.Insert(more.Claims, r.Intn(len(y.Claims)+1), anyClaim(r, y, anyWeeks(r, y), r.Intn(2) == 0))
		before, after := leave(t, y), leave(t, more)
		if len(after) < len(before) || len(after) > len(before)+1 {
			t.Fatalf("Leave of %v: %v; of %v: %v", y, before, more, after)
		}
		if len(after) > 0 {
			lost++
			continue
		}
		kept++
		if was, is := weeksOf(y), weeksOf(more); !subset(is, was) {
			t.Fatalf("Weeks of %v: %v; of %v: %v", y, was, more, is)
		}
		was, is := verdicts(y), verdicts(more)
		for i := range is {
			if is[i] == 0 || was[i] != clean.Perhaps && is[i] != was[i] {
				t.Fatalf("Empty of %v: %v; of %v: %v", y, was, more, is)
			}
		}
	}
	if kept < 100 || lost < 100 {
		t.Errorf("only %d yards have a schedule with the claim, %d none", kept, lost)
	}
}

// wider are valid yards with one wider range each, or with a smaller Long.
func wider(y clean.Yard) []clean.Yard {
	var all []clean.Yard
	add := func(change func(*clean.Yard)) {
		g := copied(y)
		change(&g)
		if clean.CheckYard(g) == api.OK {
			all = append(all, g)
		}
	}
	for n := range y.Beds {
		add(func(g *clean.Yard) { g.Beds[n].Begin.Lo-- })
		add(func(g *clean.Yard) { g.Beds[n].Begin.Hi++ })
		add(func(g *clean.Yard) { g.Beds[n].Long-- })
	}
	for n := range y.Claims {
		add(func(g *clean.Yard) { g.Claims[n].Began.Lo-- })
		add(func(g *clean.Yard) { g.Claims[n].Began.Hi++ })
	}
	return all
}

func TestP4_11_Wider(t *testing.T) {
	gained, fewer := 0, 0
	for _, y := range yards(300, 28) {
		was := weeksOf(y)
		out, e := clean.Leave(y)
		for _, g := range wider(y) {
			is := weeksOf(g)
			if !subset(was, is) {
				t.Fatalf("Weeks of %v: %v; of %v: %v", y, was, g, is)
			}
			if !subset(is, was) {
				gained++
			}
			l, f := clean.Leave(g)
			if e == api.OK && (f != api.OK || len(l) > len(out)) {
				t.Fatalf("Leave of %v: %v, %v; of %v: %v, %v", y, out, e, g, l, f)
			}
			if e == api.OK && len(l) < len(out) {
				fewer++
			}
		}
	}
	if gained < 100 || fewer < 20 {
		t.Errorf("only %d yards gain a week, %d leave fewer claims out", gained, fewer)
	}
}

func TestP4_12_First(t *testing.T) {
	wrong, late := 0, 0
	for _, y := range goodYards(600, 29) {
		n, e := clean.First(y)
		if len(own(y)) > 0 {
			if n != 0 || e != api.ErrNone {
				t.Fatalf("First of %v, which has a schedule: %d, %v", y, n, e)
			}
			continue
		}
		wrong++
		if e != api.OK || n < 0 || n >= len(y.Claims) {
			t.Fatalf("First of %v: %d, %v", y, n, e)
		}
		if n > 1 {
			late++
		}
		before, with := copied(y), copied(y)
		before.Claims, with.Claims = y.Claims[:n], y.Claims[:n+1]
		if l, e := clean.Show(before); e != api.OK || !clean.ProveSchedule(before, l) {
			t.Fatalf("Show of %v with the claims before the first wrong one: %v, %v", y, l, e)
		}
		if l, e := clean.Show(with); e != api.ErrFail {
			t.Fatalf("Show of %v with the first wrong claim: %v, %v", y, l, e)
		}
	}
	if wrong < 100 || late < 30 {
		t.Errorf("only %d yards have a wrong claim, %d a late one", wrong, late)
	}
}

func TestP4_13_LeftOut(t *testing.T) {
	several := 0
	for _, y := range goodYards(600, 30) {
		out := leave(t, y)
		for _, l := range allLists(len(y.Claims)) {
			if slices.Equal(l, out) {
				break
			}
			if s, e := clean.Show(without(y, l)); e != api.ErrFail {
				t.Fatalf("Leave of %v: %v, but without %v it has %v, %v", y, out, l, s, e)
			}
		}
		if s, e := clean.Show(without(y, out)); e != api.OK {
			t.Fatalf("Leave of %v: %v, but without it it has %v, %v", y, out, s, e)
		}
		if len(out) > 1 {
			several++
		}
	}
	if several < 50 {
		t.Errorf("in only %d yards several claims have to be left out", several)
	}
}

func TestP4_14_BedsFromTheOtherEnd(t *testing.T) {
	for _, y := range yards(600, 31) {
		g := copied(y)
		slices.Reverse(g.Beds)
		for i := range g.Claims {
			g.Claims[i].Bed = len(y.Beds) - 1 - g.Claims[i].Bed
		}
		was, is := weeksOf(y), weeksOf(g)
		slices.Reverse(is)
		if !slices.EqualFunc(was, is, slices.Equal) {
			t.Fatalf("Weeks of %v: %v; from the other end: %v", y, was, is)
		}
		n, e := clean.Fewest(y)
		if m, f := clean.Fewest(g); n != m || e != f {
			t.Fatalf("Fewest of %v: %d, %v; from the other end: %d, %v", y, n, e, m, f)
		}
	}
}

func TestP4_14_WeeksFromTheOtherEnd(t *testing.T) {
	many := 0
	for _, y := range yards(600, 32) {
		turned := func(n, week int) int { return y.Last + 1 - week - y.Beds[n].Long }
		g := copied(y)
		for n, b := range y.Beds {
			g.Beds[n].Begin = to(turned(n, b.Begin.Hi), turned(n, b.Begin.Lo))
		}
		g.Claims = nil
		bare := copied(y)
		bare.Claims = nil
		// Where a bed may begin too late it would begin before the week 0 from the other end.
		if clean.CheckYard(g) != api.OK {
			continue
		}
		for _, l := range choices(bare) {
			var other []int
			for n, week := range l {
				other = append(other, turned(n, week))
			}
			is := clean.ProveSchedule(bare, l)
			if clean.ProveSchedule(g, other) != is {
				t.Fatalf("ProveSchedule of %v, %v is %v; of %v, %v it is not", bare, l, is, g, other)
			}
			if is {
				many++
			}
		}
	}
	if many < 1000 {
		t.Errorf("only %d schedules", many)
	}
}

func TestP4_15_OneMoreBed(t *testing.T) {
	r := rand.New(rand.NewSource(33))
	lost, worse := 0, 0
	for _, y := range yards(2500, 33) {
		more := copied(y)
		low := r.Intn(y.Last + 1)
		more.Beds = append(more.Beds, bed(1+r.Intn(3), low, min(y.Last, low+r.Intn(3))))
		if clean.CheckYard(more) != api.OK {
			continue
		}
		was, is := weeksOf(y), weeksOf(more)[:len(y.Beds)]
		if !subset(is, was) {
			t.Fatalf("Weeks of %v: %v; of %v: %v", y, was, more, is)
		}
		if !subset(was, is) {
			lost++
		}
		n, e := clean.Fewest(y)
		m, f := clean.Fewest(more)
		if f == api.OK && (e != api.OK || m < n) {
			t.Fatalf("Fewest of %v: %d, %v; of %v: %d, %v", y, n, e, more, m, f)
		}
		if m > n {
			worse++
		}
	}
	if lost < 100 || worse < 20 {
		t.Errorf("only %d yards lose a week, %d need more hands", lost, worse)
	}
}

func TestP7_AnyOrderOfClaims(t *testing.T) {
	r := rand.New(rand.NewSource(34))
	for _, y := range goodYards(400, 34) {
		g := copied(y)
		r.Shuffle(len(g.Claims), func(i, j int) { g.Claims[i], g.Claims[j] = g.Claims[j], g.Claims[i] })
		if was, is := weeksOf(y), weeksOf(g); !slices.EqualFunc(was, is, slices.Equal) {
			t.Fatalf("Weeks of %v: %v; in another order: %v", y, was, is)
		}
		if was, is := verdicts(y), verdicts(g); !slices.Equal(was, is) {
			t.Fatalf("Empty of %v: %v; in another order: %v", y, was, is)
		}
		if was, is := leave(t, y), leave(t, g); len(was) != len(is) {
			t.Fatalf("Leave of %v: %v; in another order: %v", y, was, is)
		}
	}
}
