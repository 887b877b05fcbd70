package train_test

import (
	"math/rand"
	"slices"
	"testing"

	"watercress/api"
	"watercress/bunch"
	"watercress/train"
)

func play(t *testing.T, m train.Morning, tr train.Truth) train.Run {
	t.Helper()
	r, e := train.Play(m, tr)
	if e != api.OK {
		t.Fatalf("Play of %v, %v: %v, %v", m, tr, r, e)
	}
	return r
}

// dayHasTruth asks layer 5.
func dayHasTruth(m train.Morning) bool {
	_, e := bunch.Bounds(m.Day)
	return e == api.OK
}

// ofDays are mornings whose days have truths.
func ofDays(many int, seed int64) []train.Morning {
	return slices.DeleteFunc(mornings(many, seed), func(m train.Morning) bool { return !dayHasTruth(m) })
}

func leave(t *testing.T, m train.Morning) []int {
	t.Helper()
	l, e := train.Leave(m)
	if e != api.OK {
		t.Fatalf("Leave of %v: %v, %v", m, l, e)
	}
	return l
}

// start is the latest one; it is -1 if none suffices.
func start(t *testing.T, m train.Morning) int {
	t.Helper()
	n, e := train.Latest(m)
	switch e {
	case api.OK:
		return n
	case api.ErrShort:
		return -1
	}
	t.Fatalf("Latest of %v: %d, %v", m, n, e)
	return 0
}

// allReach reports whether all flats reach the train always, if reports are not asked.
func allReach(t *testing.T, m train.Morning) bool {
	t.Helper()
	m.Reports = nil
	v, e := train.Reach(m)
	if e != api.OK {
		t.Fatalf("Reach of %v: %d, %v", m, v, e)
	}
	return v == train.Always
}

// allInside reports whether no range of the one bounds is wider than that of the others.
func allInside(inner, outer train.Bound) bool {
	a, b := ranges(inner), ranges(outer)
	for i := range a {
		if a[i].Lo < b[i].Lo || a[i].Hi > b[i].Hi {
			return false
		}
	}
	return true
}

func TestP6_5_InEachTruth(t *testing.T) {
	seen := map[int]int{}
	for _, m := range mornings(600, 15) {
		b, e := train.Bounds(m)
		v, f := train.Reach(m)
		all := ranges(b)
		reached := make([][2]bool, len(all))
		many := 0
		for _, tr := range choices(m) {
			if !train.ProveTruth(m, tr) {
				continue
			}
			many++
			r := play(t, m, tr)
			for i, n := range numbers(r) {
				if e != api.OK || !has(all[i], n) {
					t.Fatalf("Bounds of %v: %v, %v, but %v in %v", m, b, e, r, tr)
				}
				reached[i][0] = reached[i][0] || n == all[i].Lo
				reached[i][1] = reached[i][1] || n == all[i].Hi
			}
			if is := r.Caught == r.Flats; f != api.OK || v == train.Always && !is || v == train.Never && is {
				t.Fatalf("Reach of %v: %d, %v, but %v in %v", m, v, f, r, tr)
			}
		}
		seen[v]++
		if many == 0 {
			if e == api.OK || f != e {
				t.Fatalf("Bounds, Reach of %v, which has no truth: %v, %v", m, e, f)
			}
			continue
		}
		if slices.ContainsFunc(reached, func(ends [2]bool) bool { return ends != [2]bool{true, true} }) {
			t.Fatalf("Bounds of %v: %v, but not all ends are reached: %v", m, b, reached)
		}
		if l := leave(t, m); len(l) > 0 {
			t.Fatalf("Leave of %v, which has a truth: %v", m, l)
		}
		if n, e := train.First(m); n != 0 || e != api.ErrNone {
			t.Fatalf("First of %v, which has a truth: %d, %v", m, n, e)
		}
	}
	for _, v := range list(0, train.Always, train.Never, train.Perhaps) {
		if seen[v] < 60 {
			t.Errorf("not enough of each kind: %v", seen)
		}
	}
}

func TestP6_6_Caught(t *testing.T) {
	seen := map[string]int{}
	for _, m := range mornings(500, 16) {
		for _, tr := range choices(m) {
			r := play(t, m, tr)
			all := r.Caught == r.Flats
			if r.Caught < 0 || r.Caught > r.Flats || all != (r.Flats == 0 || r.Last <= m.Train) {
				t.Fatalf("Play of %v, %v: %v", m, tr, r)
			}
			if !all && r.Caught%m.Load != 0 {
				t.Fatalf("Play of %v, %v: %v, but on each trip but the last there are %d", m, tr, r, m.Load)
			}
			if r.Trips*m.Load < r.Flats || r.Flats > 0 && (r.Trips-1)*m.Load >= r.Flats || r.Flats == 0 && r.Trips != 0 {
				t.Fatalf("Play of %v, %v: %v", m, tr, r)
			}
			switch {
			case r.Flats == 0:
				seen["none"]++
			case all:
				seen["all"]++
			case r.Caught > 0:
				seen["some"]++
			default:
				seen["no"]++
			}
		}
	}
	for _, kind := range []string{"none", "all", "some", "no"} {
		if seen[kind] < 200 {
			t.Errorf("not enough of each kind: %v", seen)
		}
	}
}

func TestP6_7_Latest(t *testing.T) {
	between, short := 0, 0
	for _, m := range ofDays(150, 17) {
		latest := start(t, m)
		g := copied(m)
		for g.Start = 0; g.Start <= min(600, latest+2); g.Start++ {
			if allReach(t, g) != (g.Start <= latest) {
				t.Fatalf("Latest of %v: %d, but not with %d", m, latest, g.Start)
			}
		}
		switch {
		case latest < 0:
			short++
		case latest < 600:
			between++
		}
	}
	if between < 50 || short < 10 {
		t.Errorf("not enough of each kind: %d, %d", between, short)
	}
}

func TestP6_8_Least(t *testing.T) {
	between, short := 0, 0
	for _, m := range ofDays(400, 18) {
		n, e := train.Least(m)
		if e == api.ErrShort && n == 0 {
			n = 11
		} else if e != api.OK || n < 1 || n > 10 {
			t.Fatalf("Least of %v: %d, %v", m, n, e)
		}
		g := copied(m)
		for g.Load = 1; g.Load <= 10; g.Load++ {
			if allReach(t, g) != (g.Load >= n) {
				t.Fatalf("Least of %v: %d, but not with %d", m, n, g.Load)
			}
		}
		switch {
		case n > 10:
			short++
		case n > 1:
			between++
		}
	}
	if between < 60 || short < 30 {
		t.Errorf("not enough of each kind: %d, %d", between, short)
	}
}

func TestP6_8_AGreaterLoad(t *testing.T) {
	fewer := 0
	for _, m := range mornings(300, 19) {
		for _, tr := range choices(m) {
			g := copied(m)
			g.Load = 1
			was := play(t, g, tr)
			for g.Load = 2; g.Load <= 10; g.Load++ {
				is := play(t, g, tr)
				if is.Trips > was.Trips || is.Last > was.Last || is.Flats != was.Flats {
					t.Fatalf("Play of %v, %v: %v, but %v with less", g, tr, is, was)
				}
				if is.Trips < was.Trips && is.Last < was.Last {
					fewer++
				}
				was = is
			}
		}
	}
	if fewer < 2000 {
		t.Errorf("a greater load makes a difference only %d times", fewer)
	}
}

func TestP6_9_Slower(t *testing.T) {
	seen := map[string]int{}
	for _, m := range mornings(400, 20) {
		for _, tr := range choices(m) {
			was := play(t, m, tr)
			for _, x := range []struct {
				what   string
				change func(m *train.Morning, t *train.Truth)
			}{
				{"Out", func(m *train.Morning, t *train.Truth) { m.Out.Hi++; t.Out++ }},
				{"Back", func(m *train.Morning, t *train.Truth) { m.Back.Hi++; t.Back++ }},
				{"Start", func(m *train.Morning, t *train.Truth) { m.Start++ }},
				{"Train", func(m *train.Morning, t *train.Truth) { m.Train-- }},
			} {
				g, slow := copied(m), tr
				x.change(&g, &slow)
				if train.CheckMorning(g) != api.OK {
					continue
				}
				is := play(t, g, slow)
				if is.Flats != was.Flats || is.Trips != was.Trips || is.Caught > was.Caught || is.Last < was.Last || x.what == "Train" && is.Last != was.Last {
					t.Fatalf("Play of %v, %v: %v; slower by %s: %v", m, tr, was, x.what, is)
				}
				if is.Caught < was.Caught {
					seen[x.what]++
				}
				if is.Last > was.Last {
					seen["later"]++
				}
			}
		}
	}
	for what, many := range map[string]int{"Out": 50, "Back": 50, "Start": 50, "Train": 50, "later": 1000} {
		if seen[what] < many {
			t.Errorf("not enough of each kind: %v", seen)
		}
	}
}

func TestP6_10_OneMoreReport(t *testing.T) {
	r := rand.New(rand.NewSource(21))
	lost, narrower, surer := 0, 0, 0
	for _, m := range ofDays(1500, 21) {
		if len(m.Reports) == api.MaxTrainReports {
			continue
		}
		own := choices(m)
		more := copied(m)
		more.Reports = slices.Insert(more.Reports, r.Intn(len(m.Reports)+1), anyReport(r, m, own[r.Intn(len(own))], r.Intn(2) == 0))
		was, is := leave(t, m), leave(t, more)
		if len(is) < len(was) || len(is) > len(was)+1 {
			t.Fatalf("Leave of %v: %v; of %v: %v", m, was, more, is)
		}
		if len(is) > 0 {
			lost++
			continue
		}
		b, e := train.Bounds(m)
		c, f := train.Bounds(more)
		if e != api.OK || f != api.OK || !allInside(c, b) {
			t.Fatalf("Bounds of %v: %v, %v; of %v: %v, %v", m, b, e, more, c, f)
		}
		v, _ := train.Reach(m)
		w, _ := train.Reach(more)
		if v != w && v != train.Perhaps {
			t.Fatalf("Reach of %v: %d; of %v: %d", m, v, more, w)
		}
		if b != c {
			narrower++
		}
		if v != w {
			surer++
		}
	}
	if lost < 300 || narrower < 100 || surer < 30 {
		t.Errorf("only %d mornings have no truth, %d narrower bounds, %d are surer", lost, narrower, surer)
	}
}

// wider are the mornings with one wider range each, which are valid.
func wider(m train.Morning) []train.Morning {
	var all []train.Morning
	add := func(change func(m *train.Morning, by int)) {
		for by := range 2 {
			g := copied(m)
			change(&g, by)
			if train.CheckMorning(g) == api.OK {
				all = append(all, g)
			}
		}
	}
	add(func(m *train.Morning, by int) { m.Out = to(m.Out.Lo-by, m.Out.Hi+1-by) })
	add(func(m *train.Morning, by int) { m.Back = to(m.Back.Lo-by, m.Back.Hi+1-by) })
	for i := range m.Day.Lots {
		add(func(m *train.Morning, by int) {
			r := &m.Day.Lots[i].Stems
			*r = of(r.Lo-by, r.Hi+1-by)
		})
	}
	for i := range m.Reports {
		add(func(m *train.Morning, by int) {
			r := &m.Reports[i].Number
			*r = to(r.Lo-by, r.Hi+1-by)
		})
	}
	return all
}

func TestP6_11_Wider(t *testing.T) {
	fewer, wide, earlier := 0, 0, 0
	for _, m := range ofDays(400, 22) {
		b, e := train.Bounds(m)
		out, latest := leave(t, m), start(t, m)
		for _, g := range wider(m) {
			if l := leave(t, g); len(l) > len(out) {
				t.Fatalf("Leave of %v: %v; of %v: %v", m, out, g, l)
			} else if len(l) < len(out) {
				fewer++
			}
			if n := start(t, g); n > latest {
				t.Fatalf("Latest of %v: %d; of %v: %d", m, latest, g, n)
			} else if n < latest {
				earlier++
			}
			if e != api.OK {
				continue
			}
			c, f := train.Bounds(g)
			if f != api.OK || !allInside(b, c) {
				t.Fatalf("Bounds of %v: %v; of %v: %v, %v", m, b, g, c, f)
			}
			if b != c {
				wide++
			}
		}
	}
	if fewer < 50 || wide < 300 || earlier < 200 {
		t.Errorf("only %d mornings have fewer reports to leave out, %d wider bounds, %d an earlier Start", fewer, wide, earlier)
	}
}

func TestP6_12_First(t *testing.T) {
	wrong, late := 0, 0
	for _, m := range ofDays(800, 23) {
		n, e := train.First(m)
		if e == api.ErrNone {
			if b, e := train.Bounds(m); n != 0 || e != api.OK {
				t.Fatalf("First of %v: %d, but Bounds: %v, %v", m, n, b, e)
			}
			continue
		}
		if e != api.OK || n < 0 || n >= len(m.Reports) {
			t.Fatalf("First of %v: %d, %v", m, n, e)
		}
		if b, e := train.Bounds(withReports(m, m.Reports[:n]...)); e != api.OK {
			t.Fatalf("Bounds of %v with the reports before the first wrong one: %v, %v", m, b, e)
		}
		if b, e := train.Bounds(withReports(m, m.Reports[:n+1]...)); e != api.ErrFail {
			t.Fatalf("Bounds of %v with the first wrong report: %v, %v", m, b, e)
		}
		wrong++
		if n > 1 {
			late++
		}
	}
	if wrong < 200 || late < 40 {
		t.Errorf("only %d mornings have a wrong report, %d a late one", wrong, late)
	}
}

func TestP6_13_LeftOut(t *testing.T) {
	several := 0
	for _, m := range ofDays(800, 24) {
		out := leave(t, m)
		// The lists that are shorter, or as long and lexicographically before it, come first.
		for _, l := range allLists(len(m.Reports)) {
			if slices.Equal(l, out) {
				break
			}
			if b, e := train.Bounds(without(m, l)); e != api.ErrFail {
				t.Fatalf("Leave of %v: %v, but without %v: %v, %v", m, out, l, b, e)
			}
		}
		if b, e := train.Bounds(without(m, out)); e != api.OK {
			t.Fatalf("Leave of %v: %v, but without these: %v, %v", m, out, b, e)
		}
		if len(out) > 1 {
			several++
		}
	}
	if several < 50 {
		t.Errorf("in only %d mornings several reports have to be left out", several)
	}
}

func TestP6_14_Later(t *testing.T) {
	r := rand.New(rand.NewSource(25))
	moved := 0
	for _, m := range ofDays(600, 25) {
		by := r.Intn(api.MaxTrainMinute + 1 - max(m.Start, m.Train))
		g := copied(m)
		g.Start, g.Train = m.Start+by, m.Train+by
		for _, tr := range choices(m) {
			was, is := play(t, m, tr), play(t, g, tr)
			was.Last += by
			if was != is {
				t.Fatalf("Play of %v, %v: %v, and %v later by %d", m, tr, was, is, by)
			}
		}
		was, e := train.Latest(m)
		is, f := train.Latest(g)
		if e == api.OK && was < 600 && (f != api.OK || is != min(600, was+by)) {
			t.Fatalf("Latest of %v: %d, and %d, %v later by %d", m, was, is, f, by)
		}
		if f == api.OK && is < 600 && is-by >= 0 && e != api.OK {
			t.Fatalf("Latest of %v: %v, but %d later by %d", m, e, is, by)
		}
		if e == api.OK && was < is {
			moved++
		}
		a, _ := train.Least(m)
		if b, _ := train.Least(g); a != b {
			t.Fatalf("Least of %v: %d, and %d later by %d", m, a, b, by)
		}
	}
	if moved < 200 {
		t.Errorf("the latest Start is later only %d times", moved)
	}
}

func TestP7_AnyOrderOfReportsLotsAndCounts(t *testing.T) {
	r := rand.New(rand.NewSource(26))
	for _, m := range mornings(500, 26) {
		g := copied(m)
		r.Shuffle(len(g.Reports), func(i, j int) { g.Reports[i], g.Reports[j] = g.Reports[j], g.Reports[i] })
		r.Shuffle(len(g.Day.Lots), func(i, j int) { g.Day.Lots[i], g.Day.Lots[j] = g.Day.Lots[j], g.Day.Lots[i] })
		r.Shuffle(len(g.Day.Counts), func(i, j int) { g.Day.Counts[i], g.Day.Counts[j] = g.Day.Counts[j], g.Day.Counts[i] })
		// First and Leave return indexes, which may differ; their errors and the length of the list may not.
		a, b := answers(m, train.Truth{}), answers(g, train.Truth{})
		for i := range a {
			indexes := a[i].name == "First" || a[i].name == "Leave"
			if a[i].e != b[i].e || !indexes && !slices.Equal(a[i].numbers, b[i].numbers) || a[i].name == "Leave" && len(a[i].numbers) != len(b[i].numbers) {
				t.Fatalf("%v of %v; in another order: %v", a[i], m, b[i])
			}
		}
	}
}
