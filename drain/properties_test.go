package drain_test

import (
	"math/rand"
	"slices"
	"testing"

	"watercress/api"
	"watercress/bed"
	"watercress/drain"
)

// The properties are asked of what the calls return, not of the oracle's answers.

// proved are the truths that ProveTruth accepts.
func proved(f drain.Foul) []drain.Truth {
	return slices.DeleteFunc(choices(f), func(t drain.Truth) bool { return !drain.ProveTruth(f, t) })
}

// hasTruth asks whether some truth, whatever the cases say, is of the foul.
func hasTruth(t *testing.T, f drain.Foul) bool {
	t.Helper()
	_, e := drain.Leave(f)
	if e != api.OK && e != api.ErrFalse {
		t.Fatalf("Leave of %v: %v", f, e)
	}
	return e == api.OK
}

// isExplained asks whether some truth explains the foul, whose farm has a truth.
func isExplained(t *testing.T, f drain.Foul) bool {
	t.Helper()
	_, e := drain.Reached(f, 0, 0)
	if e != api.OK && e != api.ErrFail {
		t.Fatalf("Reached of %v: %v", f, e)
	}
	return e == api.OK
}

func drains(t *testing.T, f drain.Foul) []int {
	t.Helper()
	l, e := drain.Drains(f)
	if e != api.OK {
		t.Fatalf("Drains of %v: %v", f, e)
	}
	return l
}

func leave(t *testing.T, f drain.Foul) []int {
	t.Helper()
	l, e := drain.Leave(f)
	if e != api.OK {
		t.Fatalf("Leave of %v: %v", f, e)
	}
	return l
}

func play(t *testing.T, f drain.Foul, tr drain.Truth) []int {
	t.Helper()
	l, e := drain.Play(f, tr)
	if e != api.OK || len(l) != len(f.Farm.Beds) {
		t.Fatalf("Play of %v, %v: %v, %v", f, tr, l, e)
	}
	return l
}

// reached asks for the bed by each hour.
func reached(t *testing.T, f drain.Foul, n int) []int {
	t.Helper()
	var all []int
	for hour := range f.Last + 1 {
		v, e := drain.Reached(f, n, hour)
		if e != api.OK || v != always && v != never && v != perhaps {
			t.Fatalf("Reached of %v, %d, %d: %d, %v", f, n, hour, v, e)
		}
		all = append(all, v)
	}
	return all
}

// nowhen is later than any hour: it stands for that of a bed that is never reached.
const nowhen = 1000

// earliests asks for each bed.
func earliests(t *testing.T, f drain.Foul) []int {
	t.Helper()
	var all []int
	for n := range f.Farm.Beds {
		hour, e := drain.Earliest(f, n)
		switch e {
		case api.OK:
			all = append(all, hour)
		case api.ErrNone:
			all = append(all, nowhen)
		default:
			t.Fatalf("Earliest of %v, %d: %d, %v", f, n, hour, e)
		}
	}
	return all
}

func TestP8_5_InEachTruth(t *testing.T) {
	explained, sure, unsure := 0, 0, 0
	for _, f := range fouls(300, 21) {
		in := proved(f)
		if len(in) == 0 {
			continue
		}
		explained++
		if l := leave(t, f); len(l) > 0 {
			t.Fatalf("Leave of %v: %v, but %v explains it", f, l, in[0])
		}
		from, least := drains(t, f), earliests(t, f)
		var known [][]int
		for n := range f.Farm.Beds {
			known = append(known, reached(t, f, n))
		}
		for _, tr := range in {
			if !slices.Contains(from, tr.Drain) {
				t.Fatalf("Drains of %v: %v, but not that of %v", f, from, tr)
			}
			for n, hour := range play(t, f, tr) {
				if hour >= 0 && hour < least[n] {
					t.Fatalf("Earliest of %v, %d: %d, but %d in %v", f, n, least[n], hour, tr)
				}
				for by, v := range known[n] {
					if is := hour >= 0 && hour <= by; v == always && !is || v == never && is {
						t.Fatalf("Reached of %v, %d, %d: %d, but %d in %v", f, n, by, v, hour, tr)
					}
					if v == perhaps {
						unsure++
					} else {
						sure++
					}
				}
			}
		}
	}
	if explained < 150 || sure < 1000 || unsure < 1000 {
		t.Errorf("only %d fouls are explained, %d times it is sure, %d times it is not", explained, sure, unsure)
	}
}

func TestP8_5_EachEndIsReached(t *testing.T) {
	several := 0
	for _, f := range fouls(300, 22) {
		in := proved(f)
		if len(in) == 0 {
			continue
		}
		for _, n := range drains(t, f) {
			if !slices.ContainsFunc(in, func(tr drain.Truth) bool { return tr.Drain == n }) {
				t.Fatalf("Drains of %v: %d, but no truth with it explains it", f, n)
			}
		}
		for n, hour := range earliests(t, f) {
			var all []int
			for _, tr := range in {
				if is := play(t, f, tr)[n]; is >= 0 {
					all = append(all, is)
				}
			}
			if hour < nowhen && !slices.Contains(all, hour) || hour == nowhen && len(all) > 0 {
				t.Fatalf("Earliest of %v, %d: %d, of %v", f, n, hour, all)
			}
			if len(all) > 0 && slices.Max(all) > hour {
				several++
			}
			for by, v := range reached(t, f, n) {
				if v != perhaps {
					continue
				}
				early := len(slices.DeleteFunc(slices.Clone(all), func(is int) bool { return is > by }))
				if early == 0 || early == len(in) {
					t.Fatalf("Reached of %v, %d, %d: perhaps, but in %d of %d truths", f, n, by, early, len(in))
				}
			}
		}
	}
	if several < 200 {
		t.Errorf("only %d beds are reached in several hours", several)
	}
}

func TestP8_6_Down(t *testing.T) {
	followed, stopped := 0, 0
	for _, f := range fouls(250, 23) {
		for _, tr := range choices(f) {
			when := play(t, f, tr)
			first := f.Drains[tr.Drain].Bed
			if when[first] != tr.Opened {
				t.Fatalf("Play of %v, %v: %v, but it was opened then", f, tr, when)
			}
			for n, hour := range when {
				if hour >= 0 && n != first && !isBelow(f, first, n) || hour < -1 {
					t.Fatalf("Play of %v, %v: %v, but the bed %d is not below the drain", f, tr, when, n)
				}
				down := f.Farm.Beds[n].Down
				if hour < 0 || down < 0 {
					continue
				}
				if when[down] >= 0 && when[down] < hour {
					t.Fatalf("Play of %v, %v: %v, but the bed %d is below the bed %d", f, tr, when, down, n)
				}
				if when[down] > hour {
					followed++
				} else if when[down] < 0 {
					stopped++
				}
			}
			// Down to the last bed that it reaches no bed is left out.
			for n := first; f.Farm.Beds[n].Down >= 0 && when[f.Farm.Beds[n].Down] < 0; n = f.Farm.Beds[n].Down {
				for m := range f.Farm.Beds {
					if isBelow(f, n, m) && when[m] >= 0 {
						t.Fatalf("Play of %v, %v: %v, but the bed %d is left out", f, tr, when, f.Farm.Beds[n].Down)
					}
				}
			}
		}
	}
	if followed < 500 || stopped < 500 {
		t.Errorf("only %d times it goes on later, %d times it does not go on", followed, stopped)
	}
}

// isDry reports whether the Over of the bed is 0 in all truths of the farm.
func isDry(t *testing.T, f drain.Foul, n int) bool {
	t.Helper()
	bounds, e := bed.Bounds(f.Farm)
	if e != api.OK {
		t.Fatalf("Bounds of %v: %v", f.Farm, e)
	}
	return bounds[n].Over.Hi == 0
}

func TestP8_7_Dry(t *testing.T) {
	only, others := 0, 0
	for _, f := range fouls(600, 24) {
		if !hasTruth(t, f) {
			continue
		}
		for n, b := range f.Farm.Beds {
			if b.Down < 0 || !isDry(t, f, n) {
				continue
			}
			// Without the bed above it is reached as with it.
			apart := copied(f)
			apart.Farm.Beds[n].Down = -1
			apart.Cases = nil
			bare := withCases(f)
			if a, g := reached(t, bare, b.Down), reached(t, apart, b.Down); !slices.Equal(a, g) {
				t.Fatalf("Reached of %v, %d: %v, but %v if nothing comes from the bed %d", bare, b.Down, a, g, n)
			}
			// With drains only at the bed, and above it, it is not reached at all.
			upper := copied(bare)
			upper.Drains = slices.DeleteFunc(upper.Drains, func(d drain.Drain) bool { return d.Bed != n && !isBelow(f, d.Bed, n) })
			if len(upper.Drains) == 0 {
				others++
				continue
			}
			only++
			if v, e := drain.Reached(upper, b.Down, f.Last); v != never || e != api.OK {
				t.Fatalf("Reached of %v, %d: %d, %v, but no water goes on from the bed %d", upper, b.Down, v, e, n)
			}
			if hour, e := drain.Earliest(upper, b.Down); hour != 0 || e != api.ErrNone {
				t.Fatalf("Earliest of %v, %d: %d, %v, but no water goes on from the bed %d", upper, b.Down, hour, e, n)
			}
		}
	}
	if only < 100 || others < 100 {
		t.Errorf("only %d dry beds are below drains, %d are not", only, others)
	}
}

func TestP8_8_Later(t *testing.T) {
	changed := 0
	for _, f := range fouls(400, 25) {
		if !hasTruth(t, f) || !isExplained(t, f) {
			continue
		}
		for n := range f.Farm.Beds {
			all := reached(t, f, n)
			for hour := 1; hour <= f.Last; hour++ {
				was, is := all[hour-1], all[hour]
				if was == always && is != always || is == never && was != never {
					t.Fatalf("Reached of %v, %d: %v", f, n, all)
				}
				if was != is {
					changed++
				}
			}
		}
	}
	if changed < 400 {
		t.Errorf("only %d times it changes", changed)
	}
}

func TestP8_9_OneDrain(t *testing.T) {
	seen := map[bool]int{}
	for _, f := range fouls(500, 26) {
		if !hasTruth(t, f) {
			continue
		}
		from := drains(t, f)
		for n := range f.Drains {
			alone := f
			alone.Drains = f.Drains[n : n+1]
			is := slices.Contains(from, n)
			if isExplained(t, alone) != is || len(proved(alone)) > 0 != is {
				t.Fatalf("Drains of %v: %v, but not so of %d alone", f, from, n)
			}
			seen[is]++
		}
	}
	if seen[true] < 200 || seen[false] < 200 {
		t.Errorf("not enough of each kind: %v", seen)
	}
}

func isPart(l, of []int) bool {
	return !slices.ContainsFunc(l, func(n int) bool { return !slices.Contains(of, n) })
}

func TestP8_10_OneMoreCase(t *testing.T) {
	r := rand.New(rand.NewSource(27))
	seen := map[string]int{}
	for _, f := range fouls(700, 27) {
		if len(f.Cases) == api.MaxDrainCases || !hasTruth(t, f) {
			continue
		}
		in := truths(f)
		what := anyCase(r, f, in[r.Intn(len(in))])
		more := withCases(f, slices.Insert(slices.Clone(f.Cases), r.Intn(len(f.Cases)+1), what)...)
		a, b := drains(t, f), drains(t, more)
		if !isPart(b, a) {
			t.Fatalf("Drains of %v: %v; of %v: %v", f, a, more, b)
		}
		if len(b) > 0 && len(b) < len(a) {
			seen["fewer drains"]++
		}
		was, is := leave(t, f), leave(t, more)
		if len(is) < len(was) || len(is) > len(was)+1 {
			t.Fatalf("Leave of %v: %v; of %v: %v", f, was, more, is)
		}
		if len(is) > len(was) {
			seen["one more to leave out"]++
		} else if len(is) > 0 {
			seen["none more to leave out"]++
		}
		if len(is) > 0 {
			continue
		}
		then := earliests(t, more)
		for n, hour := range earliests(t, f) {
			if then[n] < hour {
				t.Fatalf("Earliest of %v, %d: %d; of %v: %d", f, n, hour, more, then[n])
			}
			if then[n] > hour {
				seen["later"]++
			}
			after := reached(t, more, n)
			for by, v := range reached(t, f, n) {
				if v != perhaps && after[by] != v {
					t.Fatalf("Reached of %v, %d, %d: %d; of %v: %d", f, n, by, v, more, after[by])
				}
				if v != after[by] {
					seen["surer"]++
				}
			}
		}
	}
	for kind, n := range map[string]int{"fewer drains": 60, "one more to leave out": 60, "none more to leave out": 20, "later": 60, "surer": 200} {
		if seen[kind] < n {
			t.Errorf("not enough of each kind: %v", seen)
		}
	}
}

// wider are the fouls with one wider range each, or with a later case, which are valid.
func wider(f drain.Foul) []drain.Foul {
	var all []drain.Foul
	add := func(change func(f *drain.Foul)) {
		g := copied(f)
		change(&g)
		if drain.CheckFoul(g) == api.OK {
			all = append(all, g)
		}
	}
	for n := range f.Hours {
		add(func(f *drain.Foul) { f.Hours[n].Lo-- })
		add(func(f *drain.Foul) { f.Hours[n].Hi++ })
	}
	for n := range f.Drains {
		add(func(f *drain.Foul) { f.Drains[n].Opened.Lo-- })
		add(func(f *drain.Foul) { f.Drains[n].Opened.Hi++ })
	}
	for n := range f.Farm.Springs {
		add(func(f *drain.Foul) { f.Farm.Springs[n].Flow.Lo-- })
		add(func(f *drain.Foul) { f.Farm.Springs[n].Flow.Hi++ })
	}
	for n := range f.Cases {
		add(func(f *drain.Foul) { f.Cases[n].Hour++ })
	}
	return all
}

func TestP8_11_Wider(t *testing.T) {
	more, earlier, fewer := 0, 0, 0
	for _, f := range fouls(400, 28) {
		if !hasTruth(t, f) {
			continue
		}
		from, out := drains(t, f), leave(t, f)
		for _, g := range wider(f) {
			if l := drains(t, g); !isPart(from, l) {
				t.Fatalf("Drains of %v: %v; of %v: %v", f, from, g, l)
			} else if len(l) > len(from) {
				more++
			}
			if l := leave(t, g); len(l) > len(out) {
				t.Fatalf("Leave of %v: %v; of %v: %v", f, out, g, l)
			} else if len(l) < len(out) {
				fewer++
			}
			if len(out) > 0 {
				continue
			}
			then := earliests(t, g)
			for n, hour := range earliests(t, f) {
				if then[n] > hour {
					t.Fatalf("Earliest of %v, %d: %d; of %v: %d", f, n, hour, g, then[n])
				}
				if then[n] < hour {
					earlier++
				}
			}
		}
	}
	if more < 50 || earlier < 200 || fewer < 30 {
		t.Errorf("only %d wider fouls have more drains, %d an earlier hour, %d fewer cases to leave out", more, earlier, fewer)
	}
}

func TestP8_12_First(t *testing.T) {
	wrong, late := 0, 0
	for _, f := range fouls(600, 29) {
		if !hasTruth(t, f) {
			continue
		}
		n, e := drain.First(f)
		if e == api.ErrNone {
			if n != 0 || !isExplained(t, f) {
				t.Fatalf("First of %v: %d, %v, but no truth explains it", f, n, e)
			}
			continue
		}
		if e != api.OK || n < 0 || n >= len(f.Cases) {
			t.Fatalf("First of %v: %d, %v", f, n, e)
		}
		if !isExplained(t, withCases(f, f.Cases[:n]...)) {
			t.Fatalf("First of %v: %d, but without the cases from this one on no truth explains it", f, n)
		}
		if isExplained(t, withCases(f, f.Cases[:n+1]...)) {
			t.Fatalf("First of %v: %d, but without those after it some truth explains it", f, n)
		}
		wrong++
		if n > 1 {
			late++
		}
	}
	if wrong < 100 || late < 30 {
		t.Errorf("only %d fouls have a case that is not explained, %d a late one", wrong, late)
	}
}

func TestP8_13_LeftOut(t *testing.T) {
	several := 0
	for _, f := range fouls(600, 30) {
		if !hasTruth(t, f) {
			continue
		}
		out := leave(t, f)
		// The lists that are shorter, or as long and lexicographically before it, come first.
		for _, l := range allLists(len(f.Cases)) {
			if slices.Equal(l, out) {
				break
			}
			if isExplained(t, without(f, l)) {
				t.Fatalf("Leave of %v: %v, but without %v some truth explains it", f, out, l)
			}
		}
		if !isExplained(t, without(f, out)) {
			t.Fatalf("Leave of %v: %v, but without these no truth explains it", f, out)
		}
		if len(out) > 1 {
			several++
		}
	}
	if several < 60 {
		t.Errorf("in only %d fouls several cases have to be left out", several)
	}
}

func TestP8_14_Moved(t *testing.T) {
	explained, out := 0, 0
	for _, f := range fouls(500, 31) {
		if f.Last == api.MaxDrainLast || !hasTruth(t, f) {
			continue
		}
		g := copied(f)
		g.Last++
		for n := range g.Drains {
			g.Drains[n].Opened.Lo++
			g.Drains[n].Opened.Hi++
		}
		for n := range g.Cases {
			g.Cases[n].Hour++
		}
		if a, b := drains(t, f), drains(t, g); !slices.Equal(a, b) {
			t.Fatalf("Drains of %v: %v; an hour later: %v", f, a, b)
		}
		l := leave(t, f)
		if m := leave(t, g); !slices.Equal(l, m) {
			t.Fatalf("Leave of %v: %v; an hour later: %v", f, l, m)
		}
		if len(l) > 0 {
			out++
			continue
		}
		explained++
		then := earliests(t, g)
		for n, hour := range earliests(t, f) {
			if hour < nowhen && then[n] != hour+1 || hour == nowhen && then[n] != nowhen {
				t.Fatalf("Earliest of %v, %d: %d; an hour later: %d", f, n, hour, then[n])
			}
			if a, b := reached(t, f, n), reached(t, g, n); b[0] != never || !slices.Equal(a, b[1:]) {
				t.Fatalf("Reached of %v, %d: %v; an hour later: %v", f, n, a, b)
			}
		}
	}
	if explained < 150 || out < 60 {
		t.Errorf("only %d fouls are explained, %d are not", explained, out)
	}
}

func TestP7_AnyOrder(t *testing.T) {
	r := rand.New(rand.NewSource(32))
	out, moved := 0, 0
	for _, f := range fouls(500, 32) {
		if r.Intn(2) == 0 {
			addLook(r, &f)
		}
		g := copied(f)
		r.Shuffle(len(g.Cases), func(i, j int) { g.Cases[i], g.Cases[j] = g.Cases[j], g.Cases[i] })
		r.Shuffle(len(g.Farm.Looks), func(i, j int) { g.Farm.Looks[i], g.Farm.Looks[j] = g.Farm.Looks[j], g.Farm.Looks[i] })
		if !same(f, g) {
			moved++
		}
		ask := asked{truth: choices(f)[0], bed: r.Intn(len(f.Farm.Beds)), hour: r.Intn(f.Last + 1)}
		// First and Leave return indexes, which may differ; their errors and the length of the list may not.
		a, b := answers(f, ask), answers(g, ask)
		for i := range a {
			indexes := a[i].name == "First" || a[i].name == "Leave"
			if a[i].e != b[i].e || !indexes && !slices.Equal(a[i].numbers, b[i].numbers) || a[i].name == "Leave" && len(a[i].numbers) != len(b[i].numbers) {
				t.Fatalf("%v of %v; in another order: %v", a[i], f, b[i])
			}
			if a[i].name == "Leave" && len(a[i].numbers) > 0 {
				out++
			}
		}
	}
	if out < 60 || moved < 200 {
		t.Errorf("only %d fouls have cases to leave out, %d are in another order", out, moved)
	}
}
