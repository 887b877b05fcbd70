package deed_test

import (
	"math/rand"
	"slices"
	"testing"

	"watercress/api"
	"watercress/deed"
)

func play(t *testing.T, d deed.Deed, tr deed.Truth) deed.Tally {
	t.Helper()
	y, e := deed.Play(d, tr)
	if e != api.OK {
		t.Fatalf("Play of %v, %v: %v, %v", d, tr, y, e)
	}
	return y
}

// owned asks Owner about all minutes.
func owned(t *testing.T, d deed.Deed, tr deed.Truth) []int {
	t.Helper()
	var all []int
	for n := range d.Last {
		farm, e := deed.Owner(d, tr, n)
		if e != api.OK {
			t.Fatalf("Owner of %v, %v, %d: %d, %v", d, tr, n, farm, e)
		}
		all = append(all, farm)
	}
	return all
}

// many counts how often the farm is among the owners.
func many(owners []int, farm int) int {
	n := 0
	for _, o := range owners {
		if o == farm {
			n++
		}
	}
	return n
}

func due(t *testing.T, d deed.Deed) []deed.Range {
	t.Helper()
	l, e := deed.Due(d)
	if len(l) != 3 || e != api.OK {
		t.Fatalf("Due of %v: %v, %v", d, l, e)
	}
	return l
}

// ofFarms has what the call returns about each farm.
func ofFarms[T any](t *testing.T, d deed.Deed, call func(deed.Deed, int) (T, api.Errno)) []T {
	t.Helper()
	var all []T
	for farm := range 3 {
		x, e := call(d, farm)
		if e != api.OK {
			t.Fatalf("about the farm %d of %v: %v, %v", farm, d, x, e)
		}
		all = append(all, x)
	}
	return all
}

func over(t *testing.T, d deed.Deed) []deed.Range {
	t.Helper()
	return ofFarms(t, d, deed.Over)
}

func verdicts(t *testing.T, d deed.Deed) []int {
	t.Helper()
	return ofFarms(t, d, deed.Guilty)
}

func leave(t *testing.T, d deed.Deed) []int {
	t.Helper()
	l, e := deed.Leave(d)
	if e != api.OK {
		t.Fatalf("Leave of %v: %v, %v", d, l, e)
	}
	return l
}

// hasTruth asks Due, which has an error if there is none.
func hasTruth(t *testing.T, d deed.Deed) bool {
	t.Helper()
	l, e := deed.Due(d)
	if e != api.OK && e != api.ErrFalse {
		t.Fatalf("Due of %v: %v, %v", d, l, e)
	}
	return e == api.OK
}

// proved are the truths of the deed, by ProveTruth.
func proved(d deed.Deed) []deed.Truth {
	return slices.DeleteFunc(choices(d), func(tr deed.Truth) bool { return !deed.ProveTruth(d, tr) })
}

// allInside reports whether no range is wider than that of the others.
func allInside(inner, outer []deed.Range) bool {
	for i := range inner {
		if inner[i].Lo < outer[i].Lo || inner[i].Hi > outer[i].Hi {
			return false
		}
	}
	return true
}

func TestP7_6_EachMinuteOnce(t *testing.T) {
	stopped := 0
	for _, d := range deeds(300, 21) {
		for _, tr := range choices(d) {
			y, all := play(t, d, tr), owned(t, d, tr)
			nobody := 0
			for _, s := range tr.Stops {
				nobody += s.Till - s.From
			}
			if y.Due[0]+y.Due[1]+y.Due[2]+nobody != d.Last || many(all, -1) != nobody {
				t.Fatalf("Play of %v, %v: %v, and %d minutes are stopped: %v", d, tr, y, nobody, all)
			}
			for farm := range 3 {
				if y.Due[farm] != many(all, farm) {
					t.Fatalf("Play of %v, %v: %v, but Owner: %v", d, tr, y, all)
				}
			}
			if nobody > 0 && nobody < d.Last {
				stopped++
			}
		}
	}
	if stopped < 1000 {
		t.Errorf("only %d truths have stops", stopped)
	}
}

func TestP7_7_InEachTruth(t *testing.T) {
	seen, none := map[int]int{}, 0
	for _, d := range deeds(500, 22) {
		in := proved(d)
		if len(in) == 0 {
			if hasTruth(t, d) {
				t.Fatalf("%v has no truth, but Due", d)
			}
			none++
			continue
		}
		bounds, kinds := append(due(t, d), over(t, d)...), verdicts(t, d)
		reached := make([][2]bool, len(bounds))
		for _, tr := range in {
			y := play(t, d, tr)
			for i, n := range append(y.Due[:], y.Over[:]...) {
				if !has(bounds[i], n) {
					t.Fatalf("Due, Over of %v: %v, but %v in %v", d, bounds, y, tr)
				}
				reached[i][0] = reached[i][0] || n == bounds[i].Lo
				reached[i][1] = reached[i][1] || n == bounds[i].Hi
			}
			for farm, v := range kinds {
				if is := y.Over[farm] > 0; v == deed.Always && !is || v == deed.Never && is {
					t.Fatalf("Guilty of %v, %d: %d, but %v in %v", d, farm, v, y, tr)
				}
			}
		}
		if slices.ContainsFunc(reached, func(ends [2]bool) bool { return ends != [2]bool{true, true} }) {
			t.Fatalf("Due, Over of %v: %v, but not all ends are reached: %v", d, bounds, reached)
		}
		for farm, v := range kinds {
			seen[v]++
			if r := bounds[3+farm]; v == deed.Perhaps && (r.Lo > 0 || r.Hi == 0) {
				t.Fatalf("Guilty of %v, %d: %d, but Over: %v", d, farm, v, r)
			}
		}
	}
	if seen[deed.Always] < 100 || seen[deed.Never] < 100 || seen[deed.Perhaps] < 30 || none < 100 {
		t.Errorf("not enough of each kind: %v, %d", seen, none)
	}
}

func TestP7_7_NotesThatContradictNothingNeedNotBeLeftOut(t *testing.T) {
	some := 0
	for _, d := range deeds(400, 23) {
		l := leave(t, d)
		for _, tr := range choices(d) {
			// Without all notes that contradict something the truth is one of the deed.
			if wrong := contradicting(d, tr, numbers(d, nil)); len(l) > len(wrong) {
				t.Fatalf("Leave of %v: %v, but in %v only %v contradict something", d, l, tr, wrong)
			}
		}
		if hasTruth(t, d) != (len(l) == 0) {
			t.Fatalf("Leave of %v: %v", d, l)
		}
		if len(l) > 0 {
			some++
		}
	}
	if some < 60 {
		t.Errorf("in only %d deeds there is something to leave out", some)
	}
}

func TestP7_8_NoStop(t *testing.T) {
	r := rand.New(rand.NewSource(24))
	whole := 0
	for _, d := range deeds(300, 24) {
		d = withStops(withNotes(d))
		l, again := due(t, d), due(t, withNotes(d, note(r.Intn(3), 0, 0, d.Last, d.Last)))
		own := owned(t, d, deed.Truth{})
		for farm := range 3 {
			if l[farm] != to(many(own, farm), many(own, farm)) || again[farm] != l[farm] {
				t.Fatalf("Due of %v: %v, and with a note %v, but Owner: %v", d, l, again, own)
			}
		}
		if !slices.Equal(over(t, d), make([]deed.Range, 3)) || !slices.Equal(verdicts(t, d), list(deed.Never, deed.Never, deed.Never)) {
			t.Fatalf("Over of %v: %v", d, over(t, d))
		}
		// The minutes of the turns are those to the next one, or to the end of the cycle.
		var each [3]int
		for i, x := range d.Turns {
			till := d.Cycle
			if i+1 < len(d.Turns) {
				till = d.Turns[i+1].From
			}
			each[x.Farm] += till - x.From
		}
		for from := 0; from+d.Cycle <= d.Last; from += d.Cycle {
			for farm := range 3 {
				if many(own[from:from+d.Cycle], farm) != each[farm] {
					t.Fatalf("Owner of %v: %v, but each cycle has %v", d, own, each)
				}
			}
			whole++
		}
		// Last is a number of whole cycles.
		d.Last = d.Cycle * (1 + r.Intn(4))
		for farm, bounds := range due(t, d) {
			if n := each[farm] * (d.Last / d.Cycle); bounds != to(n, n) {
				t.Fatalf("Due of %v: %v, but each cycle has %v", d, due(t, d), each)
			}
		}
	}
	if whole < 300 {
		t.Errorf("only %d whole cycles", whole)
	}
}

func TestP7_9_Stopped(t *testing.T) {
	later := 0
	for _, d := range deeds(300, 25) {
		open := owned(t, withStops(withNotes(d)), deed.Truth{})
		for _, tr := range choices(d) {
			own := owned(t, d, tr)
			for n, farm := range own {
				if is := isStopped(tr, n); is != (farm < 0) {
					t.Fatalf("Owner of %v, %v, %d: %d", d, tr, n, farm)
				} else if is {
					continue
				}
				if want, e := deed.Turning(d, clock(tr, n)); farm != want || e != api.OK {
					t.Fatalf("Owner of %v, %v, %d: %d; Turning: %d, %v", d, tr, n, farm, want, e)
				}
				if clock(tr, n) < n && farm != open[n] {
					later++
				}
			}
			// Without the minutes in which the stream is stopped the farms follow each other as if it never were.
			flowing := slices.DeleteFunc(own, func(farm int) bool { return farm < 0 })
			if !slices.Equal(flowing, open[:len(flowing)]) {
				t.Fatalf("Owner of %v, %v: %v, and without stops: %v", d, tr, flowing, open)
			}
		}
	}
	if later < 1000 {
		t.Errorf("a stop makes a difference only for %d minutes", later)
	}
}

// known is the deed in which all that is known is what this truth has.
func known(d deed.Deed, tr deed.Truth) deed.Deed {
	d = copied(d)
	for i, x := range tr.Stops {
		d.Stops[i] = span(x.From, x.From, x.Till, x.Till)
	}
	for i, x := range tr.Notes {
		d.Notes[i].Span = span(x.From, x.From, x.Till, x.Till)
	}
	return d
}

func TestP7_10_WhenInEachTruth(t *testing.T) {
	r := rand.New(rand.NewSource(26))
	had, wide := 0, 0
	for _, d := range deeds(300, 26) {
		in := proved(d)
		for range 6 {
			farm, from, count := r.Intn(3), r.Intn(d.Last+1), min(r.Intn(d.Last+1), r.Intn(8))
			bounds, e := deed.When(d, farm, from, count)
			var all []int
			short := false
			for _, tr := range in {
				own := owned(t, d, tr)
				w, f := deed.When(known(d, tr), farm, from, count)
				if f == api.ErrShort && many(own[from:], farm) < count {
					short = true
					continue
				}
				if f != api.OK || w.Lo != w.Hi || w.Lo < from || many(own[from:w.Lo], farm) != count || count == 0 && w.Lo > from {
					t.Fatalf("When of %v, %d, %d, %d: %v, %v, but %v", known(d, tr), farm, from, count, w, f, own)
				}
				if count > 0 && many(own[from:w.Lo-1], farm) != count-1 {
					t.Fatalf("When of %v, %d, %d, %d: %v, but not before: %v", known(d, tr), farm, from, count, w, own)
				}
				all = append(all, w.Lo)
			}
			switch {
			case len(in) == 0:
				if e != api.ErrFalse {
					t.Fatalf("When of %v: %v, %v", d, bounds, e)
				}
			case short:
				if e != api.ErrShort {
					t.Fatalf("When of %v, %d, %d, %d: %v, %v", d, farm, from, count, bounds, e)
				}
			case bounds != ends(all) || e != api.OK:
				t.Fatalf("When of %v, %d, %d, %d: %v, %v, not %v", d, farm, from, count, bounds, e, ends(all))
			default:
				had++
				if bounds.Lo < bounds.Hi {
					wide++
				}
			}
		}
	}
	if had < 300 || wide < 30 {
		t.Errorf("only %d times they are had, %d times it is not known when", had, wide)
	}
}

// waits asks When from each minute on, for up to six minutes; one that is never had is later than all.
func waits(t *testing.T, d deed.Deed, farm int) [][]deed.Range {
	t.Helper()
	var all [][]deed.Range
	for from := range d.Last + 1 {
		var l []deed.Range
		for count := range 7 {
			w, e := deed.When(d, farm, from, count)
			if e == api.ErrShort {
				w = to(d.Last+1, d.Last+1)
			} else if e != api.OK {
				t.Fatalf("When of %v, %d, %d, %d: %v, %v", d, farm, from, count, w, e)
			}
			l = append(l, w)
		}
		all = append(all, l)
	}
	return all
}

func TestP7_10_MoreMinutesAndLater(t *testing.T) {
	compared := 0
	for _, d := range deeds(80, 27) {
		d.Last = min(d.Last+20, 40)
		if deed.CheckDeed(d) != api.OK || !hasTruth(t, d) {
			continue
		}
		for farm := range 3 {
			all := waits(t, d, farm)
			for from := range d.Last {
				for count := range 6 {
					w, more, later := all[from][count], all[from][count+1], all[from+1][count]
					if more.Lo < w.Lo || more.Hi < w.Hi || later.Lo < w.Lo || later.Hi < w.Hi {
						t.Fatalf("When of %v, %d, %d, %d: %v; of one more: %v; from one later on: %v", d, farm, from, count, w, more, later)
					}
					if more.Lo <= d.Last && later.Lo <= d.Last && count > 0 {
						compared++
					}
				}
			}
		}
	}
	if compared < 3000 {
		t.Errorf("only %d are compared", compared)
	}
}

// isWithin reports whether all minutes of the farm's notes belong to it in each of these truths, and how many there are.
func isWithin(t *testing.T, d deed.Deed, in []deed.Truth, farm int) (bool, int) {
	t.Helper()
	n := 0
	for _, tr := range in {
		own := owned(t, d, tr)
		for i, x := range tr.Notes {
			if d.Notes[i].Farm != farm {
				continue
			}
			for _, minute := range minutes(x) {
				if own[minute] != farm {
					return false, n
				}
				n++
			}
		}
	}
	return true, n
}

func TestP7_11_OwnTurn(t *testing.T) {
	r := rand.New(rand.NewSource(28))
	just, others := 0, 0
	for range 600 {
		d := bareDeed(r)
		// Notes in the turns of one truth.
		all := choices(d)
		own := owned(t, d, all[r.Intn(len(all))])
		for range 3 {
			from := r.Intn(d.Last)
			till := from
			for till < d.Last && own[from] >= 0 && own[till] == own[from] {
				till++
			}
			if d.Notes = append(d.Notes, note(max(0, own[from]), from, from, till, till)); !hasTruth(t, d) {
				d.Notes = d.Notes[:len(d.Notes)-1]
			}
		}
		for farm, v := range verdicts(t, d) {
			is, n := isWithin(t, d, proved(d), farm)
			if is != (v == deed.Never) {
				t.Fatalf("Guilty of %v, %d: %d", d, farm, v)
			}
			if is && n > 0 {
				just++
			} else if !is {
				others++
			}
		}
	}
	if just < 200 || others < 30 {
		t.Errorf("only %d farms keep to their turns, %d do not", just, others)
	}
}

func TestP7_12_OneMoreNote(t *testing.T) {
	r := rand.New(rand.NewSource(29))
	seen := map[string]int{}
	for _, d := range deeds(800, 29) {
		if len(d.Notes) == api.MaxDeedNotes {
			continue
		}
		what := anyNote(r, d, r.Intn(2) == 0)
		more := withNotes(d, slices.Insert(slices.Clone(d.Notes), r.Intn(len(d.Notes)+1), what)...)
		was, is := leave(t, d), leave(t, more)
		if len(is) < len(was) || len(is) > len(was)+1 {
			t.Fatalf("Leave of %v: %v; of %v: %v", d, was, more, is)
		}
		if len(is) > len(was) {
			seen["one more to leave out"]++
		} else if len(is) > 0 {
			seen["none more to leave out"]++
		}
		if len(is) > 0 {
			continue
		}
		a, b := due(t, d), due(t, more)
		if !allInside(b, a) {
			t.Fatalf("Due of %v: %v; of %v: %v", d, a, more, b)
		}
		if !slices.Equal(a, b) {
			seen["narrower"]++
		}
		after := verdicts(t, more)
		for farm, v := range verdicts(t, d) {
			if farm == what.Farm {
				continue
			}
			if v != deed.Perhaps && after[farm] != v {
				t.Fatalf("Guilty of %v, %d: %d; of %v: %d", d, farm, v, more, after[farm])
			}
			if v == deed.Perhaps && after[farm] != v {
				seen["surer"]++
			}
			if v == deed.Always {
				seen["always"]++
			}
		}
	}
	for kind, n := range map[string]int{"one more to leave out": 100, "none more to leave out": 20, "narrower": 30, "surer": 3, "always": 50} {
		if seen[kind] < n {
			t.Errorf("not enough of each kind: %v", seen)
		}
	}
}

// wider are the deeds with one wider range each, which are valid.
func wider(d deed.Deed) []deed.Deed {
	var all []deed.Deed
	add := func(change func(d *deed.Deed)) {
		g := copied(d)
		change(&g)
		if deed.CheckDeed(g) == api.OK {
			all = append(all, g)
		}
	}
	for i := range d.Stops {
		add(func(d *deed.Deed) { d.Stops[i].From.Lo-- })
		add(func(d *deed.Deed) { d.Stops[i].From.Hi++ })
		add(func(d *deed.Deed) { d.Stops[i].Till.Lo-- })
		add(func(d *deed.Deed) { d.Stops[i].Till.Hi++ })
	}
	for i := range d.Notes {
		add(func(d *deed.Deed) { d.Notes[i].Span.From.Lo-- })
		add(func(d *deed.Deed) { d.Notes[i].Span.From.Hi++ })
		add(func(d *deed.Deed) { d.Notes[i].Span.Till.Lo-- })
		add(func(d *deed.Deed) { d.Notes[i].Span.Till.Hi++ })
	}
	return all
}

func TestP7_13_Wider(t *testing.T) {
	fewer, wide := 0, 0
	for _, d := range deeds(300, 30) {
		out := leave(t, d)
		for _, g := range wider(d) {
			if l := leave(t, g); len(l) > len(out) {
				t.Fatalf("Leave of %v: %v; of %v: %v", d, out, g, l)
			} else if len(l) < len(out) {
				fewer++
			}
			if len(out) > 0 {
				continue
			}
			a, b := due(t, d), due(t, g)
			if !allInside(a, b) {
				t.Fatalf("Due of %v: %v; of %v: %v", d, a, g, b)
			}
			if !slices.Equal(a, b) {
				wide++
			}
		}
	}
	if fewer < 30 || wide < 100 {
		t.Errorf("only %d wider deeds have fewer notes to leave out, %d wider bounds", fewer, wide)
	}
}

func TestP7_14_LeftOut(t *testing.T) {
	several := 0
	for _, d := range deeds(600, 31) {
		out := leave(t, d)
		// The lists that are shorter, or as long and lexicographically before it, come first.
		for _, l := range allLists(len(d.Notes)) {
			if slices.Equal(l, out) {
				break
			}
			if hasTruth(t, without(d, l)) {
				t.Fatalf("Leave of %v: %v, but without %v there is a truth", d, out, l)
			}
		}
		if !hasTruth(t, without(d, out)) {
			t.Fatalf("Leave of %v: %v, but without these there is no truth", d, out)
		}
		if len(out) > 1 {
			several++
		}
	}
	if several < 40 {
		t.Errorf("in only %d deeds several notes have to be left out", several)
	}
}

func TestP7_15_First(t *testing.T) {
	wrong, late := 0, 0
	for _, d := range deeds(600, 32) {
		n, e := deed.First(d)
		if e == api.ErrNone {
			if n != 0 || !hasTruth(t, d) {
				t.Fatalf("First of %v: %d, %v, but there is no truth", d, n, e)
			}
			continue
		}
		if e != api.OK || n < 0 || n >= len(d.Notes) {
			t.Fatalf("First of %v: %d, %v", d, n, e)
		}
		if !hasTruth(t, withNotes(d, d.Notes[:n]...)) {
			t.Fatalf("First of %v: %d, but without the notes from this one on there is no truth", d, n)
		}
		if hasTruth(t, withNotes(d, d.Notes[:n+1]...)) {
			t.Fatalf("First of %v: %d, but without those after it there is a truth", d, n)
		}
		wrong++
		if n > 1 {
			late++
		}
	}
	if wrong < 100 || late < 30 {
		t.Errorf("only %d deeds have a wrong note, %d a late one", wrong, late)
	}
}

func TestP7_16_AnyOrder(t *testing.T) {
	r := rand.New(rand.NewSource(33))
	none := 0
	for _, d := range deeds(500, 33) {
		g := copied(d)
		r.Shuffle(len(g.Notes), func(i, j int) { g.Notes[i], g.Notes[j] = g.Notes[j], g.Notes[i] })
		if !hasTruth(t, d) {
			none++
		}
		for farm := range 3 {
			ask := asked{farm: farm, from: r.Intn(d.Last), count: r.Intn(6)}
			ask.clock = ask.from
			// First and Leave return indexes, which may differ; their errors and the length of the list may not.
			a, b := answers(d, ask), answers(g, ask)
			for i := range a {
				indexes := a[i].name == "First" || a[i].name == "Leave"
				if a[i].e != b[i].e || !indexes && !slices.Equal(a[i].numbers, b[i].numbers) || a[i].name == "Leave" && len(a[i].numbers) != len(b[i].numbers) {
					t.Fatalf("%v of %v; in another order: %v", a[i], d, b[i])
				}
			}
		}
	}
	if none < 60 {
		t.Errorf("only %d deeds have no truth", none)
	}
}
