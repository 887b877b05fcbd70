package bunch_test

import (
	"maps"
	"math/rand"
	"slices"
	"testing"

	"watercress/api"
	"watercress/bunch"
)

func play(t *testing.T, d bunch.Day, tr bunch.Truth) bunch.Tally {
	t.Helper()
	y, e := bunch.Play(d, tr)
	if e != api.OK || len(y.Bunches) != len(d.Women) || len(y.Left) != len(d.Women) {
		t.Fatalf("Play of %v, %v: %v, %v", d, tr, y, e)
	}
	return y
}

func leave(t *testing.T, d bunch.Day) []int {
	t.Helper()
	l, e := bunch.Leave(d)
	if e != api.OK {
		t.Fatalf("Leave of %v: %v, %v", d, l, e)
	}
	return l
}

func inside(inner, outer bunch.Range) bool { return outer.Lo <= inner.Lo && inner.Hi <= outer.Hi }

// allInside reports whether no range of the one list is wider than that of the other.
func allInside(inner, outer []bunch.Range) bool {
	return len(inner) == len(outer) && !slices.ContainsFunc(firsts(inner), func(i int) bool { return !inside(inner[i], outer[i]) })
}

func firsts(l []bunch.Range) []int {
	var all []int
	for i := range l {
		all = append(all, i)
	}
	return all
}

// asked is a woman and a number.
type asked struct{ woman, number int }

// verdicts are what Thicker says of each woman and each number that is not far from her feel.
func verdicts(d bunch.Day) map[asked]int {
	all := map[asked]int{}
	for woman, r := range d.Women {
		for number := r.Lo - 1; number <= min(r.Hi+1, api.MaxBunchFeel); number++ {
			all[asked{woman, number}], _ = bunch.Thicker(d, woman, number)
		}
	}
	return all
}

func hasTruth(d bunch.Day) bool {
	_, e := bunch.Bounds(d)
	return e == api.OK
}

// fact is all that the calls say of a day.
type fact struct {
	ranges        []bunch.Range
	verdicts      map[asked]int
	fewest, leave []int
	first         int
	errors        [3]api.Errno
}

func factOf(t *testing.T, d bunch.Day) fact {
	t.Helper()
	var f fact
	b, e := bunch.Bounds(d)
	f.ranges, f.errors[0] = ranges(b), e
	f.verdicts, f.leave = verdicts(d), leave(t, d)
	f.fewest, f.errors[1] = bunch.Fewest(d)
	f.first, f.errors[2] = bunch.First(d)
	return f
}

func (f fact) is(g fact) bool {
	return slices.Equal(f.ranges, g.ranges) && maps.Equal(f.verdicts, g.verdicts) && slices.Equal(f.fewest, g.fewest) && slices.Equal(f.leave, g.leave) && f.first == g.first && f.errors == g.errors
}

func TestP5_6_NothingIsLost(t *testing.T) {
	left := 0
	for _, d := range days(400, 16) {
		for _, tr := range choices(d) {
			y := play(t, d, tr)
			all := 0
			for woman, feel := range tr.Feels {
				stems := 0
				for i, l := range d.Lots {
					if l.Woman == woman {
						stems += tr.Stems[i]
					}
				}
				if stems != y.Bunches[woman]*feel+y.Left[woman] || y.Left[woman] < 0 || y.Left[woman] >= feel || y.Bunches[woman] < 0 {
					t.Fatalf("Play of %v, %v: %v, but the woman %d has %d stems", d, tr, y, woman, stems)
				}
				all += y.Bunches[woman]
			}
			if all != y.Hands*d.Hand+y.Loose || y.Loose < 0 || y.Loose >= d.Hand || y.Hands != y.Flats*d.Flat+y.Spare || y.Spare < 0 || y.Spare >= d.Flat || y.Flats < 0 {
				t.Fatalf("Play of %v, %v: %v", d, tr, y)
			}
			if y.Loose > 0 && y.Spare > 0 {
				left++
			}
		}
	}
	if left < 500 {
		t.Errorf("only in %d truths there are loose bunches and spare hands", left)
	}
}

func TestP5_7_InEachTruth(t *testing.T) {
	for _, d := range days(300, 17) {
		b, e := bunch.Bounds(d)
		if out := leave(t, d); (len(out) == 0) != (e == api.OK) {
			t.Fatalf("Leave of %v: %v, but Bounds: %v", d, out, e)
		}
		all := ranges(b)
		reached := make([][2]bool, len(all))
		verdict := verdicts(d)
		many := 0
		for _, tr := range choices(d) {
			if !bunch.ProveTruth(d, tr) {
				continue
			}
			many++
			for i, n := range append(slices.Clone(tr.Feels), numbers(play(t, d, tr))...) {
				if e != api.OK || !has(all[i], n) {
					t.Fatalf("Bounds of %v: %v, %v, but %d of %v", d, b, e, n, tr)
				}
				reached[i][0] = reached[i][0] || n == all[i].Lo
				reached[i][1] = reached[i][1] || n == all[i].Hi
			}
			for a, v := range verdict {
				if is := tr.Feels[a.woman] > a.number; v == bunch.Always && !is || v == bunch.Never && is {
					t.Fatalf("Thicker of %v, %v: %d, but %v", d, a, v, tr)
				}
			}
		}
		if (many > 0) != (e == api.OK) {
			t.Fatalf("Bounds of %v, which has %d truths: %v, %v", d, many, b, e)
		}
		if e == api.OK && slices.ContainsFunc(reached, func(ends [2]bool) bool { return ends != [2]bool{true, true} }) {
			t.Fatalf("Bounds of %v: %v, but not all ends are reached: %v", d, b, reached)
		}
	}
}

func TestP5_8_Thicker(t *testing.T) {
	fewer := 0
	for _, d := range days(250, 18) {
		for _, tr := range choices(d) {
			was := play(t, d, tr)
			for woman := range d.Women {
				if tr.Feels[woman] == d.Women[woman].Hi {
					continue
				}
				g := truth(slices.Clone(tr.Feels), tr.Stems...)
				g.Feels[woman]++
				is := play(t, d, g)
				if is.Bunches[woman] > was.Bunches[woman] || is.Hands > was.Hands || is.Flats > was.Flats {
					t.Fatalf("Play of %v, %v: %v; with a greater feel of the woman %d: %v", d, tr, was, woman, is)
				}
				if is.Bunches[woman] < was.Bunches[woman] && is.Hands < was.Hands && is.Flats < was.Flats {
					fewer++
				}
			}
		}
	}
	if fewer < 200 {
		t.Errorf("a greater feel makes a difference only %d times", fewer)
	}
}

func TestP5_8_MoreStems(t *testing.T) {
	more := 0
	for _, d := range days(500, 19) {
		for _, tr := range choices(d) {
			was := play(t, d, tr)
			for i, l := range d.Lots {
				if tr.Stems[i] == l.Stems.Hi {
					continue
				}
				g := truth(tr.Feels, slices.Clone(tr.Stems)...)
				g.Stems[i]++
				is := play(t, d, g)
				if is.Bunches[l.Woman] < was.Bunches[l.Woman] || is.Hands < was.Hands || is.Flats < was.Flats {
					t.Fatalf("Play of %v, %v: %v; with more stems of the lot %d: %v", d, tr, was, i, is)
				}
				if is.Bunches[l.Woman] > was.Bunches[l.Woman] && is.Hands > was.Hands && is.Flats > was.Flats {
					more++
				}
			}
		}
	}
	if more < 50 {
		t.Errorf("more stems make a difference only %d times", more)
	}
}

func TestP5_9_TwoLotsAreAsOne(t *testing.T) {
	many := 0
	for _, d := range days(1500, 20) {
		for i, a := range d.Lots {
			for j, b := range d.Lots {
				if i == j || a.Woman != b.Woman || a.Stems.Lo != a.Stems.Hi || b.Stems.Lo != b.Stems.Hi {
					continue
				}
				g := copied(d)
				g.Lots[i] = lot(a.Woman, a.Stems.Lo+b.Stems.Lo, a.Stems.Lo+b.Stems.Lo)
				g.Lots = slices.Delete(g.Lots, j, j+1)
				if was, is := factOf(t, d), factOf(t, g); !was.is(is) {
					t.Fatalf("%v: %v; with one lot for two: %v", d, was, is)
				}
				many++
			}
		}
	}
	if many < 300 {
		t.Errorf("only %d days have two such lots", many)
	}
}

func TestP5_9_AnyOrderOfLots(t *testing.T) {
	r := rand.New(rand.NewSource(21))
	for _, d := range days(500, 21) {
		g := copied(d)
		order := r.Perm(len(d.Lots))
		for i, n := range order {
			g.Lots[i] = d.Lots[n]
		}
		if was, is := factOf(t, d), factOf(t, g); !was.is(is) {
			t.Fatalf("%v: %v; with the lots in another order: %v", d, was, is)
		}
		for _, tr := range choices(d)[:1] {
			moved := truth(tr.Feels)
			for _, n := range order {
				moved.Stems = append(moved.Stems, tr.Stems[n])
			}
			if was, is := play(t, d, tr), play(t, g, moved); !slices.Equal(numbers(was), numbers(is)) {
				t.Fatalf("Play of %v, %v: %v; with the lots in another order: %v", d, tr, was, is)
			}
		}
	}
}

func TestP5_10_OneMoreCount(t *testing.T) {
	r := rand.New(rand.NewSource(22))
	lost, narrower, shorter := 0, 0, 0
	for _, d := range days(1500, 22) {
		if len(d.Counts) == api.MaxBunchCounts {
			continue
		}
		own := choices(d)
		more := copied(d)
		more.Counts = slices.Insert(more.Counts, r.Intn(len(d.Counts)+1), anyCount(r, d, own[r.Intn(len(own))], r.Intn(2) == 0))
		was, is := factOf(t, d), factOf(t, more)
		if len(is.leave) < len(was.leave) || len(is.leave) > len(was.leave)+1 {
			t.Fatalf("Leave of %v: %v; of %v: %v", d, was.leave, more, is.leave)
		}
		if len(is.leave) > 0 {
			lost++
			continue
		}
		if !allInside(is.ranges, was.ranges) {
			t.Fatalf("Bounds of %v: %v; of %v: %v", d, was.ranges, more, is.ranges)
		}
		for a, v := range was.verdicts {
			if v != bunch.Perhaps && is.verdicts[a] != v {
				t.Fatalf("Thicker of %v: %v; of %v: %v", d, was.verdicts, more, is.verdicts)
			}
		}
		if was.errors[1] == api.OK && (is.errors[1] != api.OK || len(is.fewest) > len(was.fewest)) {
			t.Fatalf("Fewest of %v: %v; of %v: %v, %v", d, was.fewest, more, is.fewest, is.errors[1])
		}
		if !slices.Equal(is.ranges, was.ranges) {
			narrower++
		}
		if len(is.fewest) < len(was.fewest) {
			shorter++
		}
	}
	if lost < 300 || narrower < 100 || shorter < 20 {
		t.Errorf("only %d days have no truth, %d narrower bounds, %d fewer women", lost, narrower, shorter)
	}
}

// wider are the days with one wider range each, which are valid.
func wider(d bunch.Day) []bunch.Day {
	var all []bunch.Day
	add := func(of func(*bunch.Day) *bunch.Range) {
		lower, higher := copied(d), copied(d)
		of(&lower).Lo--
		of(&higher).Hi++
		for _, g := range []bunch.Day{lower, higher} {
			if bunch.CheckDay(g) == api.OK {
				all = append(all, g)
			}
		}
	}
	for i := range d.Women {
		add(func(g *bunch.Day) *bunch.Range { return &g.Women[i] })
	}
	for i := range d.Lots {
		add(func(g *bunch.Day) *bunch.Range { return &g.Lots[i].Stems })
	}
	for i := range d.Counts {
		add(func(g *bunch.Day) *bunch.Range { return &g.Counts[i].Number })
	}
	return all
}

func TestP5_11_Wider(t *testing.T) {
	fewer, wide := 0, 0
	for _, d := range days(250, 23) {
		b, e := bunch.Bounds(d)
		was := leave(t, d)
		for _, g := range wider(d) {
			is := leave(t, g)
			if len(is) > len(was) {
				t.Fatalf("Leave of %v: %v; of %v: %v", d, was, g, is)
			}
			if len(is) < len(was) {
				fewer++
			}
			if e != api.OK {
				continue
			}
			c, f := bunch.Bounds(g)
			if f != api.OK || !allInside(ranges(b), ranges(c)) {
				t.Fatalf("Bounds of %v: %v; of %v: %v, %v", d, b, g, c, f)
			}
			if !slices.Equal(ranges(b), ranges(c)) {
				wide++
			}
		}
	}
	if fewer < 50 || wide < 300 {
		t.Errorf("only %d days have fewer counts to leave out, %d wider bounds", fewer, wide)
	}
}

func TestP5_12_Settled(t *testing.T) {
	settled := 0
	for _, d := range days(600, 24) {
		who, e := bunch.Fewest(d)
		if e != api.OK {
			continue
		}
		for _, tr := range choices(d) {
			if !bunch.ProveTruth(d, tr) {
				continue
			}
			g := copied(d)
			for _, woman := range who {
				g.Women[woman] = to(tr.Feels[woman], tr.Feels[woman])
			}
			y := play(t, d, tr)
			if b, e := bunch.Bounds(g); b.Flats != to(y.Flats, y.Flats) || e != api.OK {
				t.Fatalf("Fewest of %v: %v, but with their feels of %v the flats are %v, %v", d, who, tr, b.Flats, e)
			}
		}
		if len(who) > 0 {
			settled++
		}
	}
	if settled < 50 {
		t.Errorf("only in %d days women have to be known", settled)
	}
}

func TestP5_12_StemsThatAreKnown(t *testing.T) {
	many := 0
	for _, d := range days(600, 25) {
		for i := range d.Lots {
			d.Lots[i].Stems.Hi = d.Lots[i].Stems.Lo
		}
		l, e := bunch.Fewest(d)
		if want := hasTruth(d); e == api.ErrShort || want != (e == api.OK) {
			t.Fatalf("Fewest of %v: %v, %v", d, l, e)
		}
		if e == api.OK {
			many++
		}
	}
	if many < 200 {
		t.Errorf("only %d days have a truth", many)
	}
}

// tellFlats reports whether no two feels of these women in truths of the day go with different flats; it asks Bounds.
func tellFlats(d bunch.Day, who []int) bool {
	for _, tr := range choices(d) {
		if !bunch.ProveTruth(d, tr) {
			continue
		}
		g := copied(d)
		for _, woman := range who {
			g.Women[woman] = to(tr.Feels[woman], tr.Feels[woman])
		}
		if b, e := bunch.Bounds(g); e != api.OK || b.Flats.Lo != b.Flats.Hi {
			return false
		}
	}
	return true
}

func TestP5_12_NoShorterListSettles(t *testing.T) {
	several, none := 0, 0
	for _, d := range days(600, 26) {
		who, e := bunch.Fewest(d)
		if e != api.OK && e != api.ErrShort {
			continue
		}
		for _, l := range allLists(len(d.Women)) {
			if e == api.OK && slices.Equal(l, who) {
				break
			}
			if tellFlats(d, l) {
				t.Fatalf("Fewest of %v: %v, %v, but %v settle the flats", d, who, e, l)
			}
		}
		switch {
		case e == api.ErrShort:
			none++
		case len(who) > 1:
			several++
		}
	}
	if several < 5 || none < 20 {
		t.Errorf("only in %d days several women have to be known, in %d all are not enough", several, none)
	}
}

func TestP5_13_First(t *testing.T) {
	wrong, late := 0, 0
	for _, d := range days(800, 27) {
		n, e := bunch.First(d)
		if e == api.ErrNone {
			if n != 0 || !hasTruth(d) {
				t.Fatalf("First of %v: %d, %v", d, n, e)
			}
			continue
		}
		wrong++
		if e != api.OK || n < 0 || n >= len(d.Counts) {
			t.Fatalf("First of %v: %d, %v", d, n, e)
		}
		if n > 1 {
			late++
		}
		before, with := copied(d), copied(d)
		before.Counts, with.Counts = d.Counts[:n], d.Counts[:n+1]
		if b, e := bunch.Bounds(before); e != api.OK || len(truths(before)) == 0 {
			t.Fatalf("Bounds of %v with the counts before the first wrong one: %v, %v", d, b, e)
		}
		if b, e := bunch.Bounds(with); e != api.ErrFalse || len(truths(with)) > 0 {
			t.Fatalf("Bounds of %v with the first wrong count: %v, %v", d, b, e)
		}
	}
	if wrong < 200 || late < 40 {
		t.Errorf("only %d days have a wrong count, %d a late one", wrong, late)
	}
}

func TestP5_14_LeftOut(t *testing.T) {
	several := 0
	for _, d := range days(800, 28) {
		out := leave(t, d)
		for _, l := range allLists(len(d.Counts)) {
			if slices.Equal(l, out) {
				break
			}
			if b, e := bunch.Bounds(without(d, l)); e != api.ErrFalse {
				t.Fatalf("Leave of %v: %v, but without %v: %v, %v", d, out, l, b, e)
			}
		}
		if b, e := bunch.Bounds(without(d, out)); e != api.OK {
			t.Fatalf("Leave of %v: %v, but without these: %v, %v", d, out, b, e)
		}
		if len(out) > 1 {
			several++
		}
	}
	if several < 50 {
		t.Errorf("in only %d days several counts have to be left out", several)
	}
}

func TestP5_15_Number(t *testing.T) {
	seen := map[int]int{}
	for _, d := range days(300, 29) {
		if !hasTruth(d) {
			continue
		}
		for woman := range d.Women {
			was := bunch.Always
			for number := range api.MaxBunchFeel + 1 {
				v, e := bunch.Thicker(d, woman, number)
				// Always comes first, then Perhaps, and Never last.
				ok := v == bunch.Always && was == bunch.Always || v == bunch.Perhaps && was != bunch.Never || v == bunch.Never
				if !ok || e != api.OK {
					t.Fatalf("Thicker of %v, %d, %d: %d, %v, after %d", d, woman, number, v, e, was)
				}
				was = v
				seen[v]++
			}
			if was != bunch.Never {
				t.Fatalf("Thicker of %v, %d than the greatest number: %d", d, woman, was)
			}
		}
	}
	for _, v := range list(bunch.Always, bunch.Never, bunch.Perhaps) {
		if seen[v] < 100 {
			t.Errorf("not enough of each kind: %v", seen)
		}
	}
}

func TestP7_AnyOrderOfCounts(t *testing.T) {
	r := rand.New(rand.NewSource(30))
	for _, d := range days(400, 30) {
		g := copied(d)
		r.Shuffle(len(g.Counts), func(i, j int) { g.Counts[i], g.Counts[j] = g.Counts[j], g.Counts[i] })
		was, is := factOf(t, d), factOf(t, g)
		if len(was.leave) != len(is.leave) {
			t.Fatalf("Leave of %v: %v; in another order: %v", d, was.leave, is.leave)
		}
		if !slices.Equal(was.ranges, is.ranges) || !maps.Equal(was.verdicts, is.verdicts) || !slices.Equal(was.fewest, is.fewest) || was.errors != is.errors {
			t.Fatalf("%v: %v; in another order: %v", d, was, is)
		}
	}
}
