package deed_test

import (
	"math/rand"
	"slices"

	"watercress/api"
	"watercress/deed"
)

// The oracle says what the chapter's definitions say, minute by minute, and shares no code with the package.

func list(l ...int) []int { return l }

func to(low, high int) deed.Range { return deed.Range{Lo: low, Hi: high} }

func has(r deed.Range, n int) bool { return r.Lo <= n && n <= r.Hi }

func span(a, b, c, d int) deed.Span { return deed.Span{From: to(a, b), Till: to(c, d)} }

func note(farm, a, b, c, d int) deed.Note { return deed.Note{Farm: farm, Span: span(a, b, c, d)} }

// notes are many that are alike.
func notes(many int, what deed.Note) []deed.Note { return slices.Repeat([]deed.Note{what}, many) }

// turns are of these Froms and farms.
func turns(l ...int) []deed.Turn {
	var all []deed.Turn
	for i := 0; i < len(l); i += 2 {
		all = append(all, deed.Turn{From: l[i], Farm: l[i+1]})
	}
	return all
}

// times are of these Froms and Tills.
func times(l ...int) []deed.Time {
	var all []deed.Time
	for i := 0; i < len(l); i += 2 {
		all = append(all, deed.Time{From: l[i], Till: l[i+1]})
	}
	return all
}

// minutes are those that the time has.
func minutes(t deed.Time) []int {
	var all []int
	for n := t.From; n <= t.Till-1; n++ {
		all = append(all, n)
	}
	return all
}

func overlap(a, b deed.Time) bool {
	return slices.ContainsFunc(minutes(a), func(n int) bool { return slices.Contains(minutes(b), n) })
}

func isStopped(t deed.Truth, minute int) bool {
	return slices.ContainsFunc(t.Stops, func(s deed.Time) bool { return slices.Contains(minutes(s), minute) })
}

// clock counts the minutes before this one in which the stream is stopped.
func clock(t deed.Truth, minute int) int {
	shown := minute
	for n := range minute {
		if isStopped(t, n) {
			shown--
		}
	}
	return shown
}

// turning goes through the turns from the last one to the first.
func turning(d deed.Deed, clock int) int {
	for i := len(d.Turns) - 1; i > 0; i-- {
		if d.Turns[i].From <= clock%d.Cycle {
			return d.Turns[i].Farm
		}
	}
	return d.Turns[0].Farm
}

func owner(d deed.Deed, t deed.Truth, minute int) int {
	if isStopped(t, minute) {
		return -1
	}
	return turning(d, clock(t, minute))
}

// owners are those of all minutes.
func owners(d deed.Deed, t deed.Truth) []int {
	var all []int
	for n := range d.Last {
		all = append(all, owner(d, t, n))
	}
	return all
}

func tally(d deed.Deed, t deed.Truth) deed.Tally {
	var y deed.Tally
	all := owners(d, t)
	for _, farm := range all {
		if farm >= 0 {
			y.Due[farm]++
		}
	}
	for i, took := range t.Notes {
		for _, minute := range minutes(took) {
			if farm := d.Notes[i].Farm; all[minute] != farm {
				y.Over[farm]++
			}
		}
	}
	return y
}

// tallies are those of these truths.
func tallies(d deed.Deed, in []deed.Truth) []deed.Tally {
	var all []deed.Tally
	for _, t := range in {
		all = append(all, tally(d, t))
	}
	return all
}

// when counts the minutes of the farm among the owners from this one on; it is one more than Last if they are never so many.
func when(owners []int, farm, from, many int) int {
	for m := from; m <= len(owners); m++ {
		had := 0
		for _, o := range owners[from:m] {
			if o == farm {
				had++
			}
		}
		if had >= many {
			return m
		}
	}
	return len(owners) + 1
}

// contradicting are the notes of these that contradict a stop, or another one of them.
func contradicting(d deed.Deed, t deed.Truth, among []int) []int {
	return slices.DeleteFunc(slices.Clone(among), func(n int) bool {
		stopped := slices.ContainsFunc(t.Stops, func(s deed.Time) bool { return overlap(s, t.Notes[n]) })
		return !stopped && !slices.ContainsFunc(among, func(m int) bool {
			return d.Notes[m].Farm != d.Notes[n].Farm && overlap(t.Notes[m], t.Notes[n])
		})
	})
}

// choices are all truths, of the deed or not; they are counted like a number whose digits have different bases.
func choices(d deed.Deed) []deed.Truth {
	var all []deed.Truth
	for n := range sizes(d) {
		rest := n
		next := func(r deed.Range) int {
			digit := rest % (r.Hi - r.Lo + 1)
			rest /= r.Hi - r.Lo + 1
			return r.Lo + digit
		}
		var t deed.Truth
		for _, s := range d.Stops {
			t.Stops = append(t.Stops, times(next(s.From), next(s.Till))...)
		}
		for _, what := range d.Notes {
			t.Notes = append(t.Notes, times(next(what.Span.From), next(what.Span.Till))...)
		}
		all = append(all, t)
	}
	return all
}

func sizes(d deed.Deed) int {
	many := 1
	for _, s := range spans(d) {
		many *= (s.From.Hi - s.From.Lo + 1) * (s.Till.Hi - s.Till.Lo + 1)
	}
	return many
}

func spans(d deed.Deed) []deed.Span {
	all := slices.Clone(d.Stops)
	for _, what := range d.Notes {
		all = append(all, what.Span)
	}
	return all
}

// numbers are those of the notes that are not in the list.
func numbers(d deed.Deed, out []int) []int {
	var all []int
	for n := range d.Notes {
		if !slices.Contains(out, n) {
			all = append(all, n)
		}
	}
	return all
}

// truthsBut are the truths in which nothing contradicts anything, if the notes of the list are left out.
func truthsBut(d deed.Deed, out []int) []deed.Truth {
	return slices.DeleteFunc(choices(d), func(t deed.Truth) bool { return len(contradicting(d, t, numbers(d, out))) > 0 })
}

// truths are those of the deed.
func truths(d deed.Deed) []deed.Truth { return truthsBut(d, nil) }

// ends are the bounds of numbers.
func ends(l []int) deed.Range { return to(slices.Min(l), slices.Max(l)) }

// dueOf are the bounds of the minutes due to each farm.
func dueOf(all []deed.Tally) []deed.Range {
	var bounds []deed.Range
	for farm := range 3 {
		var l []int
		for _, y := range all {
			l = append(l, y.Due[farm])
		}
		bounds = append(bounds, ends(l))
	}
	return bounds
}

// overOf are the farm's minutes over.
func overOf(all []deed.Tally, farm int) []int {
	var l []int
	for _, y := range all {
		l = append(l, y.Over[farm])
	}
	return l
}

// guiltyOf counts in how many truths the minutes over are more than 0.
func guiltyOf(over []int) int {
	many := 0
	for _, n := range over {
		if n > 0 {
			many++
		}
	}
	switch many {
	case len(over):
		return deed.Always
	case 0:
		return deed.Never
	}
	return deed.Perhaps
}

// firstOf tries for each note to leave out those after it; there may be none that is wrong.
func firstOf(d deed.Deed) (int, api.Errno) {
	for n := range d.Notes {
		var after []int
		for m := n + 1; m < len(d.Notes); m++ {
			after = append(after, m)
		}
		if len(truthsBut(d, after)) == 0 {
			return n, api.OK
		}
	}
	return 0, api.ErrNone
}

// leaveOf tries all lists.
func leaveOf(d deed.Deed) []int {
	for _, out := range allLists(len(d.Notes)) {
		if len(truthsBut(d, out)) > 0 {
			return out
		}
	}
	return nil
}

// allLists are all increasing lists of numbers below many, by length, and then lexicographically.
func allLists(many int) [][]int {
	var all [][]int
	for mask := range 1 << many {
		l := []int{}
		for n := range many {
			if mask>>n&1 == 1 {
				l = append(l, n)
			}
		}
		all = append(all, l)
	}
	slices.SortFunc(all, func(a, b []int) int {
		if len(a) != len(b) {
			return len(a) - len(b)
		}
		return slices.Compare(a, b)
	})
	return all
}

// copied has memory of its own.
func copied(d deed.Deed) deed.Deed {
	d.Turns, d.Stops, d.Notes = slices.Clone(d.Turns), slices.Clone(d.Stops), slices.Clone(d.Notes)
	return d
}

func same(a, b deed.Deed) bool {
	return a.Cycle == b.Cycle && a.Last == b.Last && slices.Equal(a.Turns, b.Turns) && slices.Equal(a.Stops, b.Stops) && slices.Equal(a.Notes, b.Notes)
}

func equal(a, b deed.Truth) bool {
	return slices.Equal(a.Stops, b.Stops) && slices.Equal(a.Notes, b.Notes)
}

// withNotes is the deed with these notes instead of its own.
func withNotes(d deed.Deed, l ...deed.Note) deed.Deed {
	d.Notes = l
	return d
}

// without is the deed without the notes of the list.
func without(d deed.Deed, out []int) deed.Deed {
	var l []deed.Note
	for _, n := range numbers(d, out) {
		l = append(l, d.Notes[n])
	}
	return withNotes(d, l...)
}

// deeds are valid, short, and without many truths; every second one has notes that lie anywhere, the others have mostly notes that nothing contradicts in one truth.
func deeds(many int, seed int64) []deed.Deed {
	r := rand.New(rand.NewSource(seed))
	var all []deed.Deed
	for len(all) < many {
		d := bareDeed(r)
		addNotes(r, &d, r.Intn(api.MaxDeedNotes+1), len(all)%2 == 0)
		all = append(all, d)
	}
	return all
}

// bareDeed has no notes.
func bareDeed(r *rand.Rand) deed.Deed {
	d := deed.Deed{Cycle: 1 + r.Intn(25), Last: 1 + r.Intn(45)}
	from := 0
	for len(d.Turns) < api.MaxDeedTurns && from < d.Cycle {
		d.Turns = append(d.Turns, deed.Turn{From: from, Farm: r.Intn(api.MaxDeedFarms)})
		from += 1 + r.Intn(1+d.Cycle/2)
	}
	low := 0
	for range r.Intn(api.MaxDeedStops + 1) {
		s := anySpan(r, d, low+r.Intn(1+min(8, d.Last-low)))
		d.Stops = append(d.Stops, s)
		low = s.Till.Hi
	}
	return d
}

// anySpan begins at this minute or a little later, and keeps the truths of the deed few.
func anySpan(r *rand.Rand, d deed.Deed, low int) deed.Span {
	room := 60 / sizes(d)
	wide := func(low int) deed.Range {
		by := r.Intn(min(3, max(1, room)))
		high := min(d.Last, low+by)
		room /= high - low + 1
		return to(low, high)
	}
	from := wide(low)
	till := wide(min(d.Last, from.Hi+r.Intn(8)))
	return deed.Span{From: from, Till: till}
}

func addNotes(r *rand.Rand, d *deed.Deed, many int, wild bool) {
	for range many {
		d.Notes = append(d.Notes, anyNote(r, *d, wild || r.Intn(6) == 0))
	}
}

// anyNote is, unless it is wild, one of several that leave the deed a truth, if there is one of these.
func anyNote(r *rand.Rand, d deed.Deed, wild bool) deed.Note {
	var what deed.Note
	for range 8 {
		what = deed.Note{Farm: r.Intn(api.MaxDeedFarms), Span: anySpan(r, d, r.Intn(d.Last+1))}
		if wild || len(truths(withNotes(d, append(slices.Clone(d.Notes), what)...))) > 0 {
			break
		}
	}
	return what
}
