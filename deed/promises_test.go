package deed_test

import (
	"math/rand"
	"slices"
	"testing"

	"watercress/api"
	"watercress/deed"
)

// ofChapter is the deed of the chapter's examples, with notes.
func ofChapter(notes ...deed.Note) deed.Deed {
	return deed.Deed{Cycle: 60, Last: 150, Turns: turns(0, 0, 20, 1, 45, 2), Stops: []deed.Span{span(30, 31, 40, 40)}, Notes: notes}
}

// The notes of the chapter's examples: the third one contradicts the second one in each truth, and the first one in none.
func first() deed.Note  { return note(1, 50, 50, 56, 57) }
func second() deed.Note { return note(2, 56, 56, 60, 60) }
func third() deed.Note  { return note(0, 58, 58, 59, 59) }

// ofTruth is a truth of the chapter's deed, whose stop begins at this minute.
func ofTruth(from int, notes ...int) deed.Truth {
	return deed.Truth{Stops: times(from, 40), Notes: times(notes...)}
}

// plain has no stops.
func plain(cycle, last int, l []deed.Turn, notes ...deed.Note) deed.Deed {
	return deed.Deed{Cycle: cycle, Last: last, Turns: l, Notes: notes}
}

// twice is stopped two times, which touch or are apart.
func twice(notes ...deed.Note) deed.Deed {
	return deed.Deed{Cycle: 10, Last: 30, Turns: turns(0, 0, 5, 1), Stops: []deed.Span{span(2, 2, 4, 4), span(4, 5, 9, 9)}, Notes: notes}
}

// noTruth is a deed that has none.
func noTruth() deed.Deed { return ofChapter(first(), second(), third()) }

func TestP7_1_CheckDeed(t *testing.T) {
	for _, d := range []deed.Deed{ofChapter(), ofChapter(first(), second()), noTruth(), twice(), plain(1, 1, turns(0, 2)), plain(1440, 1440, turns(0, 0, 1439, 1))} {
		if e := deed.CheckDeed(d); e != api.OK {
			t.Errorf("CheckDeed of %v: %v", d, e)
		}
	}
	if e := deed.CheckDeed(deed.Deed{}); e != api.ErrArg {
		t.Errorf("CheckDeed of nothing: %v", e)
	}
}

func TestP7_1_Turning(t *testing.T) {
	for _, x := range []struct {
		d           deed.Deed
		clock, want int
	}{
		{ofChapter(), 19, 0}, {ofChapter(), 20, 1}, {ofChapter(), 60, 0}, {ofChapter(), 105, 2},
		{ofChapter(), 0, 0}, {ofChapter(), 44, 1}, {ofChapter(), 45, 2}, {ofChapter(), 59, 2}, {ofChapter(), 79, 0}, {ofChapter(), 80, 1}, {ofChapter(), 119, 2}, {ofChapter(), 120, 0},
		// The clock can be after the last minute.
		{ofChapter(), 151, 1}, {ofChapter(), 1439, 2}, {ofChapter(), 1440, 0}, {plain(7, 1, turns(0, 2, 5, 1)), 1440, 1},
		// A cycle of one minute, and one that is as long as can be.
		{plain(1, 9, turns(0, 2)), 0, 2}, {plain(1, 9, turns(0, 2)), 7, 2}, {plain(1440, 9, turns(0, 2, 1, 0, 1439, 1)), 0, 2}, {plain(1440, 9, turns(0, 2, 1, 0, 1439, 1)), 1438, 0}, {plain(1440, 9, turns(0, 2, 1, 0, 1439, 1)), 1439, 1}, {plain(1440, 9, turns(0, 2, 1, 0, 1439, 1)), 1440, 2},
		// A farm can have several turns, one after the other, too, or none.
		{plain(10, 9, turns(0, 1, 5, 1, 6, 0)), 15, 1}, {plain(10, 9, turns(0, 1, 5, 1, 6, 0)), 16, 0}, {plain(10, 9, turns(0, 1, 5, 1, 6, 0)), 19, 0},
		{plain(8, 9, turns(0, 0, 1, 1, 2, 2, 3, 1, 4, 0, 5, 2, 6, 1, 7, 0)), 13, 2}, {plain(8, 9, turns(0, 0, 1, 1, 2, 2, 3, 1, 4, 0, 5, 2, 6, 1, 7, 0)), 15, 0},
		// Notes are not asked.
		{noTruth(), 105, 2},
	} {
		if f, e := deed.Turning(x.d, x.clock); f != x.want || e != api.OK {
			t.Errorf("Turning of %v, %d: %d, %v, not %d", x.d, x.clock, f, e, x.want)
		}
	}
}

func TestP7_1_Owner(t *testing.T) {
	touching, apart := deed.Truth{Stops: times(2, 4, 4, 9)}, deed.Truth{Stops: times(2, 4, 5, 9)}
	for _, x := range []struct {
		d            deed.Deed
		t            deed.Truth
		minute, want int
	}{
		{ofChapter(), ofTruth(30), 29, 1}, {ofChapter(), ofTruth(30), 30, -1}, {ofChapter(), ofTruth(30), 40, 1}, {ofChapter(), ofTruth(30), 54, 1}, {ofChapter(), ofTruth(30), 55, 2},
		{ofChapter(), ofTruth(30), 0, 0}, {ofChapter(), ofTruth(30), 39, -1}, {ofChapter(), ofTruth(31), 30, 1}, {ofChapter(), ofTruth(31), 31, -1}, {ofChapter(), ofTruth(31), 53, 1}, {ofChapter(), ofTruth(31), 54, 2}, {ofChapter(), ofTruth(30), 149, 0}, {ofChapter(), ofTruth(31), 149, 1},
		{twice(), touching, 1, 0}, {twice(), touching, 2, -1}, {twice(), touching, 4, -1}, {twice(), touching, 8, -1}, {twice(), touching, 9, 0}, {twice(), touching, 11, 0}, {twice(), touching, 12, 1}, {twice(), touching, 16, 1}, {twice(), touching, 17, 0}, {twice(), touching, 29, 0},
		{twice(), apart, 3, -1}, {twice(), apart, 4, 0}, {twice(), apart, 5, -1}, {twice(), apart, 10, 0}, {twice(), apart, 11, 1},
		// A stop of no minutes stops nothing.
		{plain(10, 25, turns(0, 0, 4, 2)), deed.Truth{}, 3, 0}, {plain(10, 25, turns(0, 0, 4, 2)), deed.Truth{}, 4, 2}, {withStops(plain(10, 25, turns(0, 0, 4, 2)), span(3, 3, 3, 3)), deed.Truth{Stops: times(3, 3)}, 3, 0}, {withStops(plain(10, 25, turns(0, 0, 4, 2)), span(3, 3, 3, 3)), deed.Truth{Stops: times(3, 3)}, 4, 2},
		// The stream is stopped all the time.
		{withStops(plain(10, 25, turns(0, 0)), span(0, 0, 25, 25)), deed.Truth{Stops: times(0, 25)}, 0, -1}, {withStops(plain(10, 25, turns(0, 0)), span(0, 0, 25, 25)), deed.Truth{Stops: times(0, 25)}, 24, -1},
		// Notes may contradict anything.
		{noTruth(), ofTruth(30, 50, 57, 56, 60, 58, 59), 58, 2}, {ofChapter(note(1, 0, 0, 150, 150)), ofTruth(30, 0, 150), 30, -1},
	} {
		if f, e := deed.Owner(x.d, x.t, x.minute); f != x.want || e != api.OK {
			t.Errorf("Owner of %v, %v, %d: %d, %v, not %d", x.d, x.t, x.minute, f, e, x.want)
		}
	}
}

func withStops(d deed.Deed, l ...deed.Span) deed.Deed {
	d.Stops = l
	return d
}

func TestP7_1_TurningAndOwnerAgreeWithTheDefinitions(t *testing.T) {
	stopped := 0
	for _, d := range deeds(150, 11) {
		for n := 0; n <= 1440; n += 7 {
			if f, e := deed.Turning(d, n); f != turning(d, n) || e != api.OK {
				t.Fatalf("Turning of %v, %d: %d, %v, not %d", d, n, f, e, turning(d, n))
			}
		}
		for _, tr := range choices(d) {
			for n, want := range owners(d, tr) {
				if f, e := deed.Owner(d, tr, n); f != want || e != api.OK {
					t.Fatalf("Owner of %v, %v, %d: %d, %v, not %d", d, tr, n, f, e, want)
				}
				if want < 0 {
					stopped++
				}
			}
		}
	}
	if stopped < 1000 {
		t.Errorf("the stream is stopped only in %d minutes", stopped)
	}
}

func TestP7_2_Play(t *testing.T) {
	due := [3]int{60, 50, 30}
	all := plain(10, 25, turns(0, 0, 4, 2))
	for _, x := range []struct {
		d    deed.Deed
		t    deed.Truth
		want deed.Tally
	}{
		{ofChapter(first(), second()), ofTruth(30, 50, 57, 56, 60), deed.Tally{Due: due, Over: [3]int{0, 2, 0}}}, {ofChapter(first(), second()), ofTruth(31, 50, 57, 56, 60), deed.Tally{Due: [3]int{60, 51, 30}, Over: [3]int{0, 3, 0}}}, {ofChapter(), ofTruth(30), deed.Tally{Due: due}},
		// A note of the turn just before, and just after its own one.
		{ofChapter(note(1, 20, 20, 30, 30)), ofTruth(30, 20, 30), deed.Tally{Due: due}}, {ofChapter(note(1, 19, 19, 30, 30)), ofTruth(30, 19, 30), deed.Tally{Due: due, Over: [3]int{0, 1, 0}}}, {ofChapter(note(1, 40, 40, 55, 55)), ofTruth(30, 40, 55), deed.Tally{Due: due}}, {ofChapter(note(1, 40, 40, 56, 56)), ofTruth(30, 40, 56), deed.Tally{Due: due, Over: [3]int{0, 1, 0}}},
		// A minute in which the stream is stopped belongs to nobody, though it was taken; one of two notes counts twice.
		{ofChapter(note(1, 28, 28, 42, 42), note(1, 29, 29, 30, 30)), ofTruth(30, 28, 42, 29, 30), deed.Tally{Due: due, Over: [3]int{0, 10, 0}}}, {ofChapter(note(1, 28, 28, 42, 42), note(1, 29, 29, 31, 31)), ofTruth(30, 28, 42, 29, 31), deed.Tally{Due: due, Over: [3]int{0, 11, 0}}}, {ofChapter(note(0, 5, 5, 25, 25), note(0, 15, 15, 22, 22), note(1, 15, 15, 22, 22)), ofTruth(30, 5, 25, 15, 22, 15, 22), deed.Tally{Due: due, Over: [3]int{7, 5, 0}}},
		// A note of no minutes takes none.
		{ofChapter(note(2, 28, 28, 28, 28), note(0, 150, 150, 150, 150)), ofTruth(30, 28, 28, 150, 150), deed.Tally{Due: due}},
		// All minutes that there are.
		{withNotes(all, note(2, 0, 0, 25, 25)), deed.Truth{Notes: times(0, 25)}, deed.Tally{Due: [3]int{12, 0, 13}, Over: [3]int{0, 0, 12}}}, {withNotes(all, note(1, 0, 0, 25, 25)), deed.Truth{Notes: times(0, 25)}, deed.Tally{Due: [3]int{12, 0, 13}, Over: [3]int{0, 25, 0}}}, {withNotes(all, note(0, 24, 24, 25, 25)), deed.Truth{Notes: times(24, 25)}, deed.Tally{Due: [3]int{12, 0, 13}, Over: [3]int{1, 0, 0}}},
		// Nothing is due while the stream is stopped.
		{withStops(withNotes(all, note(2, 0, 0, 25, 25)), span(0, 0, 25, 25)), deed.Truth{Stops: times(0, 25), Notes: times(0, 25)}, deed.Tally{Over: [3]int{0, 0, 25}}}, {withStops(all, span(0, 0, 24, 24)), deed.Truth{Stops: times(0, 24)}, deed.Tally{Due: [3]int{1, 0, 0}}}, {withStops(all, span(0, 0, 0, 0), span(25, 25, 25, 25)), deed.Truth{Stops: times(0, 0, 25, 25)}, deed.Tally{Due: [3]int{12, 0, 13}}},
		// Two stops: the clock stands still for 7 minutes, or for 6.
		{twice(), deed.Truth{Stops: times(2, 4, 4, 9)}, deed.Tally{Due: [3]int{13, 10, 0}}}, {twice(), deed.Truth{Stops: times(2, 4, 5, 9)}, deed.Tally{Due: [3]int{14, 10, 0}}},
		{plain(1, 1, turns(0, 2)), deed.Truth{}, deed.Tally{Due: [3]int{0, 0, 1}}},
	} {
		if y, e := deed.Play(x.d, x.t); y != x.want || e != api.OK {
			t.Errorf("Play of %v, %v: %v, %v, not %v", x.d, x.t, y, e, x.want)
		}
	}
}

func TestP7_2_ProveTruth(t *testing.T) {
	same := note(2, 50, 50, 60, 60)
	for _, x := range []struct {
		d    deed.Deed
		t    deed.Truth
		want bool
	}{
		{ofChapter(), ofTruth(30), true}, {ofChapter(first(), second()), ofTruth(30, 50, 56, 56, 60), true}, {ofChapter(first(), second()), ofTruth(31, 50, 56, 56, 60), true}, {ofChapter(first(), second()), ofTruth(30, 50, 57, 56, 60), false}, {noTruth(), ofTruth(30, 50, 56, 56, 60, 58, 59), false}, {ofChapter(first(), third()), ofTruth(30, 50, 57, 58, 59), true},
		// A note that ends when the stop begins, one that begins when it ends, and a minute of it.
		{ofChapter(note(1, 20, 20, 30, 31)), ofTruth(30, 20, 30), true}, {ofChapter(note(1, 20, 20, 30, 31)), ofTruth(30, 20, 31), false}, {ofChapter(note(1, 20, 20, 30, 31)), ofTruth(31, 20, 31), true}, {ofChapter(note(1, 39, 40, 42, 42)), ofTruth(30, 40, 42), true}, {ofChapter(note(1, 39, 40, 42, 42)), ofTruth(30, 39, 42), false}, {ofChapter(note(1, 20, 20, 50, 50)), ofTruth(30, 20, 50), false}, {ofChapter(note(1, 33, 33, 34, 34)), ofTruth(30, 33, 34), false},
		// The second stop counts as well.
		{twice(note(0, 4, 4, 5, 5)), deed.Truth{Stops: times(2, 4, 5, 9), Notes: times(4, 5)}, true}, {twice(note(0, 4, 4, 5, 5)), deed.Truth{Stops: times(2, 4, 4, 9), Notes: times(4, 5)}, false}, {twice(note(0, 3, 3, 5, 5)), deed.Truth{Stops: times(2, 4, 5, 9), Notes: times(3, 5)}, false}, {twice(note(0, 9, 9, 10, 10)), deed.Truth{Stops: times(2, 4, 5, 9), Notes: times(9, 10)}, true},
		// Two notes of one farm do not contradict each other.
		{ofChapter(same, same), ofTruth(30, 50, 60, 50, 60), true}, {ofChapter(same, note(1, 59, 59, 61, 61)), ofTruth(30, 50, 60, 59, 61), false}, {ofChapter(same, note(1, 60, 60, 61, 61)), ofTruth(30, 50, 60, 60, 61), true}, {ofChapter(same, note(1, 40, 40, 50, 50)), ofTruth(30, 50, 60, 40, 50), true}, {ofChapter(same, note(1, 40, 40, 51, 51)), ofTruth(30, 50, 60, 40, 51), false}, {ofChapter(same, note(1, 40, 40, 70, 70)), ofTruth(30, 50, 60, 40, 70), false}, {ofChapter(same, same, note(0, 54, 54, 55, 55)), ofTruth(30, 50, 60, 50, 60, 54, 55), false},
		// A time without minutes has none in common with others.
		{ofChapter(note(1, 33, 33, 33, 33)), ofTruth(30, 33, 33), true}, {ofChapter(same, note(1, 55, 55, 55, 55)), ofTruth(30, 50, 60, 55, 55), true}, {ofChapter(note(1, 55, 55, 55, 55), same), ofTruth(30, 55, 55, 50, 60), true}, {withStops(ofChapter(same), span(55, 55, 55, 55)), deed.Truth{Stops: times(55, 55), Notes: times(50, 60)}, true},
		// Who has taken too much is not asked.
		{ofChapter(note(2, 0, 0, 20, 20)), ofTruth(30, 0, 20), true},
		// It must have one time of each span.
		{ofChapter(), deed.Truth{}, false}, {ofChapter(), ofTruth(29), false}, {ofChapter(), ofTruth(32), false}, {ofChapter(first()), ofTruth(30), false}, {ofChapter(), ofTruth(30, 50, 56), false}, {ofChapter(first()), ofTruth(30, 50, 55), false}, {ofChapter(first()), ofTruth(30, 50, 58), false}, {ofChapter(first()), ofTruth(30, 49, 56), false}, {ofChapter(first()), ofTruth(30, 51, 56), false}, {ofChapter(), deed.Truth{Stops: times(30, 39)}, false}, {ofChapter(), deed.Truth{Stops: times(30, 41)}, false},
		// The deed must be valid.
		{deed.Deed{}, deed.Truth{}, false}, {plain(0, 9, turns(0, 0)), deed.Truth{}, false}, {plain(9, 9, turns(0, 0)), deed.Truth{}, true},
	} {
		if deed.ProveTruth(x.d, x.t) != x.want {
			t.Errorf("ProveTruth of %v, %v is not %v", x.d, x.t, x.want)
		}
	}
}

func TestP7_2_PlayAndProveTruthAgreeWithTheDefinitions(t *testing.T) {
	seen := map[bool]int{}
	r := rand.New(rand.NewSource(12))
	for _, d := range deeds(300, 12) {
		own := truths(d)
		all := choices(d)
		for _, tr := range all {
			want := tally(d, tr)
			if y, e := deed.Play(d, tr); y != want || e != api.OK {
				t.Fatalf("Play of %v, %v: %v, %v, not %v", d, tr, y, e, want)
			}
			is := slices.ContainsFunc(own, func(o deed.Truth) bool { return equal(o, tr) })
			if deed.ProveTruth(d, tr) != is {
				t.Fatalf("ProveTruth of %v, %v is not %v", d, tr, is)
			}
			seen[is]++
		}
		// One time that is perhaps not of its span.
		tr := all[r.Intn(len(all))]
		l := tr.Notes
		if len(l) == 0 {
			l = tr.Stops
		}
		if len(l) == 0 {
			continue
		}
		x := r.Intn(len(l))
		l[x].From += r.Intn(5) - 2
		l[x].Till += r.Intn(5) - 2
		is := slices.ContainsFunc(choices(d), func(o deed.Truth) bool { return equal(o, tr) })
		if _, e := deed.Play(d, tr); is != (e == api.OK) || !is && (e != api.ErrRange || deed.ProveTruth(d, tr)) {
			t.Fatalf("Play, ProveTruth of %v, %v: %v", d, tr, e)
		}
	}
	if seen[true] < 500 || seen[false] < 500 {
		t.Errorf("not enough of each kind: %v", seen)
	}
}

func TestP7_3_DueOverAndGuilty(t *testing.T) {
	const always, never, perhaps = deed.Always, deed.Never, deed.Perhaps
	none := to(0, 0)
	due := []deed.Range{to(60, 60), to(50, 51), to(30, 30)}
	for _, x := range []struct {
		d      deed.Deed
		due    []deed.Range
		over   []deed.Range
		guilty []int
	}{
		{ofChapter(first(), second()), due, []deed.Range{none, to(1, 2), none}, list(never, always, never)}, {ofChapter(first()), due, []deed.Range{none, to(1, 3), none}, list(never, always, never)}, {ofChapter(), due, []deed.Range{none, none, none}, list(never, never, never)},
		{ofChapter(note(1, 50, 50, 54, 55)), due, []deed.Range{none, to(0, 1), none}, list(never, perhaps, never)}, {ofChapter(note(1, 50, 50, 54, 54)), due, []deed.Range{none, none, none}, list(never, never, never)},
		// Of the turn of the farm 2, which begins at 54 or 55, and is the later by the earlier stop.
		{ofChapter(note(2, 54, 54, 60, 60)), due, []deed.Range{none, none, to(0, 1)}, list(never, never, perhaps)}, {ofChapter(note(2, 53, 53, 60, 60)), due, []deed.Range{none, none, to(1, 2)}, list(never, never, always)}, {ofChapter(note(2, 55, 55, 70, 70)), due, []deed.Range{none, none, to(0, 1)}, list(never, never, perhaps)},
		// That the farm 1 took water until 31 tells when the stop began; what contradicts it in each truth tells nothing of it.
		{ofChapter(note(1, 30, 30, 31, 31)), []deed.Range{to(60, 60), to(51, 51), to(30, 30)}, []deed.Range{none, none, none}, list(never, never, never)}, {ofChapter(note(0, 30, 30, 31, 31)), []deed.Range{to(60, 60), to(51, 51), to(30, 30)}, []deed.Range{to(1, 1), none, none}, list(always, never, never)},
		// The farms 1 and 2 took water one after the other; each may have been the one that took too much.
		{withNotes(plain(10, 20, turns(0, 1, 5, 2)), note(1, 1, 1, 4, 6), note(2, 4, 6, 9, 9)), []deed.Range{none, to(10, 10), to(10, 10)}, []deed.Range{none, to(0, 1), to(0, 1)}, list(never, perhaps, perhaps)},
		{plain(10, 25, turns(0, 0, 4, 2), note(2, 3, 4, 5, 5)), []deed.Range{to(12, 12), none, to(13, 13)}, []deed.Range{none, none, to(0, 1)}, list(never, never, perhaps)},
		// A farm without turns has taken all of it too much, unless its note has no minutes.
		{plain(10, 25, turns(0, 0), note(1, 3, 4, 5, 5)), []deed.Range{to(25, 25), none, none}, []deed.Range{none, to(1, 2), none}, list(never, always, never)}, {plain(10, 25, turns(0, 0), note(1, 3, 4, 4, 5)), []deed.Range{to(25, 25), none, none}, []deed.Range{none, to(0, 2), none}, list(never, perhaps, never)}, {plain(10, 25, turns(0, 0), note(1, 4, 4, 4, 4)), []deed.Range{to(25, 25), none, none}, []deed.Range{none, none, none}, list(never, never, never)},
		// Two notes of a farm: together they take too much in each truth, though not the same one.
		{plain(10, 25, turns(0, 0, 5, 1), note(0, 3, 3, 5, 6), note(1, 4, 5, 6, 6)), []deed.Range{to(15, 15), to(10, 10), none}, []deed.Range{none, none, none}, list(never, never, never)}, {plain(10, 25, turns(0, 0, 5, 1), note(0, 3, 3, 6, 6), note(0, 4, 4, 6, 7)), []deed.Range{to(15, 15), to(10, 10), none}, []deed.Range{to(2, 3), none, none}, list(always, never, never)},
		{twice(), []deed.Range{to(13, 14), to(10, 10), none}, []deed.Range{none, none, none}, list(never, never, never)},
	} {
		l, e := deed.Due(x.d)
		if !slices.Equal(l, x.due) || e != api.OK {
			t.Errorf("Due of %v: %v, %v, not %v", x.d, l, e, x.due)
		}
		for farm := range 3 {
			o, e := deed.Over(x.d, farm)
			v, f := deed.Guilty(x.d, farm)
			if o != x.over[farm] || e != api.OK || v != x.guilty[farm] || f != api.OK {
				t.Errorf("Over, Guilty of %v, %d: %v, %v; %d, %v, not %v; %d", x.d, farm, o, e, v, f, x.over[farm], x.guilty[farm])
			}
		}
	}
}

func TestP7_3_NumbersOfTheKinds(t *testing.T) {
	if deed.Always != 1 || deed.Never != 2 || deed.Perhaps != 3 {
		t.Errorf("%d, %d, %d", deed.Always, deed.Never, deed.Perhaps)
	}
}

func TestP7_3_DueOverAndGuiltyAgreeWithTheDefinitions(t *testing.T) {
	seen, wide := map[int]int{}, 0
	for _, d := range deeds(800, 13) {
		in := truths(d)
		l, e := deed.Due(d)
		if len(in) == 0 {
			seen[0]++
			if e != api.ErrFalse {
				t.Fatalf("Due of %v, which has no truth: %v, %v", d, l, e)
			}
			continue
		}
		all := tallies(d, in)
		if want := dueOf(all); !slices.Equal(l, want) || e != api.OK {
			t.Fatalf("Due of %v: %v, %v, not %v", d, l, e, want)
		}
		for farm := range 3 {
			over := overOf(all, farm)
			if o, e := deed.Over(d, farm); o != ends(over) || e != api.OK {
				t.Fatalf("Over of %v, %d: %v, %v, not %v", d, farm, o, e, ends(over))
			}
			v, e := deed.Guilty(d, farm)
			if want := guiltyOf(over); v != want || e != api.OK {
				t.Fatalf("Guilty of %v, %d: %d, %v, not %d", d, farm, v, e, want)
			}
			seen[v]++
			if l[farm].Lo < l[farm].Hi {
				wide++
			}
		}
	}
	for _, v := range list(0, deed.Always, deed.Never, deed.Perhaps) {
		if seen[v] < 60 {
			t.Errorf("not enough of each kind: %v", seen)
		}
	}
	if wide < 100 {
		t.Errorf("only %d bounds have more than one number", wide)
	}
}

func TestP7_4_When(t *testing.T) {
	own := plain(10, 25, turns(0, 0, 4, 2))
	for _, x := range []struct {
		d                deed.Deed
		farm, from, many int
		want             deed.Range
	}{
		{ofChapter(first(), second()), 1, 25, 10, to(44, 45)}, {ofChapter(), 1, 25, 10, to(44, 45)},
		// No minutes are had at once, also in the turn of another one, in a stop, and after the last minute.
		{ofChapter(), 1, 35, 0, to(35, 35)}, {ofChapter(), 1, 0, 0, to(0, 0)}, {ofChapter(), 2, 30, 0, to(30, 30)}, {ofChapter(), 0, 150, 0, to(150, 150)},
		// The stop is asked only by the minutes after it.
		{ofChapter(), 1, 25, 5, to(30, 30)}, {ofChapter(), 1, 25, 6, to(31, 41)}, {ofChapter(), 1, 35, 1, to(41, 41)}, {ofChapter(), 1, 20, 1, to(21, 21)}, {ofChapter(), 1, 0, 1, to(21, 21)}, {ofChapter(), 1, 30, 1, to(31, 41)}, {ofChapter(), 1, 54, 1, to(55, 90)},
		// In a later cycle.
		{ofChapter(), 0, 0, 20, to(20, 20)}, {ofChapter(), 0, 0, 21, to(70, 71)}, {ofChapter(), 0, 20, 1, to(70, 71)}, {ofChapter(), 2, 0, 30, to(129, 130)}, {own, 2, 3, 8, to(16, 16)}, {own, 2, 24, 1, to(25, 25)}, {own, 0, 9, 1, to(11, 11)},
		// All minutes that there are, and the last one of them.
		{ofChapter(), 0, 0, 60, to(149, 150)}, {own, 0, 0, 12, to(24, 24)}, {own, 2, 0, 13, to(25, 25)}, {own, 2, 24, 1, to(25, 25)}, {ofChapter(), 1, 0, 50, to(114, 115)},
		{plain(1, 1440, turns(0, 1)), 1, 0, 1440, to(1440, 1440)}, {plain(1, 1440, turns(0, 1)), 1, 1000, 440, to(1440, 1440)}, {plain(1, 1, turns(0, 1)), 1, 0, 1, to(1, 1)},
		// A note tells when the stop began.
		{ofChapter(note(1, 30, 30, 31, 31)), 1, 25, 6, to(31, 31)}, {ofChapter(note(1, 30, 30, 31, 31)), 1, 0, 51, to(150, 150)},
		// Two stops.
		{twice(), 0, 0, 3, to(5, 10)}, {twice(), 0, 4, 1, to(5, 10)}, {twice(), 0, 0, 2, to(2, 2)}, {twice(), 1, 0, 1, to(12, 13)},
	} {
		if w, e := deed.When(x.d, x.farm, x.from, x.many); w != x.want || e != api.OK {
			t.Errorf("When of %v, %d, %d, %d: %v, %v, not %v", x.d, x.farm, x.from, x.many, w, e, x.want)
		}
	}
}

func TestP7_4_WhenAgreesWithTheDefinition(t *testing.T) {
	r := rand.New(rand.NewSource(14))
	seen := map[api.Errno]int{}
	wide, parted := 0, 0
	for _, d := range deeds(300, 14) {
		var all [][]int
		for _, tr := range truths(d) {
			all = append(all, owners(d, tr))
		}
		for range 20 {
			farm, from := r.Intn(3), min(r.Intn(d.Last+1), r.Intn(d.Last+1))
			many := min(r.Intn(d.Last+1), r.Intn(1+d.Last/2))
			w, e := deed.When(d, farm, from, many)
			seen[e]++
			if len(all) == 0 {
				if e != api.ErrFalse {
					t.Fatalf("When of %v, which has no truth: %v, %v", d, w, e)
				}
				continue
			}
			var l []int
			for _, o := range all {
				l = append(l, when(o, farm, from, many))
			}
			want, code := ends(l), api.OK
			if want.Hi > d.Last {
				if want.Lo <= d.Last {
					parted++
				}
				want, code = to(0, 0), api.ErrShort
			}
			if w != want || e != code {
				t.Fatalf("When of %v, %d, %d, %d: %v, %v, not %v, %v", d, farm, from, many, w, e, want, code)
			}
			if w.Lo < w.Hi {
				wide++
			}
		}
	}
	if seen[api.OK] < 500 || seen[api.ErrShort] < 500 || seen[api.ErrFalse] < 200 || wide < 200 || parted < 20 {
		t.Errorf("not enough of each kind: %v, %d, %d", seen, wide, parted)
	}
}

func TestP7_5_FirstAndLeave(t *testing.T) {
	stopped, one, two := note(1, 35, 35, 36, 36), note(1, 5, 5, 9, 9), note(2, 8, 8, 12, 12)
	for _, x := range []struct {
		d     deed.Deed
		first int
		e     api.Errno
		leave []int
	}{
		{noTruth(), 2, api.OK, list(1)}, {ofChapter(), 0, api.ErrNone, nil}, {ofChapter(first()), 0, api.ErrNone, nil}, {ofChapter(first(), second()), 0, api.ErrNone, nil}, {ofChapter(third(), second(), first()), 1, api.OK, list(0)}, {ofChapter(second(), first(), third()), 2, api.OK, list(0)},
		// A stop is never left out.
		{ofChapter(stopped), 0, api.OK, list(0)}, {ofChapter(first(), stopped), 1, api.OK, list(1)}, {ofChapter(stopped, first()), 0, api.OK, list(0)}, {ofChapter(note(1, 30, 30, 31, 31)), 0, api.ErrNone, nil}, {ofChapter(note(1, 30, 30, 32, 32)), 0, api.OK, list(0)}, {ofChapter(notes(5, stopped)...), 0, api.OK, list(0, 1, 2, 3, 4)}, {twice(note(0, 8, 8, 9, 9)), 0, api.OK, list(0)}, {twice(note(0, 4, 4, 5, 5)), 0, api.ErrNone, nil},
		// Notes of one farm never contradict each other.
		{ofChapter(one, one, one, one, one), 0, api.ErrNone, nil}, {ofChapter(one, note(1, 6, 6, 8, 8), note(2, 7, 7, 8, 8)), 2, api.OK, list(2)},
		// Notes that touch, that need not overlap, and that do.
		{ofChapter(one, note(2, 9, 9, 12, 12)), 0, api.ErrNone, nil}, {ofChapter(note(1, 5, 5, 9, 10), note(2, 8, 9, 12, 12)), 0, api.ErrNone, nil}, {ofChapter(one, two), 1, api.OK, list(0)}, {ofChapter(two, one), 1, api.OK, list(0)},
		// A time in the midst of another one; one that can have no minutes.
		{ofChapter(note(1, 5, 5, 9, 9), note(0, 6, 6, 7, 7)), 1, api.OK, list(0)}, {ofChapter(note(1, 5, 5, 9, 9), note(0, 6, 7, 7, 7)), 0, api.ErrNone, nil}, {ofChapter(note(0, 6, 6, 6, 6), one), 0, api.ErrNone, nil},
		// Three notes of which each two contradict each other; two pairs; a note in which all others lie.
		{ofChapter(note(1, 5, 5, 9, 10), note(2, 8, 8, 12, 12), note(0, 8, 8, 9, 9)), 1, api.OK, list(0, 1)}, {ofChapter(one, two, note(1, 100, 100, 110, 110), note(0, 105, 105, 115, 115)), 1, api.OK, list(0, 2)}, {ofChapter(note(1, 70, 70, 71, 71), note(2, 72, 72, 73, 73), note(1, 74, 74, 75, 75), note(2, 76, 76, 77, 77), note(0, 70, 70, 80, 80)), 4, api.OK, list(4)}, {ofChapter(note(0, 70, 70, 80, 80), note(2, 72, 72, 73, 73), note(1, 74, 74, 75, 75)), 1, api.OK, list(0)},
		// All times can be short at once, those of stops, too: they just touch, or overlap in a minute.
		{withStops(ofChapter(note(1, 29, 29, 31, 32), note(2, 38, 39, 42, 43), note(0, 41, 42, 45, 45)), span(30, 31, 39, 40)), 0, api.ErrNone, nil}, {withStops(ofChapter(note(1, 29, 29, 32, 33), note(2, 38, 39, 42, 43), note(0, 41, 42, 45, 45)), span(30, 31, 39, 40)), 0, api.OK, list(0)}, {withStops(ofChapter(note(1, 29, 29, 31, 32), note(2, 37, 38, 42, 43), note(0, 41, 42, 45, 45)), span(30, 31, 39, 40)), 1, api.OK, list(1)}, {withStops(ofChapter(note(1, 29, 29, 31, 32), note(2, 38, 39, 42, 43), note(0, 41, 41, 45, 45)), span(30, 31, 39, 40)), 2, api.OK, list(1)},
	} {
		n, e := deed.First(x.d)
		l, f := deed.Leave(x.d)
		if n != x.first || e != x.e || !slices.Equal(l, x.leave) || f != api.OK {
			t.Errorf("First, Leave of %v: %d, %v; %v, %v, not %d, %v; %v", x.d, n, e, l, f, x.first, x.e, x.leave)
		}
	}
}

func TestP7_5_FirstAndLeaveAgreeWithTheDefinitions(t *testing.T) {
	seen := map[int]int{}
	for _, d := range deeds(1000, 15) {
		n, e := deed.First(d)
		if want, code := firstOf(d); n != want || e != code {
			t.Fatalf("First of %v: %d, %v, not %d, %v", d, n, e, want, code)
		}
		l, e := deed.Leave(d)
		if want := leaveOf(d); !slices.Equal(l, want) || e != api.OK {
			t.Fatalf("Leave of %v: %v, %v, not %v", d, l, e, want)
		}
		seen[len(l)]++
	}
	for length, many := range list(150, 60, 30, 10) {
		if seen[length] < many {
			t.Errorf("not enough of each kind: %v", seen)
		}
	}
}
