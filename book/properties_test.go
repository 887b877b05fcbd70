package book_test

import (
	"fmt"
	"math/rand"
	"slices"
	"strings"
	"testing"

	"watercress/api"
	"watercress/bed"
	"watercress/book"
	"watercress/bunch"
	"watercress/grow"
	"watercress/market"
)

// The properties are asked of what the calls return, not of the oracle's answers.

func seasonAfter(t *testing.T, l []string) grow.Season {
	t.Helper()
	s, e := book.Season(l)
	if e != api.OK {
		t.Fatalf("Season of %q: %v", l, e)
	}
	return s
}

func marketAfter(t *testing.T, l []string) market.Market {
	t.Helper()
	m, e := book.Market(l)
	if e != api.OK {
		t.Fatalf("Market of %q: %v", l, e)
	}
	return m
}

func reportAfter(t *testing.T, l []string) []string {
	t.Helper()
	s, e := book.Report(l)
	if e != api.OK {
		t.Fatalf("Report of %q: %v", l, e)
	}
	return strings.Split(s, "\n")
}

func fileAfter(t *testing.T, l []string) []byte {
	t.Helper()
	b, e := book.Write(l)
	if e != api.OK {
		t.Fatalf("Write of %q: %v", l, e)
	}
	return b
}

// accepts plays one more line, which must be accepted.
func accepts(t *testing.T, l []string, line string) (book.State, []string) {
	t.Helper()
	longer := after(l, line)
	s, errors := stateOf(t, longer)
	if e := errors[len(l)]; e != api.OK {
		t.Fatalf("%q after %q: %v", line, l, e)
	}
	return s, longer
}

// shorter are sessions with room for a few more lines.
func shorter(many int, seed int64) [][]string {
	all := sessions(many, seed)
	for i, l := range all {
		all[i] = l[:min(len(l), 36)]
	}
	return all
}

func TestP12_6_Replayed(t *testing.T) {
	refused := 0
	for _, l := range sessions(300, 21) {
		s, errors := stateOf(t, l)
		short := acceptedOf(l, errors)
		again, none := stateOf(t, short)
		if text(again) != text(s) || len(acceptedOf(short, none)) != len(short) {
			t.Fatalf("%q: %s; of the accepted lines alone %s, %v", l, text(s), text(again), none)
		}
		if same, errorsAgain := stateOf(t, l); text(same) != text(s) || !slices.Equal(errorsAgain, errors) {
			t.Fatalf("%q: %s, %v, and then %s, %v", l, text(s), errors, text(same), errorsAgain)
		}
		refused += len(l) - len(short)
	}
	if refused < 1000 {
		t.Errorf("not enough of each kind: %d lines are refused", refused)
	}
}

func TestP12_7_ItStands(t *testing.T) {
	seen := map[string]int{}
	for _, l := range append(sessions(300, 22), year(), rich(), crowded()) {
		s, _ := stateOf(t, l)
		season, sales := seasonAfter(t, l), marketAfter(t, l)
		if e := bed.CheckFarm(s.Farm); e != api.OK {
			t.Fatalf("the farm of %q: %v", l, e)
		}
		if e := grow.CheckSeason(season); e != api.OK {
			t.Fatalf("the season of %q: %v", l, e)
		}
		if e := market.CheckMarket(sales); e != api.OK {
			t.Fatalf("the market of %q: %v", l, e)
		}
		bounds, e := bed.Bounds(s.Farm)
		_, f := bunch.Bounds(s.Day)
		if e != api.OK || f != api.OK {
			t.Fatalf("the truths of %q: %v, %v", l, e, f)
		}
		for n, b := range season.Beds {
			if b.Flow != bounds[n].Kept.Lo || b.Cut != s.Lasts[n] {
				t.Fatalf("the season of %q: %v", l, season)
			}
		}
		if !grow.ProvePlan(season, s.Cuts) || text(sales.Days[0]) != text(s.Day) || text(sales.Accounts) != text(s.Accounts) || len(s.Lasts) != len(s.Farm.Beds) {
			t.Fatalf("%q: %s, by the plan %v", l, text(season), s.Cuts)
		}
		for n, b := range s.Farm.Beds {
			if b.Down != n+1 && !(b.Down == -1 && n == len(s.Farm.Beds)-1) {
				t.Fatalf("%q: the beds %v are in no row", l, s.Farm.Beds)
			}
		}
		for what, many := range map[string]int{"looks": len(s.Farm.Looks), "cuts": len(slices.Concat(s.Cuts...)), "counts": len(s.Day.Counts)} {
			if many > 0 {
				seen[what]++
			}
		}
	}
	if seen["looks"] < 50 || seen["cuts"] < 50 || seen["counts"] < 50 {
		t.Errorf("not enough of each kind: %v", seen)
	}
}

// parts are those of a state that lines change apart from each other.
func parts(s book.State) map[string]string {
	return map[string]string{"farm": text(s.Farm), "cuts": text(s.Lasts) + text(s.Cuts), "day": text(s.Day), "accounts": text(s.Accounts)}
}

func TestP12_8_WhatDepends(t *testing.T) {
	r := rand.New(rand.NewSource(23))
	seen := map[string]int{}
	for _, l := range sessions(1200, 23) {
		if len(l) == 0 {
			continue
		}
		n := r.Intn(len(l))
		before, _ := stateOf(t, l[:n])
		s, errors := stateOf(t, l[:n+1])
		word, _, _ := strings.Cut(l[n], " ")
		about := ""
		switch {
		case errors[n] != api.OK:
		case slices.Contains(ofFarm, word):
			about = "farm"
		case slices.Contains(ofCuts, word):
			about = "cuts"
		case slices.Contains(ofDay, word):
			about = "day"
		case slices.Contains(ofAccounts, word):
			about = "accounts"
		}
		seen[about]++
		was := parts(before)
		for part, is := range parts(s) {
			newBed := word == "bed" && part == "cuts"
			if part != about && is != was[part] && !(about == "farm" && newBed) {
				t.Fatalf("%q after %q: the %s was %s, and is %s", l[n], l[:n], part, was[part], is)
			}
		}
		if about == "farm" && word == "bed" && (text(s.Lasts[:len(before.Lasts)]) != text(before.Lasts) || text(s.Cuts[:len(before.Cuts)]) != text(before.Cuts)) {
			t.Fatalf("%q after %q: %v and %v were %v and %v", l[n], l[:n], s.Lasts, s.Cuts, before.Lasts, before.Cuts)
		}
		yields := map[bool][]string{}
		for i, report := range [][]string{reportAfter(t, l[:n]), reportAfter(t, l[:n+1])} {
			for _, row := range report {
				if strings.HasPrefix(row, "yield ") {
					yields[i == 0] = append(yields[i == 0], row)
				}
			}
		}
		if about != "farm" && about != "cuts" && !slices.Equal(yields[false], yields[true]) || len(yields[true]) != 1 {
			t.Fatalf("%q after %q: %v were %v", l[n], l[:n], yields[false], yields[true])
		}
	}
	for _, about := range lines("farm", "cuts", "day", "accounts", "") {
		if seen[about] < 50 {
			t.Errorf("not enough of each kind: %v", seen)
		}
	}
}

func TestP12_9_Undone(t *testing.T) {
	r := rand.New(rand.NewSource(24))
	seen := map[string]int{}
	for _, l := range shorter(250, 24) {
		s, _ := stateOf(t, l)
		for _, x := range []struct {
			what, undo string
			number     int
		}{{"spring", "dry", len(s.Farm.Springs)}, {"look", "strike", len(s.Farm.Looks)}, {"lot", "drop", len(s.Day.Lots)}, {"count", "void", len(s.Day.Counts)}, {"account", "recall", len(s.Accounts)}, {"cut", "spare", -1}} {
			line := anyLine(r, s, lines(x.what), false)
			changed, errors := stateOf(t, after(l, line))
			if errors[len(l)] != api.OK {
				continue
			}
			undo := fmt.Sprintf("%s %d", x.undo, x.number)
			if x.number < 0 {
				undo = x.undo + strings.TrimPrefix(line, x.what)
			}
			again, _ := accepts(t, after(l, line), undo)
			if text(again) != text(s) || text(changed) == text(s) {
				t.Fatalf("%q, %q after %q: %s, and %s; it was %s", line, undo, l, text(changed), text(again), text(s))
			}
			seen[x.what]++
		}
	}
	for _, what := range lines("spring", "look", "lot", "count", "account", "cut") {
		if seen[what] < 50 {
			t.Errorf("not enough of each kind: %v", seen)
		}
	}
}

// rewritten are lines that write again what is so.
func rewritten(s book.State) []string {
	var l []string
	for n, b := range s.Farm.Beds {
		l = append(l, fmt.Sprintf("board %d %d", n, b.Notch))
	}
	for n, x := range s.Farm.Springs {
		l = append(l, fmt.Sprintf("flow %d %d %d", n, x.Flow.Lo, x.Flow.Hi))
	}
	for n, x := range s.Lasts {
		l = append(l, fmt.Sprintf("last %d %d %d", n, x.Lo, x.Hi))
	}
	for n, x := range s.Day.Women {
		l = append(l, fmt.Sprintf("feel %d %d %d", n, x.Lo, x.Hi))
	}
	for n, x := range s.Day.Lots {
		l = append(l, fmt.Sprintf("stems %d %d %d", n, x.Stems.Lo, x.Stems.Hi))
	}
	return l
}

func TestP12_10_Corrected(t *testing.T) {
	seen := map[string]int{}
	for _, l := range shorter(60, 25) {
		s, _ := stateOf(t, l)
		for _, line := range rewritten(s) {
			again, _ := accepts(t, l, line)
			if text(again) != text(s) {
				t.Fatalf("%q after %q: %s, not %s", line, l, text(again), text(s))
			}
			word, _, _ := strings.Cut(line, " ")
			seen[word]++
		}
	}
	for _, word := range lines("board", "flow", "last", "feel", "stems") {
		if seen[word] < 40 {
			t.Errorf("not enough of each kind: %v", seen)
		}
	}
}

// corrections are lines that make ranges wider, if they can be so.
func corrections(s book.State) []string {
	var l []string
	add := func(word string, n int, r pair, wide int) {
		for _, x := range []pair{{r.Lo - 1, r.Hi}, {r.Lo, r.Hi + 1}, {r.Lo - 1, r.Hi + 1}, {r.Hi - wide, r.Hi}, {r.Lo, r.Lo + wide}} {
			if x.Lo >= 0 && x.Hi <= x.Lo+wide {
				l = append(l, fmt.Sprintf("%s %d %d %d", word, n, x.Lo, x.Hi))
			}
		}
	}
	for n, x := range s.Farm.Springs {
		add("flow", n, pair(x.Flow), 3)
	}
	for n, x := range s.Day.Women {
		add("feel", n, pair(x), 2)
	}
	for n, x := range s.Day.Lots {
		add("stems", n, pair(x.Stems), 2)
	}
	return l
}

// isIn reports whether the first range is in the second one.
func isIn(a, b pair) bool { return b.Lo <= a.Lo && a.Hi <= b.Hi }

func TestP12_11_Wider(t *testing.T) {
	seen := map[string]int{}
	for _, l := range append(shorter(120, 26), lines("lot 0 479 479"), lines("lot 0 480 480", "lot 0 479 479"), lines("feel 0 25 26", "lot 0 600 600")) {
		s, _ := stateOf(t, l)
		bounds, _ := bed.Bounds(s.Farm)
		day, _ := bunch.Bounds(s.Day)
		season := seasonAfter(t, l)
		for _, line := range corrections(s) {
			longer := after(l, line)
			wide, errors := stateOf(t, longer)
			if errors[len(l)] != api.OK {
				seen["refused"]++
				continue
			}
			word, _, _ := strings.Cut(line, " ")
			more, _ := bed.Bounds(wide.Farm)
			flows := seasonAfter(t, longer)
			for n := range bounds {
				if !isIn(pair(bounds[n].Kept), pair(more[n].Kept)) || flows.Beds[n].Flow > season.Beds[n].Flow {
					t.Fatalf("%q after %q: the bed %d keeps %v, not %v", line, l, n, more[n].Kept, bounds[n].Kept)
				}
				if more[n].Kept != bounds[n].Kept {
					seen[word]++
				}
			}
			flats, _ := bunch.Bounds(wide.Day)
			if !isIn(pair(day.Flats), pair(flats.Flats)) {
				t.Fatalf("%q after %q: flats %v, not %v", line, l, flats.Flats, day.Flats)
			}
			if flats.Flats != day.Flats {
				seen[word]++
			}
		}
	}
	if seen["flow"] < 100 || seen["feel"] < 10 || seen["stems"] < 5 || seen["refused"] < 20 {
		t.Errorf("not enough of each kind: %v", seen)
	}
}

func TestP12_12_TheFile(t *testing.T) {
	r := rand.New(rand.NewSource(27))
	for i, l := range sessions(200, 27) {
		if i%4 == 0 {
			for n := range l {
				l[n] = someBytes(r)
			}
		}
		b := fileAfter(t, l)
		if got, n := book.Recover(b); !slices.Equal(got, l) || n != len(b) {
			t.Fatalf("Recover of the file of %q: %q, %d", l, got, n)
		}
		// Of the first bytes those records that are whole.
		for cut := range b {
			whole := 0
			for whole < len(l) && len(fileAfter(t, l[:whole+1])) <= cut {
				whole++
			}
			if got, n := book.Recover(b[:cut]); !slices.Equal(got, l[:whole]) || n != len(fileAfter(t, l[:whole])) {
				t.Fatalf("Recover of %q: %q, %d", b[:cut], got, n)
			}
			if i > 20 {
				break
			}
		}
	}
}

func TestP12_12_NoRecordIsReadAtAnotherPlace(t *testing.T) {
	r := rand.New(rand.NewSource(28))
	// A line may come more than once in these, and still each of its records has a place of its own.
	for _, l := range append(sessions(20, 28), times(40, "a"), times(40, ""), year()) {
		var records [][]byte
		for n := range l {
			records = append(records, fileAfter(t, l[:n+1])[len(fileAfter(t, l[:n])):])
		}
		for place := range l {
			for own := range l {
				b := append(slices.Concat(records[:place]...), records[own]...)
				want := place
				if own == place {
					want++
				}
				if got, _ := book.Recover(b); len(got) != want {
					t.Fatalf("the record %d of %q is read at the place %d: %q", own, l, place, got)
				}
			}
		}
		r.Shuffle(len(records), func(i, j int) { records[i], records[j] = records[j], records[i] })
		for n := range records {
			if got, _ := book.Recover(slices.Concat(records[n:]...)); !slices.Equal(got, l[:len(got)]) || string(fileAfter(t, got)) != string(slices.Concat(records[n:]...)[:len(fileAfter(t, got))]) {
				t.Fatalf("Recover of the records of %q in another order: %q", l, got)
			}
		}
	}
}

func TestP12_12_OneByteThatIsChanged(t *testing.T) {
	// The check shows each change of a byte, so that nothing is read but what comes before it.
	for _, l := range [][]string{year(), times(3, ""), lines("\n\n", "0043/00/", strings.Repeat("\xff", 60))} {
		b := fileAfter(t, l)
		for at := range b {
			whole := 0
			for len(fileAfter(t, l[:whole+1])) <= at {
				whole++
			}
			for by := 1; by < 256; by++ {
				changed := slices.Clone(b)
				changed[at] ^= byte(by)
				if got, _ := book.Recover(changed); !slices.Equal(got, l[:whole]) {
					t.Fatalf("Recover of %q: %q", changed, got)
				}
			}
		}
	}
}

func TestP12_13_GoesOn(t *testing.T) {
	refused := 0
	for _, l := range sessions(250, 29) {
		_, errors := stateOf(t, l)
		short := acceptedOf(l, errors)
		if b, e := book.Resume(nil, l); string(b) != string(fileAfter(t, short)) || e != api.OK {
			t.Fatalf("Resume of no bytes with %q: %q, %v", l, b, e)
		}
		refused += len(l) - len(short)
	}
	if refused < 1000 {
		t.Errorf("not enough of each kind: %d lines are refused", refused)
	}
}

func TestP12_13_FromAnywhere(t *testing.T) {
	for _, l := range append(sessions(3, 30), year()) {
		_, errors := stateOf(t, l)
		short := acceptedOf(l, errors)
		b := fileAfter(t, short)
		for cut := 0; cut <= len(b); cut++ {
			got, n := book.Recover(b[:cut])
			again, e := book.Resume(b[:cut], short[len(got):])
			if string(again) != string(b) || e != api.OK || n > cut {
				t.Fatalf("Resume of %q, %q: %q, %v", b[:cut], short[len(got):], again, e)
			}
		}
	}
}
