package book_test

import (
	"fmt"
	"math/rand"
	"slices"
	"strings"
	"testing"

	"watercress/api"
	"watercress/bed"
	"watercress/book"
	"watercress/bunch"
	"watercress/grow"
	"watercress/market"
)

// stateOf plays the lines, which must be a session.
func stateOf(t *testing.T, l []string) (book.State, []api.Errno) {
	t.Helper()
	s, errors, e := book.Play(l)
	if e != api.OK || len(errors) != len(l) {
		t.Fatalf("Play of %q: %d errors, %v", l, len(errors), e)
	}
	return s, errors
}

// lastErrors are the errors of the last lines of a session.
func lastErrors(t *testing.T, l []string, many int) []int {
	t.Helper()
	_, errors := stateOf(t, l)
	var out []int
	for _, e := range errors[len(l)-many:] {
		out = append(out, int(e))
	}
	return out
}

func TestP12_1_TheStateAtFirst(t *testing.T) {
	want := book.State{
		Farm:  bed.Farm{Beds: []bed.Bed{{Need: 3, Notch: 5, Down: -1}}, Springs: []bed.Spring{{Bed: 0, Flow: bed.Range{Lo: 4, Hi: 4}}}},
		Lasts: []grow.Range{{Lo: 0, Hi: 0}},
		Cuts:  [][]int{nil},
		Day:   bunch.Day{Hand: 6, Flat: 4, Women: []bunch.Range{{Lo: 20, Hi: 20}}},
	}
	for _, l := range [][]string{nil, lines(), lines("nothing"), lines("", "bed 10 0", "dry 1")} {
		if s, _ := stateOf(t, l); text(s) != text(want) {
			t.Errorf("Play of %q: %v", l, text(s))
		}
	}
}

func TestP12_1_Play(t *testing.T) {
	want := book.State{
		Farm: bed.Farm{
			Beds:    []bed.Bed{{Need: 3, Notch: 5, Down: 1}, {Need: 2, Notch: 2, Down: -1}},
			Springs: []bed.Spring{{Bed: 0, Flow: bed.Range{Lo: 6, Hi: 8}}},
			Looks:   []bed.Look{{Bed: 1, Over: false, Water: bed.Range{Lo: 2, Hi: 2}}},
		},
		Lasts: []grow.Range{{Lo: 0, Hi: 0}, {Lo: 0, Hi: 1}},
		Cuts:  [][]int{list(2, 4), list(4)},
		Day: bunch.Day{
			Hand: 6, Flat: 4,
			Women: []bunch.Range{{Lo: 20, Hi: 22}, {Lo: 25, Hi: 25}},
			Lots:  []bunch.Lot{{Woman: 0, Stems: bunch.Range{Lo: 500, Hi: 502}}, {Woman: 1, Stems: bunch.Range{Lo: 610, Hi: 610}}},
		},
		Accounts: []market.Account{{Flats: 1, Grade: market.Range{Lo: 0, Hi: 1}, Money: 83}, {Flats: 1, Grade: market.Range{Lo: 1, Hi: 2}, Money: 56}},
	}
	s, errors := stateOf(t, year())
	if text(s) != text(want) || slices.ContainsFunc(errors, func(e api.Errno) bool { return e != api.OK }) {
		t.Errorf("Play: %s, %v", text(s), errors)
	}
	// The further lines of the chapter.
	more := lines("bed 10 0", "board 2 1", "board 0 9", "spring 0 1 5", "cut 0 2", "cut 0 3", "spare 0 3", "spare 0 2", "feel 0 20 23", "count 4 0 3 9", "count 2 1 0 9", "count 0 2 0 9", "account 1 0 3 5", "dry 1", "dry 0", "look 1 2 0 0", "cut 0 07", "cut")
	if l := lastErrors(t, year(more...), len(more)); !slices.Equal(l, list(2, 7, 11, 2, 6, 9, 7, 0, 2, 11, 2, 7, 2, 7, 11, 2, 4, 4)) {
		t.Errorf("errors: %v", l)
	}
	want.Cuts[0] = list(4)
	if s, _ := stateOf(t, year(more...)); text(s) != text(want) {
		t.Errorf("Play: %s, though nothing but one cut is spared", text(s))
	}
}

// rich has some of everything: three beds in a row, and of the rest more than one.
func rich() []string {
	return lines("bed 2 2", "bed 0 9", "flow 0 4 7", "spring 1 1 2", "spring 2 8 8", "look 0 0 3 5", "look 1 1 0 9", "look 2 0 1 9", "last 2 1 3", "cut 0 3", "cut 0 7", "cut 0 5", "cut 2 9", "woman 25 25", "woman 1 3", "lot 0 500 502", "lot 1 610 610", "lot 1 0 0", "count 4 0 0 9", "count 0 1 24 30", "count 1 2 0 0", "account 1 0 1 83", "account 2 1 2 111", "account 0 0 0 0")
}

func TestP12_1_WhatEachLineDoes(t *testing.T) {
	for _, x := range []struct {
		line   string
		change func(s *book.State)
	}{
		{"board 2 8", func(s *book.State) { s.Farm.Beds[2].Notch = 8 }},
		{"board 0 4", func(s *book.State) { s.Farm.Beds[0].Notch = 4 }},
		{"spring 1 27 30", func(s *book.State) {
			s.Farm.Springs = append(s.Farm.Springs, bed.Spring{Bed: 1, Flow: bed.Range{Lo: 27, Hi: 30}})
			s.Farm.Looks = slices.Delete(s.Farm.Looks, 1, 2)
		}},
		{"flow 2 7 9", func(s *book.State) { s.Farm.Springs[2].Flow = bed.Range{Lo: 7, Hi: 9} }},
		{"flow 0 5 5", func(s *book.State) { s.Farm.Springs[0].Flow = bed.Range{Lo: 5, Hi: 5} }},
		{"dry 1", func(s *book.State) { s.Farm.Springs = slices.Delete(s.Farm.Springs, 1, 2) }},
		{"look 1 0 2 2", func(s *book.State) {
			s.Farm.Looks = append(s.Farm.Looks, bed.Look{Bed: 1, Over: false, Water: bed.Range{Lo: 2, Hi: 2}})
		}},
		{"look 2 1 0 120", func(s *book.State) {
			s.Farm.Looks = append(s.Farm.Looks, bed.Look{Bed: 2, Over: true, Water: bed.Range{Lo: 0, Hi: 120}})
		}},
		{"strike 0", func(s *book.State) { s.Farm.Looks = slices.Delete(s.Farm.Looks, 0, 1) }},
		{"strike 2", func(s *book.State) { s.Farm.Looks = slices.Delete(s.Farm.Looks, 2, 3) }},
		{"last 1 7 9", func(s *book.State) { s.Lasts[1] = grow.Range{Lo: 7, Hi: 9} }},
		{"last 0 1 1", func(s *book.State) { s.Lasts[0] = grow.Range{Lo: 1, Hi: 1} }},
		{"cut 0 9", func(s *book.State) { s.Cuts[0] = list(3, 5, 7, 9) }},
		{"cut 2 5", func(s *book.State) { s.Cuts[2] = list(5, 9) }},
		{"cut 1 8", func(s *book.State) { s.Cuts[1] = list(8) }},
		{"spare 0 5", func(s *book.State) { s.Cuts[0] = list(3, 7) }},
		{"spare 0 3", func(s *book.State) { s.Cuts[0] = list(5, 7) }},
		{"spare 2 9", func(s *book.State) { s.Cuts[2] = nil }},
		{"woman 58 60", func(s *book.State) { s.Day.Women = append(s.Day.Women, bunch.Range{Lo: 58, Hi: 60}) }},
		{"feel 2 2 2", func(s *book.State) { s.Day.Women[2] = bunch.Range{Lo: 2, Hi: 2} }},
		{"feel 0 18 20", func(s *book.State) { s.Day.Women[0] = bunch.Range{Lo: 18, Hi: 20} }},
		{"lot 2 0 0", func(s *book.State) { s.Day.Lots = append(s.Day.Lots, bunch.Lot{Woman: 2}) }},
		{"lot 0 4998 5000", func(s *book.State) {
			s.Day.Lots = append(s.Day.Lots, bunch.Lot{Woman: 0, Stems: bunch.Range{Lo: 4998, Hi: 5000}})
			s.Day.Counts = slices.Delete(s.Day.Counts, 0, 1)
		}},
		{"stems 1 600 602", func(s *book.State) { s.Day.Lots[1].Stems = bunch.Range{Lo: 600, Hi: 602} }},
		{"drop 2", func(s *book.State) { s.Day.Lots = slices.Delete(s.Day.Lots, 2, 3) }},
		{"drop 0", func(s *book.State) { s.Day.Lots = slices.Delete(s.Day.Lots, 0, 1) }},
		{"count 5 0 0 20000", func(s *book.State) {
			s.Day.Counts = append(s.Day.Counts, bunch.Count{Kind: bunch.Spare, Number: bunch.Range{Lo: 0, Hi: 20000}})
		}},
		{"count 1 1 10 10", func(s *book.State) {
			s.Day.Counts = append(s.Day.Counts, bunch.Count{Kind: bunch.Left, Woman: 1, Number: bunch.Range{Lo: 10, Hi: 10}})
		}},
		{"void 1", func(s *book.State) { s.Day.Counts = slices.Delete(s.Day.Counts, 1, 2) }},
		{"account 20000 2 2 99999", func(s *book.State) {
			s.Accounts = append(s.Accounts, market.Account{Flats: 20000, Grade: market.Range{Lo: 2, Hi: 2}, Money: 99999})
		}},
		{"account 0 0 2 0", func(s *book.State) {
			s.Accounts = append(s.Accounts, market.Account{Grade: market.Range{Lo: 0, Hi: 2}})
		}},
		{"recall 0", func(s *book.State) { s.Accounts = slices.Delete(s.Accounts, 0, 1) }},
		{"recall 2", func(s *book.State) { s.Accounts = slices.Delete(s.Accounts, 2, 3) }},
	} {
		before := rich()
		switch x.line {
		case "spring 1 27 30":
			before = append(before, "strike 1")
		case "lot 0 4998 5000":
			before = append(before, "void 0")
		}
		want, errors := stateOf(t, rich())
		if slices.ContainsFunc(errors, func(e api.Errno) bool { return e != api.OK }) {
			t.Fatalf("Play of %q: %v", rich(), errors)
		}
		x.change(&want)
		s, errors := stateOf(t, append(before, x.line))
		if text(s) != text(want) || errors[len(errors)-1] != api.OK {
			t.Errorf("%q: %s, %v, not %s", x.line, text(s), errors[len(errors)-1], text(want))
		}
	}
}

func TestP12_1_BedsAreInARow(t *testing.T) {
	s, _ := stateOf(t, lines("cut 0 4", "last 0 1 2", "bed 0 9", "bed 9 0"))
	if !slices.Equal(s.Farm.Beds, []bed.Bed{{Need: 3, Notch: 5, Down: 1}, {Need: 0, Notch: 9, Down: 2}, {Need: 9, Notch: 0, Down: -1}}) {
		t.Errorf("the beds: %v", s.Farm.Beds)
	}
	if text(s.Lasts) != "[{Lo:1 Hi:2} {Lo:0 Hi:0} {Lo:0 Hi:0}]" || text(s.Cuts) != "[[4] [] []]" {
		t.Errorf("the weeks: %v, %v", s.Lasts, s.Cuts)
	}
}

func TestP12_1_WhatIsRemovedIsNoLongerNumbered(t *testing.T) {
	// After each of these the others have smaller numbers.
	l := lines("spring 0 1 1", "spring 0 2 2", "dry 0", "dry 1", "flow 0 3 3", "dry 0", "dry 0")
	if got := lastErrors(t, l, 7); !slices.Equal(got, list(0, 0, 0, 0, 0, 0, 7)) {
		t.Errorf("errors of %q: %v", l, got)
	}
	s, _ := stateOf(t, l[:5])
	if text(s.Farm.Springs) != "[{Bed:0 Flow:{Lo:3 Hi:3}}]" {
		t.Errorf("the springs: %v", s.Farm.Springs)
	}
	s, _ = stateOf(t, lines("lot 0 1 1", "lot 0 2 2", "lot 0 3 3", "drop 1", "stems 1 4 4", "stems 2 5 5"))
	if text(s.Day.Lots) != "[{Woman:0 Stems:{Lo:1 Hi:1}} {Woman:0 Stems:{Lo:4 Hi:4}}]" {
		t.Errorf("the lots: %v", s.Day.Lots)
	}
}

// kinds are the errors that lines of each word can have, beside ErrForm: those of their rows, and of the state (but a cut that needs the look that is struck is rare).
func kinds() map[string][]int {
	return map[string][]int{
		"bed": list(0, 2, 3), "board": list(0, 2, 7, 9, 11), "spring": list(0, 2, 3, 7, 11), "flow": list(0, 2, 7, 9, 11), "dry": list(0, 7, 9, 11), "look": list(0, 2, 3, 7, 11), "strike": list(0, 7), "last": list(0, 2, 7, 9), "cut": list(0, 2, 6, 7, 9), "spare": list(0, 7), "woman": list(0, 2, 3), "feel": list(0, 2, 3, 7, 11), "lot": list(0, 2, 3, 7, 11), "stems": list(0, 2, 3, 7, 11), "drop": list(0, 7, 11), "count": list(0, 2, 3, 7, 11), "void": list(0, 7), "account": list(0, 2, 3), "recall": list(0, 7),
	}
}

func TestP12_1_PlayAgreesWithTheDefinitions(t *testing.T) {
	seen := map[string]map[int]int{}
	for _, l := range sessions(1800, 11) {
		s, errors := stateOf(t, l)
		want, wanted := played(startOf(), l)
		if text(s) != text(want) || !slices.Equal(errors, wanted) {
			t.Fatalf("Play of %q: %s, %v, not %s, %v", l, text(s), errors, text(want), wanted)
		}
		for i, e := range errors {
			word, _, _ := strings.Cut(l[i], " ")
			if e == api.ErrForm {
				word = ""
			}
			if seen[word] == nil {
				seen[word] = map[int]int{}
			}
			seen[word][int(e)]++
		}
	}
	for word, errors := range kinds() {
		for _, e := range errors {
			if seen[word][e] < 20 {
				t.Errorf("not enough of each kind: %s, %v", word, seen[word])
			}
		}
	}
	if seen[""][4] < 1000 {
		t.Errorf("not enough lines that are none: %v", seen[""])
	}
}

func TestP12_2_Season(t *testing.T) {
	base := grow.Season{Last: 9, Stub: 1, Ripe: 6, Flower: 99, Knives: 2, Light: slices.Repeat(list(4), 10), Warm: slices.Repeat([]grow.Range{{Lo: 4, Hi: 4}}, 10)}
	for _, x := range []struct {
		l    []string
		want []grow.Bed
	}{
		{nil, []grow.Bed{{Flow: 4}}},
		{year(), []grow.Bed{{Flow: 5}, {Flow: 2, Cut: grow.Range{Lo: 0, Hi: 1}}}},
		// What is sure is the minimum, as far as looks say nothing else.
		{lines("flow 0 2 4"), []grow.Bed{{Flow: 2}}},
		{lines("flow 0 2 4", "look 0 0 3 9"), []grow.Bed{{Flow: 3}}},
		{lines("flow 0 2 4", "look 0 0 3 9", "strike 0"), []grow.Bed{{Flow: 2}}},
		{lines("flow 0 7 9", "board 0 9"), []grow.Bed{{Flow: 7}}},
		{lines("flow 0 7 9", "board 0 9", "look 0 1 0 0"), []grow.Bed{{Flow: 7}}},
		{lines("flow 0 7 10", "look 0 1 4 9"), []grow.Bed{{Flow: 5}}},
		{lines("bed 2 3", "flow 0 5 8", "look 1 0 2 9"), []grow.Bed{{Flow: 5}, {Flow: 2}}},
		{lines("bed 0 9", "bed 0 9", "spring 1 3 3", "spring 2 0 3", "last 2 9 9", "last 1 7 9"), []grow.Bed{{Flow: 4}, {Flow: 3, Cut: grow.Range{Lo: 7, Hi: 9}}, {Flow: 0, Cut: grow.Range{Lo: 9, Hi: 9}}}},
		{lines("dry 0"), []grow.Bed{{Flow: 0}}},
		// Cuts are of the plan, and no part of the season.
		{lines("cut 0 4", "cut 0 6"), []grow.Bed{{Flow: 4}}},
	} {
		want := base
		want.Beds = x.want
		if s, e := book.Season(x.l); text(s) != text(want) || e != api.OK {
			t.Errorf("Season of %q: %s, %v", x.l, text(s), e)
		}
	}
}

func TestP12_2_Market(t *testing.T) {
	for _, l := range [][]string{nil, year(), rich(), year("recall 0", "drop 1", "account 1 0 2 100")} {
		s, _ := stateOf(t, l)
		m, e := book.Market(l)
		if text(m) != text(market.Market{Prices: list(120, 90, 60), Commission: 8, Days: []bunch.Day{s.Day}, Accounts: s.Accounts}) || e != api.OK {
			t.Errorf("Market of %q: %s, %v", l, text(m), e)
		}
	}
	m, _ := book.Market(year())
	if text(m.Accounts) != "[{Day:0 Flats:1 Grade:{Lo:0 Hi:1} Money:83} {Day:0 Flats:1 Grade:{Lo:1 Hi:2} Money:56}]" {
		t.Errorf("the accounts: %s", text(m.Accounts))
	}
}

func TestP12_2_BothAgreeWithTheDefinitions(t *testing.T) {
	flows := map[int]int{}
	for _, l := range sessions(250, 12) {
		want, _ := played(startOf(), l)
		s, e := book.Season(l)
		m, f := book.Market(l)
		if text(s) != text(seasonOf(want)) || text(m) != text(marketOf(want)) || e != api.OK || f != api.OK {
			t.Fatalf("Season and Market of %q: %s, %v, %s, %v", l, text(s), e, text(m), f)
		}
		for _, b := range s.Beds {
			flows[b.Flow]++
		}
	}
	if len(flows) < 8 {
		t.Errorf("not enough of each kind: %v", flows)
	}
}

func TestP12_3_Report(t *testing.T) {
	for _, x := range []struct {
		l    []string
		want []string
	}{
		{nil, lines("bed 4..4", "yield 0..0", "flats 0..0", "leave")},
		// The chapter's examples.
		{year(), lines("bed 5..5", "bed 2..2", "yield 22..24", "flats 1..2", "due 83..111", "due 56..83", "leave")},
		{year("account 1 0 2 100"), lines("bed 5..5", "bed 2..2", "yield 22..24", "flats 1..2", "due 83..111", "due 56..83", "due 56..111", "leave 2")},
		// Without its looks a bed may keep less, and more flats than were loaded leave accounts out.
		{year("spare 1 4", "strike 0", "flow 0 4 7"), lines("bed 4..5", "bed 0..2", "yield 16..16", "flats 1..2", "due 83..111", "due 56..83", "leave")},
		{year("count 4 0 1 1"), lines("bed 5..5", "bed 2..2", "yield 22..24", "flats 1..1", "due 83..111", "due 56..83", "leave 0")},
		{year("account 3 0 0 331", "account 9 0 0 1", "account 0 2 2 0"), lines("bed 5..5", "bed 2..2", "yield 22..24", "flats 1..2", "due 83..111", "due 56..83", "due 332..332", "due 994..994", "due 0..0", "leave 2 3")},
		{lines("drop 0", "nothing", "account 1 0 0 111", "account 2 0 0 221"), lines("bed 4..4", "yield 0..0", "flats 0..0", "due 111..111", "due 221..221", "leave 0 1")},
		{lines("dry 0"), lines("bed 0..0", "yield 0..0", "flats 0..0", "leave")},
		{lines("bed 0 9", "bed 0 3", "flow 0 27 30", "lot 0 5000 5000", "last 2 1 3", "cut 2 9"), lines("bed 5..5", "bed 9..9", "bed 3..3", "yield 18..24", "flats 10..10", "leave")},
		{rich(), lines("bed 4..5", "bed 1..2", "bed 8..9", "yield 52..60", "flats 2..2", "due 83..111", "due 111..166", "due 0..0", "leave 0")},
	} {
		if s, e := book.Report(x.l); s != strings.Join(x.want, "\n")+"\n" || e != api.OK {
			t.Errorf("Report of %q: %q, %v", x.l, s, e)
		}
	}
}

func TestP12_3_ReportAgreesWithTheDefinitions(t *testing.T) {
	seen := map[string]int{}
	for _, l := range sessions(800, 13) {
		want, _ := played(startOf(), l)
		s, e := book.Report(l)
		if s != reportOf(want) || e != api.OK {
			t.Fatalf("Report of %q: %q, %v, not %q", l, s, e, reportOf(want))
		}
		for row := range strings.Lines(s) {
			var lo, hi int
			word, rest, _ := strings.Cut(strings.TrimSpace(row), " ")
			if many, _ := fmt.Sscanf(rest, "%d..%d", &lo, &hi); many == 2 {
				word += map[bool]string{true: " of one number", false: " of more"}[lo == hi]
			} else if word == "leave" {
				word += fmt.Sprint(" ", len(strings.Fields(rest)))
			}
			seen[word]++
		}
	}
	for _, what := range lines("bed of one number", "bed of more", "yield of one number", "yield of more", "flats of one number", "flats of more", "due of one number", "due of more", "leave 0", "leave 1", "leave 2", "leave 3") {
		if seen[what] < 20 {
			t.Errorf("not enough of each kind: %v", seen)
		}
	}
}

func TestP12_4_Write(t *testing.T) {
	long := strings.Repeat("x", 60)
	for _, x := range []struct {
		l    []string
		want string
	}{
		// The chapter's example; the same line has another check further on.
		{nil, ""}, {lines("a"), "0528/01/a\n"}, {lines("a", "a"), "0528/01/a\n0571/01/a\n"}, {lines("b"), "0533/01/b\n"},
		{lines("", "dry 0"), "0043/00/\n2805/05/dry 0\n"}, {lines("x/y\nz"), "2950/05/x/y\nz\n"}, {lines("ab"), "1116/02/ab\n"}, {lines("ba"), "1115/02/ba\n"},
		// A sum above the modulo, and bytes above 127.
		{lines(long), "9091/60/" + long + "\n"}, {lines("\xff\x00"), "1318/02/\xff\x00\n"}, {lines("\u00e9"), "2032/02/\u00e9\n"},
	} {
		if b, e := book.Write(x.l); string(b) != x.want || e != api.OK {
			t.Errorf("Write of %q: %q, %v", x.l, b, e)
		}
	}
}

func TestP12_4_Recover(t *testing.T) {
	fine := fileOf(lines("a", "dry 0", ""))
	forty := fileOf(times(40, "a"))
	for _, x := range []struct {
		b     string
		want  []string
		bytes int
	}{
		{"", nil, 0}, {"0528/01/a\n", lines("a"), 10}, {"0528/01/a\n0571/01/a\n", lines("a", "a"), 20}, {fine, lines("a", "dry 0", ""), 33},
		// A line that is wrong for its place.
		{"0528/01/a\n0528/01/a\n", lines("a"), 10}, {"0571/01/a\n0528/01/a\n", nil, 0}, {fine[10:], nil, 0}, {"\n" + fine, nil, 0},
		// What is not whole.
		{"0528/01/a", nil, 0}, {"0528/01/", nil, 0}, {"0528/01", nil, 0}, {"0528", nil, 0}, {"0043/00/", nil, 0}, {"0043/00/\n", lines(""), 9}, {fine[:32], lines("a", "dry 0"), 24}, {"0528/01/a\n0571/01/", lines("a"), 10},
		// What is not as it was written.
		{"0528/01/b\n", nil, 0}, {"0529/01/a\n", nil, 0}, {"0528/02/a\n", nil, 0}, {"0528/00/a\n", nil, 0}, {"0528/01/a\r", nil, 0}, {"0528:01/a\n", nil, 0}, {"0528/01:a\n", nil, 0}, {"528/01/a\n", nil, 0}, {"00528/01/a\n", nil, 0}, {"0528/1/a\n", nil, 0}, {"0528/001/a\n", nil, 0}, {" 528/01/a\n", nil, 0}, {"0528/ 1/a\n", nil, 0}, {"0528/+1/a\n", nil, 0}, {"+528/01/a\n", nil, 0}, {"0528//1/a\n", nil, 0}, {"0528/-1/a\n", nil, 0}, {"0528/0;/" + "a\n", nil, 0}, {"0528/01/a\r\n", nil, 0}, {"0528/01/a \n", nil, 0},
		// What comes after it.
		{"0528/01/a\nrest", lines("a"), 10}, {"0528/01/a\n\n", lines("a"), 10}, {fine + "\x00", lines("a", "dry 0", ""), 33},
		// Lines that have slashes, line feeds, or records in them.
		{"2950/05/x/y\nz\n", lines("x/y\nz"), 14}, {fileOf(lines(fine)), lines(fine), len(fine) + 9}, {fileOf(lines("\n", "\n\n")), lines("\n", "\n\n"), 21},
		// As many lines, and as long ones, as there can be.
		{forty, times(40, "a"), 400}, {forty + recordOf(40, "a"), times(40, "a"), 400}, {recordOf(0, strings.Repeat("1", 60)), lines(strings.Repeat("1", 60)), 69}, {recordOf(0, strings.Repeat("1", 61)), nil, 0}, {recordOf(0, "a") + recordOf(1, strings.Repeat("1", 99)), lines("a"), 10}, {recordOf(0, strings.Repeat("1", 100)), nil, 0},
	} {
		if l, n := book.Recover([]byte(x.b)); !slices.Equal(l, x.want) || n != x.bytes {
			t.Errorf("Recover of %q: %q, %d", x.b, l, n)
		}
	}
}

// someBytes is a line of any bytes.
func someBytes(r *rand.Rand) string {
	b := make([]byte, max(0, r.Intn(90)-29))
	for i := range b {
		b[i] = "0123456789/\n ab\xff\x00"[r.Intn(17)]
		if r.Intn(3) == 0 {
			b[i] = byte(r.Intn(256))
		}
	}
	return string(b)
}

// damaged is the file with some damage.
func damaged(r *rand.Rand, b []byte) []byte {
	b = slices.Clone(b)
	if len(b) == 0 {
		return []byte(someBytes(r))
	}
	at := r.Intn(len(b))
	switch r.Intn(7) {
	case 0:
		return b[:at]
	case 1:
		return b[at:]
	case 2:
		b[at] ^= 1 << r.Intn(8)
	case 3:
		b[at] = "0123456789/\n"[r.Intn(12)]
	case 4:
		return slices.Insert(b, at, byte(r.Intn(256)))
	case 5:
		return slices.Delete(b, at, min(at+1+r.Intn(3), len(b)))
	case 6:
		return append(b, someBytes(r)...)
	}
	return b
}

func TestP12_4_BothAgreeWithTheDefinitions(t *testing.T) {
	r := rand.New(rand.NewSource(14))
	seen := map[string]int{}
	for i, l := range sessions(1200, 14) {
		if i%2 == 0 {
			for n := range l {
				l[n] = someBytes(r)
			}
		}
		b, e := book.Write(l)
		if string(b) != fileOf(l) || e != api.OK {
			t.Fatalf("Write of %q: %q, %v", l, b, e)
		}
		for range r.Intn(3) {
			b = damaged(r, b)
		}
		got, n := book.Recover(b)
		want, wanted := recovered(b)
		if !slices.Equal(got, want) || n != wanted {
			t.Fatalf("Recover of %q: %q, %d, not %q, %d", b, got, n, want, wanted)
		}
		switch {
		case len(got) == len(l):
			seen["all"]++
		case len(got) > 0:
			seen["some"]++
		case len(l) > 0:
			seen["none"]++
		}
	}
	if seen["all"] < 200 || seen["some"] < 200 || seen["none"] < 100 {
		t.Errorf("not enough of each kind: %v", seen)
	}
}

func TestP12_5_Resume(t *testing.T) {
	full := fileOf(times(40, "board 0 5"))
	for _, x := range []struct {
		b    string
		more []string
		want []string
	}{
		{"", nil, nil}, {"", lines("nothing"), nil}, {"nothing", nil, nil},
		// Of the bytes all that can be read, of the session what is accepted.
		{"", lines("bed 2 2", "bed", "cut 1 9", "board 1 3"), lines("bed 2 2", "board 1 3")}, {"0528/01/a\nrest", lines("woman 5 6", "b"), lines("a", "woman 5 6")}, {fileOf(lines("dry 7", "board 0 10")), lines("dry 7", "dry 0", "dry 0"), lines("dry 7", "board 0 10", "dry 0")}, {fileOf(lines("a"))[1:], lines("dry 0"), lines("dry 0")},
		// What was read counts for what follows.
		{fileOf(year()), lines("cut 0 3", "cut 0 6", "dry 0"), year("cut 0 6")}, {fileOf(year()), nil, year()}, {fileOf(year())[:len(fileOf(year()))-1], lines("account 1 1 2 56"), year()}, {fileOf(lines("bed 2 2")), lines("board 1 3", "board 2 3"), lines("bed 2 2", "board 1 3")}, {fileOf(lines("bed 2 2", "board 1 10")), lines("board 1 10", "board 1 9"), lines("bed 2 2", "board 1 10", "board 1 9")},
		// Forty lines, whatever is refused.
		{full, nil, times(40, "board 0 5")}, {full, lines("board 7 4", "nothing"), times(40, "board 0 5")}, {full, times(40, "nothing"), times(40, "board 0 5")}, {full + "rest", lines("nothing"), times(40, "board 0 5")}, {full[:39*18], append(times(39, "nothing"), "board 0 5"), times(40, "board 0 5")}, {"", times(40, "board 0 5"), times(40, "board 0 5")}, {fileOf(times(40, "x")), times(3, "y"), times(40, "x")},
	} {
		if b, e := book.Resume([]byte(x.b), x.more); string(b) != fileOf(x.want) || e != api.OK {
			t.Errorf("Resume of %q, %q: %q, %v", x.b, x.more, b, e)
		}
	}
}

func TestP12_5_ResumeAgreesWithTheDefinitions(t *testing.T) {
	r := rand.New(rand.NewSource(15))
	seen := map[string]int{}
	all := sessions(800, 15)
	for i, l := range all {
		b := []byte(fileOf(l[:r.Intn(len(l)+1)]))
		for range max(0, r.Intn(4)-1) {
			b = damaged(r, b)
		}
		more := l[len(l)/2:]
		if r.Intn(4) == 0 {
			more = all[(i+1)%len(all)]
		}
		read, _ := recovered(b)
		s, _ := played(startOf(), read)
		_, errors := played(s, more)
		want, e := append(slices.Clone(read), acceptedOf(more, errors)...), api.OK
		if len(want) > 40 {
			want, e = nil, api.ErrLimit
		}
		got, f := book.Resume(b, more)
		if string(got) != fileOf(want) || e != f {
			t.Fatalf("Resume of %q, %q: %q, %v, not %q, %v", b, more, got, f, want, e)
		}
		switch {
		case e != api.OK:
			seen["too many"]++
		case len(read) > 0 && len(want) > len(read) && len(want) < len(read)+len(more):
			seen["some of both"]++
		}
	}
	if seen["too many"] < 30 || seen["some of both"] < 200 {
		t.Errorf("not enough of each kind: %v", seen)
	}
}
