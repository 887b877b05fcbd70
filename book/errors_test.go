package book_test

import (
	"bytes"
	"math/rand"
	"slices"
	"strings"
	"testing"

	"watercress/api"
	"watercress/book"
	"watercress/grow"
	"watercress/market"
)

// answer is what a call returns, whatever it is called: all of it as a text, which is empty for zero values, and the error.
type answer struct {
	name, all string
	e         api.Errno
}

// answers calls everything that has an error, with this session.
func answers(l []string, b []byte) []answer {
	var all []answer
	add := func(name string, e api.Errno, x, zero any) {
		if text(x) == text(zero) {
			x = ""
		}
		all = append(all, answer{name, text(x), e})
	}
	s, errors, e := book.Play(l)
	add("Play", e, s, book.State{})
	add("the errors of Play", e, errors, []api.Errno{})
	season, e := book.Season(l)
	add("Season", e, season, grow.Season{})
	m, e := book.Market(l)
	add("Market", e, m, market.Market{})
	report, e := book.Report(l)
	add("Report", e, report, "")
	file, e := book.Write(l)
	add("Write", e, file, []byte{})
	file, e = book.Resume(b, l)
	add("Resume", e, file, []byte{})
	return all
}

// checkErrors asks for the error in each answer; with an error there must be nothing else.
func checkErrors(t *testing.T, all []answer, want api.Errno) {
	t.Helper()
	for _, a := range all {
		if a.e != want || a.e != api.OK && a.all != "" {
			t.Errorf("%s: %s, %v, not %v", a.name, a.all, a.e, want)
		}
	}
}

func TestErrLimitOfSessions(t *testing.T) {
	line := "board 0 5"
	long := strings.Repeat("1", 61)
	read := []byte(fileOf(lines("dry 0")))
	for _, x := range []struct {
		what string
		l    []string
		want api.Errno
	}{
		{"nothing", nil, api.OK}, {"40 lines", times(40, line), api.OK}, {"41 lines", times(41, line), api.ErrLimit}, {"41 lines that are none", times(41, ""), api.ErrLimit}, {"very many lines", times(100000, line), api.ErrLimit},
		{"60 bytes", lines(long[:60]), api.OK}, {"61 bytes", lines(long), api.ErrLimit}, {"61 bytes in the last line", append(times(39, line), long), api.ErrLimit}, {"60 bytes in 40 lines", times(40, long[:60]), api.OK}, {"61 bytes in the first of two lines", lines(long, line), api.ErrLimit}, {"very many bytes", lines(strings.Repeat("bed 2 2 ", 100000)), api.ErrLimit}, {"31 letters of two bytes", lines(strings.Repeat("\u00e9", 31)), api.ErrLimit}, {"30 letters of two bytes", lines(strings.Repeat("\u00e9", 30)), api.OK}, {"blanks that are too many", lines("dry 0" + strings.Repeat(" ", 56)), api.ErrLimit},
		{"both", times(41, long), api.ErrLimit},
	} {
		t.Run(x.what, func(t *testing.T) {
			checkErrors(t, answers(x.l, nil), x.want)
			if x.want != api.OK {
				checkErrors(t, answers(x.l, read), x.want)
				checkErrors(t, answers(x.l, []byte(fileOf(times(40, line)))), x.want)
			}
		})
	}
}

func TestErrLimitOfResume(t *testing.T) {
	line := "board 0 5"
	for _, x := range []struct {
		read, more []string
		want       api.Errno
	}{
		{times(40, line), lines(line), api.ErrLimit}, {times(40, line), lines("nothing"), api.OK}, {times(40, "nothing"), lines(line), api.ErrLimit}, {times(39, line), lines(line), api.OK}, {times(39, line), lines(line, line), api.ErrLimit}, {times(39, line), lines(line, "nothing"), api.OK}, {times(20, line), times(20, line), api.OK}, {times(20, "nothing"), times(21, line), api.ErrLimit}, {lines("nothing"), times(40, line), api.ErrLimit}, {nil, times(40, line), api.OK}, {times(1, line), append(times(39, line), "nothing"), api.OK}, {times(40, line), times(40, line), api.ErrLimit},
	} {
		b, e := book.Resume([]byte(fileOf(x.read)), x.more)
		if e != x.want || e != api.OK && len(b) > 0 {
			t.Errorf("Resume of %d lines and %d: %q, %v", len(x.read), len(x.more), b, e)
		}
	}
}

func TestErrFormOfLines(t *testing.T) {
	none := lines("", " ", "  ", "\n", "\x00", "0", "5 5", "nothing", "nothing 1", "nothing 1 1", "bed", "bed ", "bed 1", "bed 1 ", "bed 1 1 ", "bed  1 1", "bed 1  1", " bed 1 1", "bed 1 1 1", "bed 1 1\n", "\nbed 1 1", "bed\t1 1", "bed 1\t1", "bed 1,1", "bed,1,1", "Bed 1 1", "BED 1 1", "beds 1 1", "be 1 1", "b\u00e9d 1 1", "bed1 1", "bed 1 x", "bed x 1", "bed 1 1x", "bed 1 -1", "bed -0 1", "bed 1 +1", "bed 1 1.0", "bed 1 1e0", "bed 0x1 1", "bed 1_1 1", "bed 1 01", "bed 00 1", "bed 000000 1", "bed 1 100000", "bed 123456 1", "bed 1 99999999999999999999", "bed 1 \u0661", "bed 1 /", "bed 1 :", "bed 1 \xff", "board 0 5 0", "board 0", "spring 0 1", "spring 0 1 1 1", "flow 0 1", "flow 0 1 1 1", "dry", "dry 0 0", "dry 00", "look 0 0 1", "look 0 0 1 1 1", "strike", "strike 0 0", "last 0 0", "last 0 0 0 0", "cut 0", "cut 0 4 5", "cut 0 04", "spare 0", "spare 0 0 0", "woman 1", "woman 1 1 1", "feel 0 1", "feel 0 1 1 1", "lot 0 1", "lot 0 1 1 1", "stems 0 1", "stems 0 1 1 1", "drop", "drop 0 0", "count 4 0 0", "count 4 0 0 9 9", "void", "void 0 0", "account 1 0 1", "account 1 0 1 83 1", "recall", "recall 0 0")
	for _, line := range none {
		if l := lastErrors(t, year(line), 1); !slices.Equal(l, list(4)) {
			t.Errorf("%q: %v", line, l)
		}
	}
	// A number with five digits is one, whatever is asked of it.
	for line, want := range map[string]int{"bed 99999 0": 2, "bed 10000 0": 2, "board 99999 0": 7, "dry 99999": 7, "account 0 0 0 99999": 0, "account 0 0 0 10000": 0, "look 0 1 0 99999": 2, "spare 0 99999": 7, "count 99999 0 0 0": 2} {
		if l := lastErrors(t, year(line), 1); !slices.Equal(l, list(want)) {
			t.Errorf("%q: %v, not %d", line, l, want)
		}
	}
}

// crowded has as much of everything as there can be: beds, springs, looks, women, lots, counts and accounts.
func crowded() []string {
	return lines("bed 0 5", "bed 0 5", "spring 0 1 1", "spring 0 1 1", "spring 0 1 1", "look 0 0 0 9", "look 0 0 0 9", "look 0 0 0 9", "look 0 0 0 9", "look 0 0 5 9", "cut 0 4", "woman 20 20", "woman 20 20", "woman 20 20", "lot 0 1 1", "lot 0 1 1", "lot 0 1 1", "lot 0 1 1", "count 4 0 0 9", "count 4 0 0 9", "count 4 0 0 9", "count 4 0 0 9", "count 1 0 4 4", "account 0 0 0 0", "account 0 0 0 0", "account 0 0 0 0", "account 0 0 0 0", "account 0 0 0 0")
}

func TestErrorsOfEachLineInTheirOrder(t *testing.T) {
	if _, errors := stateOf(t, crowded()); slices.ContainsFunc(errors, func(e api.Errno) bool { return e != api.OK }) {
		t.Fatalf("Play of %q: %v", crowded(), errors)
	}
	// After year there are 2 beds, 1 spring, 1 look, 2 women, 2 lots, no counts and 2 accounts; after crowded there is no room for anything. Of several errors of a line the first one of its row counts.
	for _, x := range []struct {
		before []string
		line   string
		want   int
	}{
		{year(), "bed 9 9", 0}, {year(), "bed 0 0", 0}, {year(), "bed 10 9", 2}, {year(), "bed 9 10", 2}, {crowded(), "bed 9 9", 3}, {crowded(), "bed 10 0", 2}, {crowded(), "bed 0 10", 2},
		{year(), "board 1 9", 0}, {year(), "board 1 2", 0}, {year(), "board 1 10", 2}, {year(), "board 2 9", 7}, {year(), "board 2 10", 7}, {crowded(), "board 3 10", 7},
		{year(), "spring 1 27 30", 0}, {year(), "spring 0 0 0", 0}, {year(), "spring 0 0 3", 0}, {year(), "spring 0 0 4", 2}, {year(), "spring 0 30 31", 2}, {year(), "spring 0 31 31", 2}, {year(), "spring 0 3 2", 2}, {year(), "spring 2 0 0", 7}, {year(), "spring 2 3 2", 7}, {crowded(), "spring 0 0 0", 3}, {crowded(), "spring 0 0 4", 2}, {crowded(), "spring 0 28 31", 2}, {crowded(), "spring 0 1 0", 2}, {crowded(), "spring 3 0 4", 7},
		{year(), "flow 0 27 30", 0}, {year(), "flow 0 8 11", 0}, {year(), "flow 0 8 12", 2}, {year(), "flow 0 30 31", 2}, {year(), "flow 0 8 7", 2}, {year(), "flow 1 8 8", 7}, {year(), "flow 1 8 7", 7},
		{year("spring 1 0 0"), "dry 1", 0}, {year(), "dry 1", 7}, {crowded(), "dry 4", 7},
		{year(), "look 1 1 0 120", 0}, {year(), "look 0 0 0 5", 0}, {year(), "look 1 2 0 120", 2}, {year(), "look 1 1 0 121", 2}, {year(), "look 1 1 1 0", 2}, {year(), "look 2 1 0 120", 7}, {year(), "look 2 2 1 0", 7}, {crowded(), "look 0 0 5 5", 3}, {crowded(), "look 0 2 5 5", 2}, {crowded(), "look 0 0 5 4", 2}, {crowded(), "look 3 2 5 5", 7},
		{year("spare 1 4"), "strike 0", 0}, {year(), "strike 0", 9}, {year(), "strike 1", 7}, {crowded(), "strike 5", 7},
		{year(), "last 0 0 0", 0}, {year("spare 1 4"), "last 1 7 9", 0}, {year("spare 1 4"), "last 1 0 2", 0}, {year("spare 1 4"), "last 1 0 3", 2}, {year("spare 1 4"), "last 1 8 10", 2}, {year("spare 1 4"), "last 1 1 0", 2}, {year(), "last 2 0 0", 7}, {year(), "last 2 1 0", 7},
		{year(), "cut 0 9", 0}, {year(), "cut 0 10", 2}, {year(), "cut 0 4", 6}, {year(), "cut 2 4", 7}, {year(), "cut 2 10", 7},
		{year(), "spare 0 2", 0}, {year(), "spare 0 3", 7}, {year(), "spare 0 10", 7}, {year(), "spare 1 2", 7}, {year(), "spare 2 4", 7},
		{year(), "woman 1 3", 0}, {year(), "woman 58 60", 0}, {year(), "woman 60 60", 0}, {year(), "woman 0 0", 2}, {year(), "woman 0 2", 2}, {year(), "woman 1 4", 2}, {year(), "woman 60 61", 2}, {year(), "woman 61 61", 2}, {year(), "woman 2 1", 2}, {crowded(), "woman 1 1", 3}, {crowded(), "woman 0 0", 2}, {crowded(), "woman 1 4", 2}, {crowded(), "woman 59 61", 2}, {crowded(), "woman 2 1", 2},
		{year(), "feel 1 1 3", 0}, {year(), "feel 1 58 60", 0}, {year(), "feel 1 0 1", 2}, {year(), "feel 1 1 4", 2}, {year(), "feel 1 60 61", 2}, {year(), "feel 1 2 1", 2}, {year(), "feel 2 1 3", 7}, {year(), "feel 2 0 0", 7},
		{year(), "lot 1 4998 5000", 0}, {year(), "lot 0 0 0", 0}, {year(), "lot 0 0 3", 2}, {year(), "lot 0 5000 5001", 2}, {year(), "lot 0 5001 5001", 2}, {year(), "lot 0 1 0", 2}, {year(), "lot 2 0 0", 7}, {year(), "lot 2 1 0", 7}, {crowded(), "lot 0 0 0", 3}, {crowded(), "lot 0 0 3", 2}, {crowded(), "lot 0 1 0", 2}, {crowded(), "lot 0 4999 5001", 2}, {crowded(), "lot 4 1 0", 7},
		{year(), "stems 1 4998 5000", 0}, {year(), "stems 1 0 0", 0}, {year(), "stems 1 0 3", 2}, {year(), "stems 1 5000 5001", 2}, {year(), "stems 1 1 0", 2}, {year(), "stems 2 0 0", 7}, {year(), "stems 2 1 0", 7},
		{year(), "drop 1", 0}, {year(), "drop 2", 7}, {crowded(), "drop 4", 7},
		{year(), "count 0 1 24 24", 0}, {year(), "count 1 1 0 20000", 0}, {year(), "count 5 0 0 20000", 0}, {year(), "count 6 0 0 20000", 2}, {year(), "count 2 1 0 20000", 2}, {year(), "count 3 1 0 20000", 2}, {year(), "count 4 1 0 20000", 2}, {year(), "count 5 1 0 20000", 2}, {year(), "count 5 2 0 20000", 2}, {year(), "count 5 0 0 20001", 2}, {year(), "count 5 0 1 0", 2}, {year(), "count 0 2 0 20000", 7}, {year(), "count 1 2 0 20000", 7}, {year(), "count 6 2 0 20000", 2}, {year(), "count 1 2 0 20001", 2}, {year(), "count 1 2 1 0", 2}, {crowded(), "count 4 0 0 0", 3}, {crowded(), "count 1 4 0 9", 7}, {crowded(), "count 4 4 0 9", 2}, {crowded(), "count 7 0 0 9", 2}, {crowded(), "count 4 0 9 0", 2},
		{year("count 4 0 0 9"), "void 0", 0}, {year(), "void 0", 7}, {crowded(), "void 5", 7},
		{year(), "account 20000 2 2 99999", 0}, {year(), "account 0 0 2 0", 0}, {year(), "account 20001 0 2 0", 2}, {year(), "account 0 0 3 0", 2}, {year(), "account 0 3 3 0", 2}, {year(), "account 0 1 0 0", 2}, {crowded(), "account 1 0 0 1", 3}, {crowded(), "account 20001 0 0 0", 2}, {crowded(), "account 0 2 1 0", 2},
		{year(), "recall 1", 0}, {year(), "recall 2", 7}, {crowded(), "recall 5", 7},
	} {
		if l := lastErrors(t, append(x.before, x.line), 1); !slices.Equal(l, list(x.want)) {
			t.Errorf("%q: %v, not %d", x.line, l, x.want)
		}
	}
}

func TestErrorsOfTheState(t *testing.T) {
	full := slices.Clip(lines("woman 1 3", "woman 1 3", "woman 1 3", "feel 0 1 3", "lot 0 1 3", "lot 0 1 2", "lot 0 1 2"))
	for _, x := range []struct {
		before []string
		line   string
		want   int
	}{
		// The farm has no truth: by its looks, whatever about the cuts.
		{lines("look 0 0 4 4"), "flow 0 3 3", 11}, {lines("look 0 0 4 4"), "flow 0 3 4", 0}, {lines("look 0 0 4 4"), "dry 0", 11}, {lines("look 0 0 4 4"), "board 0 3", 11}, {lines("look 0 0 4 4"), "board 0 4", 0}, {lines("look 0 0 4 4"), "spring 0 1 1", 11}, {lines("look 0 0 4 4"), "spring 0 0 1", 0}, {lines("look 0 0 4 4"), "look 0 1 1 120", 11}, {nil, "look 0 0 5 120", 11}, {nil, "look 0 0 4 4", 0}, {nil, "look 0 1 0 0", 0}, {lines("bed 0 2", "flow 0 6 6"), "look 1 0 1 1", 0}, {lines("bed 0 2", "flow 0 6 6"), "look 1 1 1 1", 11}, {year(), "board 0 9", 11}, {year(), "dry 0", 11}, {lines("look 0 0 4 4", "cut 0 2"), "flow 0 0 0", 11},
		// The plan does not hold: the cress is too low, or more is cut than there are knives.
		{nil, "cut 0 1", 9}, {nil, "cut 0 0", 9}, {nil, "cut 0 2", 0}, {lines("cut 0 2"), "cut 0 3", 9}, {lines("cut 0 3"), "cut 0 2", 9}, {lines("cut 0 2"), "cut 0 4", 0}, {lines("cut 0 2"), "flow 0 3 3", 0}, {lines("cut 0 2"), "flow 0 2 2", 9}, {lines("cut 0 2"), "flow 0 2 5", 9}, {lines("cut 0 2"), "board 0 2", 9}, {lines("cut 0 2"), "board 0 3", 0}, {lines("cut 0 2"), "dry 0", 9}, {lines("cut 0 2"), "last 0 0 1", 9}, {lines("cut 0 3"), "last 0 0 1", 0}, {lines("cut 0 3"), "last 0 0 2", 9}, {lines("cut 0 2"), "last 0 9 9", 9}, {lines("flow 0 2 4", "look 0 0 3 4", "cut 0 2"), "strike 0", 9}, {lines("flow 0 2 4", "look 0 0 3 4", "cut 0 3"), "strike 0", 0}, {lines("flow 0 2 4"), "cut 0 2", 9},
		{lines("bed 0 9", "bed 0 9", "spring 1 9 9", "spring 2 9 9", "cut 0 4", "cut 1 4"), "cut 2 4", 9}, {lines("bed 0 9", "bed 0 9", "spring 1 9 9", "spring 2 9 9", "cut 0 4", "cut 1 4"), "cut 2 5", 0},
		// The sizes of the day are too many: up to 1944 are not, from 2187 on they are. Whether the day has a truth is not asked then.
		{full, "lot 0 1 2", 0}, {full, "lot 0 1 3", 3}, {full, "stems 2 1 3", 0}, {append(full, "stems 2 1 3"), "lot 0 1 2", 3}, {append(full, "stems 2 1 3"), "lot 0 1 1", 0}, {append(full, "lot 0 1 2"), "stems 3 1 3", 3}, {append(full, "lot 0 1 2"), "stems 0 1 3", 0}, {append(full, "stems 1 1 3", "stems 2 1 1"), "lot 0 1 3", 3}, {append(full, "stems 1 1 3", "stems 2 1 1"), "lot 0 1 2", 0}, {append(full, "feel 3 1 2", "lot 0 1 3"), "feel 3 1 3", 3}, {append(full, "feel 3 1 1", "lot 0 1 3"), "feel 3 2 3", 0}, {append(full[1:], "stems 1 1 3", "stems 2 1 3"), "woman 1 3", 3}, {append(full[1:], "stems 1 1 3", "stems 2 1 3"), "woman 1 2", 0}, {append(full, "count 4 0 0 0"), "lot 0 4998 5000", 3}, {append(full, "count 4 0 0 0"), "lot 0 5000 5000", 11},
		// The day has no truth, by its counts.
		{nil, "count 4 0 1 1", 11}, {nil, "count 0 0 1 9", 11}, {lines("count 0 0 0 0"), "lot 0 20 20", 11}, {lines("count 0 0 0 0"), "lot 0 19 20", 0}, {lines("lot 0 20 20", "count 0 0 1 1"), "feel 0 21 21", 11}, {lines("lot 0 20 20", "count 0 0 1 1"), "feel 0 20 21", 0}, {lines("lot 0 20 20", "count 0 0 1 1"), "stems 0 40 40", 11}, {lines("lot 0 20 20", "count 0 0 1 1"), "drop 0", 11}, {lines("lot 0 20 20", "count 0 0 1 1"), "count 1 0 1 1", 11}, {lines("lot 0 20 20", "count 0 0 1 1"), "count 1 0 0 0", 0}, {lines("lot 0 20 20", "count 0 0 1 1"), "void 0", 0},
		// An account may be as false as it can be.
		{nil, "account 20000 0 0 1", 0},
	} {
		l := lastErrors(t, append(slices.Clone(x.before), x.line), 1)
		want, wanted := played(startOf(), append(slices.Clone(x.before), x.line))
		if last := int(wanted[len(wanted)-1]); !slices.Equal(l, list(x.want)) || last != x.want {
			t.Errorf("%q, %q: %v, not %d (by the oracle %d, %s)", x.before, x.line, l, x.want, last, text(want))
		}
	}
}

func TestP1_AnyArguments(t *testing.T) {
	r := rand.New(rand.NewSource(1))
	seen := map[api.Errno]int{}
	all := sessions(600, 1)
	for i := range all {
		l := all[i]
		for range r.Intn(4) {
			switch r.Intn(5) {
			case 0:
				l = slices.Insert(l, r.Intn(len(l)+1), someBytes(r))
			case 1:
				l = append(l, all[r.Intn(len(all))]...)
			case 2:
				l = slices.Insert(l, r.Intn(len(l)+1), strings.Repeat(" ", 59+r.Intn(3)))
			case 3:
				l = append(l, allWords[r.Intn(len(allWords))]+strings.Repeat(" 9", r.Intn(6)))
			case 4:
				l = append(l, allWords[r.Intn(len(allWords))]+strings.Repeat(" 99999", r.Intn(6)))
			}
		}
		want := api.OK
		if len(l) > 40 || slices.ContainsFunc(l, func(line string) bool { return len(line) > 60 }) {
			want = api.ErrLimit
		}
		b := []byte(someBytes(r))
		checkErrors(t, answers(l, b), want)
		if got, n := book.Recover(b); n < 0 || n > len(b) || len(got) > 40 {
			t.Errorf("Recover of %q: %q, %d", b, got, n)
		}
		if want == api.OK {
			s, errors, _ := book.Play(l)
			x, wanted := played(startOf(), l)
			if text(s) != text(x) || !slices.Equal(errors, wanted) {
				t.Errorf("Play: %s, %v, not %s, %v", text(s), errors, text(x), wanted)
			}
		}
		if t.Failed() {
			t.Fatalf("with %q, %q", l, b)
		}
		seen[want]++
	}
	if seen[api.OK] < 100 || seen[api.ErrLimit] < 100 {
		t.Errorf("not enough of each kind: %v", seen)
	}
	if l, n := book.Recover(nil); len(l) > 0 || n != 0 {
		t.Errorf("Recover of nothing: %q, %d", l, n)
	}
	if l, n := book.Recover(bytes.Repeat([]byte("0043/00/\n"), 100000)); len(l) != 1 || n != 9 {
		t.Errorf("Recover of very many bytes: %q, %d", l, n)
	}
}

func TestP1_TheLargestSession(t *testing.T) {
	// As many truths as there can be, asked after each of as many lines as there can be, of which some are executed twice.
	l := slices.Concat(
		lines("bed 9 9", "bed 9 9", "flow 0 5 8", "spring 1 5 8", "spring 2 5 8", "spring 2 5 8", "last 0 0 2", "last 1 0 2", "last 2 0 2"), times(5, "look 2 1 0 120"),
		times(3, "woman 1 3"), lines("feel 0 1 3", "lot 0 4998 5000", "lot 1 4999 5000", "lot 2 4999 5000", "lot 3 4999 5000"), times(5, "count 4 0 0 20000"), times(5, "account 834 0 2 1"), times(8, "board 2 9"))
	s, errors := stateOf(t, l)
	want, wanted := played(startOf(), l)
	if text(s) != text(want) || !slices.Equal(errors, wanted) || len(l) != 40 || len(acceptedOf(l, errors)) != 40 || sizeOf(s.Day) != 1944 {
		t.Errorf("Play: %s, %v, not %s, %v", text(s), errors, text(want), wanted)
	}
	if s, e := book.Report(l); s != reportOf(want) || !strings.Contains(s, "flats 277..833\n") || !strings.HasSuffix(s, "leave 0 1 2 3 4\n") || e != api.OK {
		t.Errorf("Report: %q, %v", s, e)
	}
	if b, e := book.Resume([]byte(fileOf(l)), times(40, "nothing")); string(b) != fileOf(l) || e != api.OK {
		t.Errorf("Resume: %q, %v", b, e)
	}
	if b, e := book.Resume([]byte(fileOf(l)), times(40, "board 2 9")); len(b) > 0 || e != api.ErrLimit {
		t.Errorf("Resume: %q, %v", b, e)
	}
}

func TestR3_EmptyIsNil(t *testing.T) {
	a, b := answers(nil, nil), answers(lines(), []byte{})
	for i := range a {
		if a[i] != b[i] || a[i].e != api.OK {
			t.Errorf("%s: %v, and %v of a list without elements", a[i].name, a[i], b[i])
		}
	}
	if l, n := book.Recover([]byte{}); len(l) > 0 || n != 0 {
		t.Errorf("Recover of no bytes: %q, %d", l, n)
	}
}

func TestR4_ArgumentsAreNotWrittenTo(t *testing.T) {
	for _, l := range append(sessions(40, 4), year(), rich(), crowded()) {
		was, b := slices.Clone(l), []byte(fileOf(l[:len(l)/2]))
		bytesWere := slices.Clone(b)
		before := answers(l, b)
		book.Recover(b)
		if !slices.Equal(l, was) || !bytes.Equal(b, bytesWere) {
			t.Fatalf("%q became %q, or %q became %q", was, l, bytesWere, b)
		}
		if again := answers(l, b); !slices.Equal(again, before) {
			t.Fatalf("of %q: %v, and then %v", l, before, again)
		}
	}
}

func TestR4_ListsWithRoomAreNotWrittenTo(t *testing.T) {
	// Behind each list there is memory that belongs to somebody else.
	all, file := year("not ours"), append([]byte(fileOf(year())), "not ours"...)
	l, b := all[:len(all)-1], file[:len(file)-8]
	checkErrors(t, answers(l, b), api.OK)
	book.Recover(b)
	if all[len(all)-1] != "not ours" || string(file[len(b):]) != "not ours" {
		t.Errorf("%q or %q was written to", all, file)
	}
}

// overwrite writes to everything of the state, and behind each list.
func overwrite(s book.State) {
	for _, weeks := range s.Cuts {
		for i := range weeks {
			weeks[i] = 99
		}
		_ = append(weeks, 98)
	}
	clear(s.Farm.Beds)
	clear(s.Farm.Springs)
	clear(s.Farm.Looks)
	clear(s.Lasts)
	clear(s.Cuts)
	clear(s.Day.Women)
	clear(s.Day.Lots)
	clear(s.Day.Counts)
	clear(s.Accounts)
}

func TestR4_ResultsAreInMemoryOfTheirOwn(t *testing.T) {
	for _, l := range [][]string{year(), rich(), crowded(), year("nothing", "cut 0 3")} {
		before := answers(l, nil)
		s, errors := stateOf(t, l)
		season, _ := book.Season(l)
		m, _ := book.Market(l)
		overwrite(s)
		clear(errors)
		clear(season.Light)
		clear(season.Warm)
		clear(season.Beds)
		clear(m.Prices)
		overwrite(book.State{Day: m.Days[0], Accounts: m.Accounts})
		clear(m.Days)
		if again := answers(l, nil); !slices.Equal(again, before) {
			t.Errorf("of %q: %v; after the results were written to: %v", l, before, again)
		}
	}
	// What is written behind one list of cuts is not in the next one.
	s, _ := stateOf(t, lines("bed 0 5", "bed 0 5", "spring 1 4 4", "cut 0 4", "cut 0 6", "cut 1 4", "cut 1 7", "spare 0 6"))
	_ = append(s.Cuts[0], 99, 99, 99)
	if text(s.Cuts) != "[[4] [4 7] []]" {
		t.Errorf("the lists share memory: %v", s.Cuts)
	}
	b := []byte(fileOf(year()))
	l, _ := book.Recover(b)
	resumed, _ := book.Resume(b, nil)
	written, _ := book.Write(l)
	clear(b)
	if !slices.Equal(l, year()) || string(resumed) != fileOf(year()) || string(written) != fileOf(year()) {
		t.Errorf("results are in the memory of the bytes: %q, %q, %q", l, resumed, written)
	}
}

func TestExampleOfTheReadme(t *testing.T) {
	session := []string{"bed 2 2", "flow 0 6 8", "cut 1 4", "look 1 0 2 2", "cut 1 4", "lot 0 500 502", "account 1 0 2 111"}
	state, refused, e := book.Play(session)
	if text(state.Cuts) != "[[] [4]]" || !slices.Equal(refused, []api.Errno{0, 0, api.ErrFail, 0, 0, 0, 0}) || e != api.OK {
		t.Errorf("Play: %s, %v, %v", text(state), refused, e)
	}
	if s, e := book.Report(session); s != "bed 5..5\nbed 2..2\nyield 8..8\nflats 1..1\ndue 56..111\nleave\n" || e != api.OK {
		t.Errorf("Report: %q, %v", s, e)
	}
	written, e := book.Write(session)
	if len(written) != 136 || e != api.OK {
		t.Errorf("Write: %q, %v", written, e)
	}
	whole, many := book.Recover(written[:len(written)-1])
	if !slices.Equal(whole, session[:6]) || many != 110 {
		t.Errorf("Recover: %q, %d", whole, many)
	}
	if b, e := book.Resume(written[:len(written)-1], session[6:]); string(b) != string(written) || e != api.OK {
		t.Errorf("Resume: %q, %v", b, e)
	}
}
