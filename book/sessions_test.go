package book_test

import (
	"fmt"
	"math/rand"
	"slices"
	"strings"

	"watercress/book"
)

// year is the session of the chapter's examples, with more lines.
func year(more ...string) []string {
	return append(lines("bed 2 2", "flow 0 6 8", "look 1 0 2 2", "last 1 0 1", "cut 0 2", "cut 1 4", "cut 0 4", "woman 25 25", "lot 0 500 502", "lot 1 610 610", "feel 0 20 22", "account 1 0 1 83", "account 1 1 2 56"), more...)
}

// after is a session with more lines.
func after(l []string, more ...string) []string { return append(slices.Clone(l), more...) }

// times is a line many times.
func times(many int, line string) []string { return slices.Repeat(lines(line), many) }

// ofFarm, ofCuts, ofDay and ofAccounts are all words, by what their lines are about.
var (
	ofFarm     = lines("bed", "board", "spring", "flow", "dry", "look", "strike")
	ofCuts     = lines("last", "cut", "spare")
	ofDay      = lines("woman", "feel", "lot", "stems", "drop", "count", "void")
	ofAccounts = lines("account", "recall")
	allWords   = slices.Concat(ofFarm, ofCuts, ofDay, ofAccounts)
)

// one is mostly the number of one of many.
func one(r *rand.Rand, many int) int {
	if r.Intn(9) == 0 {
		return many + r.Intn(2)*r.Intn(90000)
	}
	return r.Intn(max(many, 1))
}

// some is mostly a range from low to high, up to most, and narrow.
func some(r *rand.Rand, low, high, most, narrow int) string {
	a, wide := low+r.Intn(high-low+1), r.Intn(narrow+1)
	switch r.Intn(24) {
	case 0:
		wide = narrow + 1
	case 1:
		wide = -1
	case 2:
		a = most - r.Intn(2)
	}
	return fmt.Sprintf("%d %d", max(a, 0), max(a+wide, 0))
}

// upTo is mostly a number from low to most.
func upTo(r *rand.Rand, low, most int) int {
	if r.Intn(12) == 0 {
		return most + 1
	}
	return low + r.Intn(most-low+1)
}

// aCount is mostly one that may be right.
func aCount(r *rand.Rand, s book.State) string {
	kind, woman := upTo(r, 0, 5), one(r, len(s.Day.Women))
	if kind > 1 && r.Intn(6) > 0 {
		woman = 0
	}
	if kind > 5 || woman >= len(s.Day.Women) {
		return fmt.Sprintf("%d %d %s", kind, woman, some(r, 0, 20, 20000, 5))
	}
	feels, stems := make([]int, len(s.Day.Women)), make([]int, len(s.Day.Women))
	for w, f := range s.Day.Women {
		feels[w] = f.Lo
	}
	for _, l := range s.Day.Lots {
		stems[l.Woman] += l.Stems.Lo
	}
	n := countedOf(kind, woman, stems, feels) + max(0, r.Intn(5)-3)
	return fmt.Sprintf("%d %d %s", kind, woman, some(r, max(0, n-2), n, 20000, 5))
}

// anyLine is mostly one that can be accepted after this state; with wide, the sizes of the day may become too many.
func anyLine(r *rand.Rand, s book.State, words []string, wide bool) string {
	word := words[r.Intn(len(words))]
	beds, narrow, most := len(s.Farm.Beds), r.Intn(3), 900
	if wide {
		most = 4990
	}
	if n := 1 + r.Intn(58); wide && (word == "feel" || word == "stems") {
		return fmt.Sprintf("%s %d %d %d", word, r.Intn(4), n, n+2)
	}
	rest := ""
	switch word {
	case "bed":
		rest = fmt.Sprintf("%d %d", upTo(r, 0, 9), upTo(r, 0, 9))
	case "board":
		rest = fmt.Sprintf("%d %d", one(r, beds), upTo(r, 1, 9))
	case "spring":
		rest = fmt.Sprintf("%d %s", one(r, beds), some(r, 0, 5, 30, 3))
	case "flow":
		rest = fmt.Sprintf("%d %s", one(r, len(s.Farm.Springs)), some(r, 0, 9, 30, 3))
	case "dry":
		rest = fmt.Sprint(one(r, len(s.Farm.Springs)))
	case "look":
		rest = fmt.Sprintf("%d %d %s", one(r, beds), upTo(r, 0, 1), some(r, 0, 4, 120, 4))
		if r.Intn(3) == 0 {
			rest = fmt.Sprintf("%d %d %s", one(r, beds), upTo(r, 0, 1), some(r, 0, 1, 120, 99))
		}
	case "strike":
		rest = fmt.Sprint(one(r, len(s.Farm.Looks)))
	case "last":
		rest = fmt.Sprintf("%d %s", one(r, beds), some(r, 0, 2, 9, 2))
	case "cut":
		rest = fmt.Sprintf("%d %d", one(r, beds), upTo(r, 2, 9))
	case "spare":
		b := one(r, beds)
		rest = fmt.Sprintf("%d %d", b, upTo(r, 0, 9))
		if b < beds && len(s.Cuts[b]) > 0 && r.Intn(2) > 0 {
			rest = fmt.Sprintf("%d %d", b, s.Cuts[b][0])
		}
	case "woman":
		rest = some(r, 18, 25, 60, narrow)
	case "feel":
		rest = fmt.Sprintf("%d %s", one(r, len(s.Day.Women)), some(r, 18, 25, 60, narrow))
	case "lot":
		rest = fmt.Sprintf("%d %s", one(r, len(s.Day.Women)), some(r, 0, most, 5000, narrow))
	case "stems":
		rest = fmt.Sprintf("%d %s", one(r, len(s.Day.Lots)), some(r, 0, most, 5000, narrow))
	case "drop":
		rest = fmt.Sprint(one(r, len(s.Day.Lots)))
	case "count":
		rest = aCount(r, s)
	case "void":
		rest = fmt.Sprint(one(r, len(s.Day.Counts)))
	case "account":
		flats, low := r.Intn(4), r.Intn(3)
		high := low + r.Intn(3-low)
		rest = fmt.Sprintf("%d %d %d %d", flats, low, high, netOf(flats, high)+max(0, r.Intn(8)-6))
		if r.Intn(4) == 0 {
			rest = fmt.Sprintf("%d %s %d", upTo(r, 19990, 20000), some(r, 0, 1, 2, 1), r.Intn(100000))
		}
	case "recall":
		rest = fmt.Sprint(one(r, len(s.Accounts)))
	}
	return word + " " + rest
}

// broken is the line with something in it that no line has.
func broken(r *rand.Rand, line string) string {
	word, rest, _ := strings.Cut(line, " ")
	return []string{
		"", " ", " " + line, line + " ", word + "  " + rest, line + " 0", word, word + " ", rest, word + " 0" + rest, word + " -" + rest, word + " +" + rest, line + "\n", line + "\t", word + "\t" + rest, strings.ToUpper(word) + " " + rest, word + "s " + rest, word + " 100000" + rest, line + "x", line + ".0", word + " \u0661 " + rest, "\x00" + line,
	}[r.Intn(22)]
}

// anySession has lines of these words, of which most are accepted.
func anySession(r *rand.Rand, many int, words []string, wide bool) []string {
	s := startOf()
	var l []string
	for range many {
		line := anyLine(r, s, words, wide)
		if r.Intn(25) == 0 {
			line = broken(r, line)
		}
		s, _ = executed(s, line)
		l = append(l, line)
	}
	return l
}

// sessions are of all words; some have little else than a day, with wide ranges.
func sessions(many int, seed int64) [][]string {
	r := rand.New(rand.NewSource(seed))
	var all [][]string
	for i := range many {
		switch {
		case i%10 == 9:
			all = append(all, anySession(r, 40, lines("woman", "woman", "lot", "lot", "stems", "stems", "feel", "feel", "count", "account"), true))
		case i%5 == 4:
			all = append(all, anySession(r, 40, slices.Concat(ofFarm, ofCuts, lines("spring", "bed", "look", "look", "look", "cut", "cut", "cut")), false))
		case i%5 == 3:
			all = append(all, anySession(r, 40, slices.Concat(ofDay, ofAccounts, lines("lot", "count", "count", "count", "account")), false))
		default:
			all = append(all, anySession(r, r.Intn(41), allWords, false))
		}
	}
	return all
}
