package book_test

import (
	"bytes"
	"fmt"
	"regexp"
	"slices"
	"strconv"
	"strings"

	"watercress/api"
	"watercress/bed"
	"watercress/book"
	"watercress/bunch"
	"watercress/grow"
	"watercress/market"
)

// The oracle says what the chapter's definitions say, and shares no code with the package; it asks no layer either, but works out by the definitions what a state needs of them.

func list(l ...int) []int { return l }

func lines(l ...string) []string { return l }

// pair is a range of any layer.
type pair struct{ Lo, Hi int }

func (p pair) has(n int) bool { return p.Lo <= n && n <= p.Hi }

// wider is the range that has the number too.
func (p *pair) wider(first bool, n int) {
	if first {
		*p = pair{n, n}
	}
	*p = pair{min(p.Lo, n), max(p.Hi, n)}
}

// choices are all lists with one number of each range.
func choices(ranges []pair) [][]int {
	all := [][]int{nil}
	for _, p := range ranges {
		var longer [][]int
		for _, l := range all {
			for n := p.Lo; n <= p.Hi; n++ {
				longer = append(longer, append(slices.Clone(l), n))
			}
		}
		all = longer
	}
	return all
}

// text shows all of a state, in which nil and a list without elements are the same.
func text(x any) string { return fmt.Sprintf("%+v", x) }

func startOf() book.State {
	return book.State{
		Farm:  bed.Farm{Springs: []bed.Spring{{Flow: bed.Range{Lo: 4, Hi: 4}}}, Beds: []bed.Bed{{Need: 3, Notch: 5, Down: -1}}},
		Lasts: []grow.Range{{}},
		Cuts:  [][]int{nil},
		Day:   bunch.Day{Hand: 6, Flat: 4, Women: []bunch.Range{{Lo: 20, Hi: 20}}},
	}
}

// copied goes list by list, so that nothing of it is in the memory of the other one.
func copied(s book.State) book.State {
	c := book.State{
		Farm:     bed.Farm{Springs: append([]bed.Spring{}, s.Farm.Springs...), Beds: append([]bed.Bed{}, s.Farm.Beds...), Looks: append([]bed.Look{}, s.Farm.Looks...)},
		Lasts:    append([]grow.Range{}, s.Lasts...),
		Day:      bunch.Day{Hand: s.Day.Hand, Flat: s.Day.Flat, Women: append([]bunch.Range{}, s.Day.Women...), Lots: append([]bunch.Lot{}, s.Day.Lots...), Counts: append([]bunch.Count{}, s.Day.Counts...)},
		Accounts: append([]market.Account{}, s.Accounts...),
	}
	for _, weeks := range s.Cuts {
		c.Cuts = append(c.Cuts, append([]int{}, weeks...))
	}
	return c
}

// waterOf is what each bed keeps, and lets go on, with these flows. The beds are in a row.
func waterOf(f bed.Farm, flows []int) (kept, over []int) {
	water := 0
	for n, b := range f.Beds {
		for i, s := range f.Springs {
			if s.Bed == n {
				water += flows[i]
			}
		}
		k := min(water, b.Notch)
		water -= k
		kept, over = append(kept, k), append(over, water)
	}
	return kept, over
}

// keptOf has the bounds of what each bed keeps; none without a truth.
func keptOf(f bed.Farm) []pair {
	var flows []pair
	for _, s := range f.Springs {
		flows = append(flows, pair(s.Flow))
	}
	var bounds []pair
	for _, truth := range choices(flows) {
		kept, over := waterOf(f, truth)
		right := true
		for _, l := range f.Looks {
			seen := kept
			if l.Over {
				seen = over
			}
			right = right && pair(l.Water).has(seen[l.Bed])
		}
		if !right {
			continue
		}
		first := bounds == nil
		if first {
			bounds = make([]pair, len(kept))
		}
		for n, k := range kept {
			bounds[n].wider(first, k)
		}
	}
	return bounds
}

func seasonOf(s book.State) grow.Season {
	season := grow.Season{Last: 9, Stub: 1, Ripe: 6, Flower: 99, Knives: 2}
	for week := 0; week <= 9; week++ {
		season.Light = append(season.Light, 4)
		season.Warm = append(season.Warm, grow.Range{Lo: 4, Hi: 4})
	}
	for n, k := range keptOf(s.Farm) {
		season.Beds = append(season.Beds, grow.Bed{Flow: k.Lo, Cut: s.Lasts[n]})
	}
	return season
}

// cutsOf is what the cuts of a bed bring that was cut last in this week, and whether none of them is too early or too late.
func cutsOf(flow, last int, weeks []int) (brings int, holds bool) {
	height, holds := 0, true
	for week := 0; week <= 9; week++ {
		switch {
		case week == last:
			height = 1
		case week > last:
			height += min(4, 4, flow)
		}
		if height > 99 {
			holds = false
		}
		if slices.Contains(weeks, week) {
			holds = holds && height >= 6
			brings += height - 1
			if week >= last {
				height = 1
			}
		}
	}
	return brings, holds
}

// yieldOf has the bounds of what the plan brings, and whether it holds.
func yieldOf(s book.State) (yield pair, holds bool) {
	holds = true
	for week := 0; week <= 9; week++ {
		cut := 0
		for _, weeks := range s.Cuts {
			if slices.Contains(weeks, week) {
				cut++
			}
		}
		holds = holds && cut <= 2
	}
	var lasts []pair
	for _, r := range s.Lasts {
		lasts = append(lasts, pair(r))
	}
	kept := keptOf(s.Farm)
	for i, truth := range choices(lasts) {
		sum := 0
		for n, weeks := range s.Cuts {
			brings, is := cutsOf(kept[n].Lo, truth[n], weeks)
			sum += brings
			holds = holds && is
		}
		yield.wider(i == 0, sum)
	}
	return yield, holds
}

func sizeOf(d bunch.Day) int {
	size := 1
	for _, w := range d.Women {
		size *= w.Hi - w.Lo + 1
	}
	for _, l := range d.Lots {
		size *= l.Stems.Hi - l.Stems.Lo + 1
	}
	return size
}

// countedOf is what a count of the kind and the woman counts, by the number of stems and the feel of each woman.
func countedOf(kind, woman int, stems, feels []int) int {
	all := 0
	for w, n := range stems {
		all += n / feels[w]
	}
	return list(stems[woman]/feels[woman], stems[woman]%feels[woman], all/6, all%6, all/6/4, all/6%4)[kind]
}

// flatsOf has the bounds of the day's flats, and whether it has a truth.
func flatsOf(d bunch.Day) (flats pair, is bool) {
	var ranges []pair
	for _, w := range d.Women {
		ranges = append(ranges, pair(w))
	}
	for _, l := range d.Lots {
		ranges = append(ranges, pair(l.Stems))
	}
	for _, truth := range choices(ranges) {
		feels, stems := truth[:len(d.Women)], make([]int, len(d.Women))
		for i, l := range d.Lots {
			stems[l.Woman] += truth[len(feels)+i]
		}
		right := true
		for _, c := range d.Counts {
			right = right && pair(c.Number).has(countedOf(c.Kind, c.Woman, stems, feels))
		}
		if right {
			flats.wider(!is, countedOf(4, 0, stems, feels))
			is = true
		}
	}
	return flats, is
}

// netOf counts the hundredths that are not kept, and leaves a part of a penny to whom it is paid.
func netOf(flats, grade int) int { return (flats*list(120, 90, 60)[grade]*92 + 99) / 100 }

func dueOf(a market.Account) pair {
	var due pair
	for grade := a.Grade.Lo; grade <= a.Grade.Hi; grade++ {
		due.wider(grade == a.Grade.Lo, netOf(a.Flats, grade))
	}
	return due
}

// canLeave reports whether these accounts can be left out.
func canLeave(s book.State, out []int) bool {
	sold := 0
	for n, a := range s.Accounts {
		if slices.Contains(out, n) {
			continue
		}
		sold += a.Flats
		fits := false
		for grade := a.Grade.Lo; grade <= a.Grade.Hi; grade++ {
			fits = fits || netOf(a.Flats, grade) == a.Money
		}
		if !fits {
			return false
		}
	}
	flats, _ := flatsOf(s.Day)
	return sold <= flats.Hi && (len(out) > 0 || len(s.Accounts) == 0 || sold >= flats.Lo)
}

// leaveOf is the smallest set of accounts, of all increasing lists.
func leaveOf(s book.State) []int {
	var best []int
	found := false
	for bits := range 1 << len(s.Accounts) {
		var out []int
		for n := range s.Accounts {
			if bits>>n&1 == 1 {
				out = append(out, n)
			}
		}
		shorter := !found || len(out) < len(best) || len(out) == len(best) && slices.Compare(out, best) < 0
		if shorter && canLeave(s, out) {
			best, found = out, true
		}
	}
	return best
}

func marketOf(s book.State) market.Market {
	return market.Market{Prices: list(120, 90, 60), Commission: 8, Days: []bunch.Day{s.Day}, Accounts: s.Accounts}
}

func reportOf(s book.State) string {
	out := ""
	for _, k := range keptOf(s.Farm) {
		out += fmt.Sprintf("bed %d..%d\n", k.Lo, k.Hi)
	}
	yield, _ := yieldOf(s)
	flats, _ := flatsOf(s.Day)
	out += fmt.Sprintf("yield %d..%d\nflats %d..%d\n", yield.Lo, yield.Hi, flats.Lo, flats.Hi)
	for _, a := range s.Accounts {
		out += fmt.Sprintf("due %d..%d\n", dueOf(a).Lo, dueOf(a).Hi)
	}
	out += "leave"
	for _, n := range leaveOf(s) {
		out += fmt.Sprintf(" %d", n)
	}
	return out + "\n"
}

// faultOf says why the state does not stand.
func faultOf(s book.State) api.Errno {
	if keptOf(s.Farm) == nil {
		return api.ErrFalse
	}
	if _, holds := yieldOf(s); !holds {
		return api.ErrFail
	}
	if sizeOf(s.Day) > 2000 {
		return api.ErrLimit
	}
	if _, is := flatsOf(s.Day); !is {
		return api.ErrFalse
	}
	return api.OK
}

var shape = regexp.MustCompile(`\A([a-z]+)((?: (?:0|[1-9][0-9]{0,4}))+)\z`)

// fault is an error, if it is one.
type fault struct {
	is bool
	e  api.Errno
}

func firstOf(faults ...fault) api.Errno {
	for _, f := range faults {
		if f.is {
			return f.e
		}
	}
	return api.OK
}

func none(is bool) fault { return fault{is, api.ErrNone} }

func outside(is bool) fault { return fault{is, api.ErrRange} }

func full(is bool) fault { return fault{is, api.ErrLimit} }

// executed is the state after the line, and the error of the line, with which the state is as it was.
func executed(s book.State, line string) (book.State, api.Errno) {
	m := shape.FindStringSubmatch(line)
	if m == nil {
		return s, api.ErrForm
	}
	var n []int
	for _, x := range strings.Fields(m[2]) {
		i, _ := strconv.Atoi(x)
		n = append(n, i)
	}
	after := copied(s)
	many, known := map[string]int{"bed": 2, "board": 2, "spring": 3, "flow": 3, "dry": 1, "look": 4, "strike": 1, "last": 3, "cut": 2, "spare": 2, "woman": 2, "feel": 3, "lot": 3, "stems": 3, "drop": 1, "count": 4, "void": 1, "account": 4, "recall": 1}[m[1]]
	if !known || many != len(n) {
		return s, api.ErrForm
	}
	e := written(&after, m[1], n)
	if e == api.OK {
		e = faultOf(after)
	}
	if e != api.OK {
		return s, e
	}
	return after, api.OK
}

// written does what the line says, and returns its error.
func written(s *book.State, word string, n []int) api.Errno {
	switch word {
	case "bed", "board", "spring", "flow", "dry", "look", "strike":
		return writtenOfFarm(&s.Farm, s, word, n)
	case "last", "cut", "spare":
		return writtenOfCuts(s, word, n)
	case "account", "recall":
		return writtenOfAccounts(s, word, n)
	}
	return writtenOfDay(&s.Day, word, n)
}

// noRange reports whether a..b is no range up to most, or not narrow.
func noRange(a, b, most, narrow int) bool { return a > b || b > most || b > a+narrow }

// removed has the list without its element, if it is there.
func removed[T any](l *[]T, n int) api.Errno {
	if n >= len(*l) {
		return api.ErrNone
	}
	var out []T
	for i, x := range *l {
		if i != n {
			out = append(out, x)
		}
	}
	*l = out
	return api.OK
}

func writtenOfFarm(f *bed.Farm, s *book.State, word string, n []int) api.Errno {
	e := api.OK
	switch word {
	case "bed":
		if e = firstOf(outside(n[0] > 9 || n[1] > 9), full(len(f.Beds) == 3)); e == api.OK {
			f.Beds = append(f.Beds, bed.Bed{Need: n[0], Notch: n[1]})
			for i := range f.Beds {
				f.Beds[i].Down = i + 1
			}
			f.Beds[len(f.Beds)-1].Down = -1
			s.Lasts, s.Cuts = append(s.Lasts, grow.Range{}), append(s.Cuts, nil)
		}
	case "board":
		if e = firstOf(none(n[0] >= len(f.Beds)), outside(n[1] > 9)); e == api.OK {
			f.Beds[n[0]].Notch = n[1]
		}
	case "spring":
		if e = firstOf(none(n[0] >= len(f.Beds)), outside(noRange(n[1], n[2], 30, 3)), full(len(f.Springs) == 4)); e == api.OK {
			f.Springs = append(f.Springs, bed.Spring{Bed: n[0], Flow: bed.Range{Lo: n[1], Hi: n[2]}})
		}
	case "flow":
		if e = firstOf(none(n[0] >= len(f.Springs)), outside(noRange(n[1], n[2], 30, 3))); e == api.OK {
			f.Springs[n[0]].Flow = bed.Range{Lo: n[1], Hi: n[2]}
		}
	case "dry":
		e = removed(&f.Springs, n[0])
	case "look":
		if e = firstOf(none(n[0] >= len(f.Beds)), outside(n[1] > 1 || noRange(n[2], n[3], 120, 120)), full(len(f.Looks) == 5)); e == api.OK {
			f.Looks = append(f.Looks, bed.Look{Bed: n[0], Over: n[1] > 0, Water: bed.Range{Lo: n[2], Hi: n[3]}})
		}
	case "strike":
		e = removed(&f.Looks, n[0])
	}
	return e
}

func writtenOfCuts(s *book.State, word string, n []int) api.Errno {
	if n[0] >= len(s.Farm.Beds) {
		return api.ErrNone
	}
	is := word != "last" && slices.Contains(s.Cuts[n[0]], n[1])
	e := api.OK
	switch word {
	case "last":
		if e = firstOf(outside(noRange(n[1], n[2], 9, 2))); e == api.OK {
			s.Lasts[n[0]] = grow.Range{Lo: n[1], Hi: n[2]}
		}
	case "cut":
		if e = firstOf(outside(n[1] > 9), fault{is, api.ErrTwice}); e == api.OK {
			s.Cuts[n[0]] = append(s.Cuts[n[0]], n[1])
			slices.Sort(s.Cuts[n[0]])
		}
	case "spare":
		if e = firstOf(none(!is)); e == api.OK {
			s.Cuts[n[0]] = slices.DeleteFunc(s.Cuts[n[0]], func(week int) bool { return week == n[1] })
		}
	}
	return e
}

func writtenOfDay(d *bunch.Day, word string, n []int) api.Errno {
	e := api.OK
	switch word {
	case "woman":
		if e = firstOf(outside(n[0] == 0 || noRange(n[0], n[1], 60, 2)), full(len(d.Women) == 4)); e == api.OK {
			d.Women = append(d.Women, bunch.Range{Lo: n[0], Hi: n[1]})
		}
	case "feel":
		if e = firstOf(none(n[0] >= len(d.Women)), outside(n[1] == 0 || noRange(n[1], n[2], 60, 2))); e == api.OK {
			d.Women[n[0]] = bunch.Range{Lo: n[1], Hi: n[2]}
		}
	case "lot":
		if e = firstOf(none(n[0] >= len(d.Women)), outside(noRange(n[1], n[2], 5000, 2)), full(len(d.Lots) == 4)); e == api.OK {
			d.Lots = append(d.Lots, bunch.Lot{Woman: n[0], Stems: bunch.Range{Lo: n[1], Hi: n[2]}})
		}
	case "stems":
		if e = firstOf(none(n[0] >= len(d.Lots)), outside(noRange(n[1], n[2], 5000, 2))); e == api.OK {
			d.Lots[n[0]].Stems = bunch.Range{Lo: n[1], Hi: n[2]}
		}
	case "drop":
		e = removed(&d.Lots, n[0])
	case "count":
		if e = firstOf(outside(n[0] > 5 || n[0] > 1 && n[1] > 0 || noRange(n[2], n[3], 20000, 20000)), none(n[1] >= len(d.Women)), full(len(d.Counts) == 5)); e == api.OK {
			d.Counts = append(d.Counts, bunch.Count{Kind: n[0], Woman: n[1], Number: bunch.Range{Lo: n[2], Hi: n[3]}})
		}
	case "void":
		e = removed(&d.Counts, n[0])
	}
	return e
}

func writtenOfAccounts(s *book.State, word string, n []int) api.Errno {
	if word == "recall" {
		return removed(&s.Accounts, n[0])
	}
	e := firstOf(outside(n[0] > 20000 || noRange(n[1], n[2], 2, 2)), full(len(s.Accounts) == 5))
	if e == api.OK {
		s.Accounts = append(s.Accounts, market.Account{Flats: n[0], Grade: market.Range{Lo: n[1], Hi: n[2]}, Money: n[3]})
	}
	return e
}

// played is the state after the lines, from a state on, and their errors.
func played(s book.State, l []string) (book.State, []api.Errno) {
	var errors []api.Errno
	for _, line := range l {
		var e api.Errno
		s, e = executed(s, line)
		errors = append(errors, e)
	}
	return s, errors
}

// acceptedOf are the lines without an error.
func acceptedOf(l []string, errors []api.Errno) []string {
	var out []string
	for i, line := range l {
		if errors[i] == api.OK {
			out = append(out, line)
		}
	}
	return out
}

// recordOf is the record of the line with the index.
func recordOf(i int, line string) string {
	check := 43 * (i + 1) % 9973
	for k := 0; k < len(line); k++ {
		check = (check + (k+5)*int(line[k])) % 9973
	}
	return fmt.Sprintf("%04d/%02d/%s\n", check, len(line), line)
}

func fileOf(l []string) string {
	out := ""
	for i, line := range l {
		out += recordOf(i, line)
	}
	return out
}

// recovered tries all lines that there can be, by their lengths.
func recovered(b []byte) (l []string, at int) {
	for found := true; found && len(l) < 40; {
		found = false
		for long := 0; long <= 60 && at+9+long <= len(b); long++ {
			line := string(b[at+8 : at+8+long])
			if record := recordOf(len(l), line); bytes.HasPrefix(b[at:], []byte(record)) {
				l, at, found = append(l, line), at+len(record), true
				break
			}
		}
	}
	return l, at
}
