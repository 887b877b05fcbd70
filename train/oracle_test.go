package train_test

import (
	"math/rand"
	"slices"

	"watercress/api"
	"watercress/bunch"
	"watercress/train"
)

// The oracle says what the chapter's definitions say, as slowly as they do, and shares no code with the package; of the flats it asks layer 5.

func to(low, high int) train.Range { return train.Range{Lo: low, Hi: high} }

func of(low, high int) bunch.Range { return bunch.Range{Lo: low, Hi: high} }

func has(r train.Range, n int) bool { return r.Lo <= n && n <= r.Hi }

func list(l ...int) []int { return l }

func lot(woman, low, high int) bunch.Lot { return bunch.Lot{Woman: woman, Stems: of(low, high)} }

func count(kind, low, high int) bunch.Count {
	return bunch.Count{Kind: kind, Number: of(low, high)}
}

func report(kind, low, high int) train.Report {
	return train.Report{Kind: kind, Number: to(low, high)}
}

// reports are many that are alike.
func reports(many int, what train.Report) []train.Report {
	return slices.Repeat([]train.Report{what}, many)
}

// flats are those of layer 5.
func flats(m train.Morning, t bunch.Truth) int {
	y, e := bunch.Play(m.Day, t)
	if e != api.OK {
		panic("the oracle asks layer 5 of a truth that has not one number of each range")
	}
	return y.Flats
}

// run sends the boy to the station and back, until no flats are left.
func run(m train.Morning, t train.Truth) train.Run {
	left := flats(m, t.Bunch)
	r := train.Run{Flats: left, Last: m.Start}
	for minute := m.Start; left > 0; minute = r.Last + t.Back {
		taken := min(m.Load, left)
		left -= taken
		r.Trips++
		r.Last = minute + t.Out
		if r.Last <= m.Train {
			r.Caught += taken
		}
	}
	return r
}

// reported is what reports of the kind report, by the table of the chapter.
func reported(r train.Run, kind int) int { return []int{r.Flats, r.Trips, r.Caught, r.Last}[kind] }

// numbers are those of the Run, in the order of its fields, which is that of the kinds.
func numbers(r train.Run) []int { return list(r.Flats, r.Trips, r.Caught, r.Last) }

// ranges are those of the Bound, in the order of its fields.
func ranges(b train.Bound) []train.Range {
	return []train.Range{b.Flats, b.Trips, b.Caught, b.Last}
}

// wrong are the reports that are not right in the truth.
func wrong(m train.Morning, t train.Truth) []int {
	var all []int
	r := run(m, t)
	for i, what := range m.Reports {
		if !has(what.Number, reported(r, what.Kind)) {
			all = append(all, i)
		}
	}
	return all
}

// choices are all truths, whatever counts and reports say; they are counted like a number whose digits have different bases.
func choices(m train.Morning) []train.Truth {
	women := len(m.Day.Women)
	ways := women + len(m.Day.Lots)
	var all []train.Truth
	many := sizes(m)
	for n := 0; n < many; n++ {
		var l []int
		rest := n
		for _, r := range unknown(m) {
			l = append(l, r.Lo+rest%(r.Hi-r.Lo+1))
			rest /= r.Hi - r.Lo + 1
		}
		all = append(all, train.Truth{Bunch: bunch.Truth{Feels: l[:women], Stems: l[women:ways]}, Out: l[ways], Back: l[ways+1]})
	}
	return all
}

// unknown are the ranges of the women, of the lots, and of the ways.
func unknown(m train.Morning) []train.Range {
	var all []train.Range
	for _, r := range m.Day.Women {
		all = append(all, to(r.Lo, r.Hi))
	}
	for _, l := range m.Day.Lots {
		all = append(all, to(l.Stems.Lo, l.Stems.Hi))
	}
	return append(all, m.Out, m.Back)
}

func sizes(m train.Morning) int {
	many := 1
	for _, r := range unknown(m) {
		many *= r.Hi - r.Lo + 1
	}
	return many
}

// ofDay are the truths in which the day's counts are right, whatever the reports say.
func ofDay(m train.Morning) []train.Truth {
	return slices.DeleteFunc(choices(m), func(t train.Truth) bool { return !bunch.ProveTruth(m.Day, t.Bunch) })
}

// truthsBut are the truths in which all counts are right, and all reports but those left out.
func truthsBut(m train.Morning, out []int) []train.Truth {
	return slices.DeleteFunc(ofDay(m), func(t train.Truth) bool {
		return slices.ContainsFunc(wrong(m, t), func(n int) bool { return !slices.Contains(out, n) })
	})
}

// truths are those of the morning.
func truths(m train.Morning) []train.Truth { return truthsBut(m, nil) }

// bounds are the ranges of all that a Bound has, in the order of its fields.
func bounds(m train.Morning, in []train.Truth) []train.Range {
	var all []train.Range
	for kind := range 4 {
		var l []int
		for _, t := range in {
			l = append(l, reported(run(m, t), kind))
		}
		all = append(all, to(slices.Min(l), slices.Max(l)))
	}
	return all
}

func reach(m train.Morning, in []train.Truth) int {
	many := 0
	for _, t := range in {
		if r := run(m, t); r.Caught == r.Flats {
			many++
		}
	}
	switch many {
	case len(in):
		return train.Always
	case 0:
		return train.Never
	}
	return train.Perhaps
}

// suffices reports whether what the morning has does, whatever its reports say.
func suffices(m train.Morning) bool { return reach(m, ofDay(m)) == train.Always }

// latest tries all minutes, from the last one; it is -1 if none suffices.
func latest(m train.Morning) int {
	for m.Start = 600; m.Start >= 0 && !suffices(m); m.Start-- {
	}
	return m.Start
}

// least tries all loads, from the least one; it is 11 if none suffices.
func least(m train.Morning) int {
	for m.Load = 1; m.Load <= 10 && !suffices(m); m.Load++ {
	}
	return m.Load
}

// copied has memory of its own.
func copied(m train.Morning) train.Morning {
	m.Day.Women, m.Day.Lots, m.Day.Counts = slices.Clone(m.Day.Women), slices.Clone(m.Day.Lots), slices.Clone(m.Day.Counts)
	m.Reports = slices.Clone(m.Reports)
	return m
}

func same(a, b train.Morning) bool {
	return a.Day.Hand == b.Day.Hand && a.Day.Flat == b.Day.Flat && slices.Equal(a.Day.Women, b.Day.Women) && slices.Equal(a.Day.Lots, b.Day.Lots) && slices.Equal(a.Day.Counts, b.Day.Counts) &&
		a.Load == b.Load && a.Start == b.Start && a.Train == b.Train && a.Out == b.Out && a.Back == b.Back && slices.Equal(a.Reports, b.Reports)
}

// without is the morning without the reports of the list.
func without(m train.Morning, out []int) train.Morning {
	c := copied(m)
	c.Reports = nil
	for i, what := range m.Reports {
		if !slices.Contains(out, i) {
			c.Reports = append(c.Reports, what)
		}
	}
	return c
}

// allLists are all increasing lists of numbers below many, by length, and then lexicographically.
func allLists(many int) [][]int {
	var all [][]int
	for mask := range 1 << many {
		l := []int{}
		for n := range many {
			if mask>>n&1 == 1 {
				l = append(l, n)
			}
		}
		all = append(all, l)
	}
	slices.SortFunc(all, func(a, b []int) int {
		if len(a) != len(b) {
			return len(a) - len(b)
		}
		return slices.Compare(a, b)
	})
	return all
}

// mornings are valid and without many truths; every fourth one has reports that may all be false, the others have reports of one truth, some of them false.
func mornings(many int, seed int64) []train.Morning {
	r := rand.New(rand.NewSource(seed))
	var all []train.Morning
	for len(all) < many {
		m := bareMorning(r)
		if r.Intn(3) == 0 {
			addCounts(r, &m)
		}
		addReports(r, &m, r.Intn(api.MaxTrainReports+1), len(all)%4 == 0)
		all = append(all, m)
	}
	return all
}

// bareMorning has a few flats, and a train that leaves when some of them may have arrived; it has neither counts nor reports.
func bareMorning(r *rand.Rand) train.Morning {
	m := train.Morning{Load: 1 + min(r.Intn(api.MaxTrainLoad), r.Intn(4)), Start: min(r.Intn(120), r.Intn(api.MaxTrainMinute+1))}
	m.Day.Hand, m.Day.Flat = 1+min(r.Intn(3), r.Intn(3)), 1+min(r.Intn(3), r.Intn(3))
	many := 1
	widened := func(low, by, most int) train.Range {
		high := min(most, low+r.Intn(by))
		if many*(high-low+1) > 40 {
			high = low
		}
		many *= high - low + 1
		return to(low, high)
	}
	for range 1 + r.Intn(2) {
		m.Day.Women = append(m.Day.Women, bunch.Range(widened(1+min(r.Intn(6), r.Intn(6)), 3, api.MaxBunchFeel)))
	}
	for range 1 + min(r.Intn(3), r.Intn(3)) {
		m.Day.Lots = append(m.Day.Lots, bunch.Lot{Woman: r.Intn(len(m.Day.Women)), Stems: bunch.Range(widened(min(r.Intn(60), r.Intn(80)), 1+r.Intn(6), api.MaxBunchStems))})
	}
	m.Out, m.Back = widened(min(r.Intn(20), r.Intn(61)), 4, api.MaxTrainWay), widened(min(r.Intn(20), r.Intn(61)), 4, api.MaxTrainWay)
	own := choices(m)
	last := run(m, own[r.Intn(len(own))]).Last
	m.Train = max(0, min(api.MaxTrainMinute, last+r.Intn(15)-min(r.Intn(15), r.Intn(60))))
	if r.Intn(6) == 0 {
		m.Train = r.Intn(api.MaxTrainMinute + 1)
	}
	return m
}

// addCounts gives the day counts of one truth; one of them may be false, so that the day may have no truth.
func addCounts(r *rand.Rand, m *train.Morning) {
	own := choices(*m)
	y, _ := bunch.Play(m.Day, own[r.Intn(len(own))].Bunch)
	for range 1 + r.Intn(2) {
		kind := bunch.Hands + r.Intn(4)
		middle := []int{y.Hands, y.Loose, y.Flats, y.Spare}[kind-bunch.Hands]
		if r.Intn(4) == 0 {
			middle += r.Intn(3)
		}
		m.Day.Counts = append(m.Day.Counts, count(kind, max(0, middle-r.Intn(2)), middle+r.Intn(2)))
	}
}

func addReports(r *rand.Rand, m *train.Morning, many int, wild bool) {
	own := choices(*m)
	t := own[r.Intn(len(own))]
	for range many {
		m.Reports = append(m.Reports, anyReport(r, *m, t, wild || r.Intn(6) == 0))
	}
}

// anyReport is right in the truth, or, if it is wild, perhaps not.
func anyReport(r *rand.Rand, m train.Morning, t train.Truth, wild bool) train.Report {
	kind := r.Intn(4)
	middle := reported(run(m, t), kind)
	if wild {
		middle = max(0, middle+r.Intn(7)-3)
	}
	return report(kind, max(0, middle-r.Intn(2)), middle+r.Intn(3))
}
