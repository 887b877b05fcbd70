package bunch_test

import (
	"math/rand"
	"slices"

	"watercress/api"
	"watercress/bunch"
)

// The oracle says what the chapter's definitions say, as slowly as they do, and shares no code with the package.

func to(low, high int) bunch.Range { return bunch.Range{Lo: low, Hi: high} }

func has(r bunch.Range, n int) bool { return r.Lo <= n && n <= r.Hi }

func list(l ...int) []int { return l }

func women(l ...bunch.Range) []bunch.Range { return l }

func lot(woman, low, high int) bunch.Lot { return bunch.Lot{Woman: woman, Stems: to(low, high)} }

func count(kind, woman, low, high int) bunch.Count {
	return bunch.Count{Kind: kind, Woman: woman, Number: to(low, high)}
}

func truth(feels []int, stems ...int) bunch.Truth { return bunch.Truth{Feels: feels, Stems: stems} }

// tied takes as many as there are in one away, again and again.
func tied(all, in int) (many, left int) {
	for left = all; left >= in; left -= in {
		many++
	}
	return many, left
}

// tally is what there is in the truth.
func tally(d bunch.Day, t bunch.Truth) bunch.Tally {
	var y bunch.Tally
	all := 0
	for woman, feel := range t.Feels {
		stems := 0
		for i, l := range d.Lots {
			if l.Woman == woman {
				stems += t.Stems[i]
			}
		}
		many, left := tied(stems, feel)
		y.Bunches, y.Left = append(y.Bunches, many), append(y.Left, left)
		all += many
	}
	y.Hands, y.Loose = tied(all, d.Hand)
	y.Flats, y.Spare = tied(y.Hands, d.Flat)
	return y
}

// counted is what the count counts, by the table of the chapter.
func counted(y bunch.Tally, c bunch.Count) int {
	switch c.Kind {
	case 0:
		return y.Bunches[c.Woman]
	case 1:
		return y.Left[c.Woman]
	case 2:
		return y.Hands
	case 3:
		return y.Loose
	case 4:
		return y.Flats
	}
	return y.Spare
}

// isOf reports whether the truth is one of the day.
func isOf(d bunch.Day, t bunch.Truth) bool { return len(wrong(d, t)) == 0 }

func wrong(d bunch.Day, t bunch.Truth) []int {
	var all []int
	y := tally(d, t)
	for i, c := range d.Counts {
		if !has(c.Number, counted(y, c)) {
			all = append(all, i)
		}
	}
	return all
}

// choices are all truths, of the day or not; they are counted like a number whose digits have different bases.
func choices(d bunch.Day) []bunch.Truth {
	ranges := slices.Clone(d.Women)
	for _, l := range d.Lots {
		ranges = append(ranges, l.Stems)
	}
	many := 1
	for _, r := range ranges {
		many *= r.Hi - r.Lo + 1
	}
	var all []bunch.Truth
	for n := 0; n < many; n++ {
		l := make([]int, len(ranges))
		rest := n
		for i, r := range ranges {
			l[i] = r.Lo + rest%(r.Hi-r.Lo+1)
			rest /= r.Hi - r.Lo + 1
		}
		all = append(all, truth(l[:len(d.Women)], l[len(d.Women):]...))
	}
	return all
}

// truthsBut are the truths in which all counts but those left out are right.
func truthsBut(d bunch.Day, out []int) []bunch.Truth {
	return slices.DeleteFunc(choices(d), func(t bunch.Truth) bool {
		return slices.ContainsFunc(wrong(d, t), func(n int) bool { return !slices.Contains(out, n) })
	})
}

// truths are those of the day.
func truths(d bunch.Day) []bunch.Truth { return truthsBut(d, nil) }

// tallies are those of the truths.
func tallies(d bunch.Day, in []bunch.Truth) []bunch.Tally {
	var all []bunch.Tally
	for _, t := range in {
		all = append(all, tally(d, t))
	}
	return all
}

func ends(l []int) bunch.Range { return to(slices.Min(l), slices.Max(l)) }

// bounds are the ranges of all that a Bound has, in the order of its fields.
func bounds(d bunch.Day, in []bunch.Truth) []bunch.Range {
	var all []bunch.Range
	of := func(number func(bunch.Truth, bunch.Tally) int) {
		var l []int
		for i, y := range tallies(d, in) {
			l = append(l, number(in[i], y))
		}
		all = append(all, ends(l))
	}
	for n := range d.Women {
		of(func(t bunch.Truth, _ bunch.Tally) int { return t.Feels[n] })
	}
	for n := range d.Women {
		of(func(_ bunch.Truth, y bunch.Tally) int { return y.Bunches[n] })
	}
	for n := range d.Women {
		of(func(_ bunch.Truth, y bunch.Tally) int { return y.Left[n] })
	}
	of(func(_ bunch.Truth, y bunch.Tally) int { return y.Hands })
	of(func(_ bunch.Truth, y bunch.Tally) int { return y.Loose })
	of(func(_ bunch.Truth, y bunch.Tally) int { return y.Flats })
	of(func(_ bunch.Truth, y bunch.Tally) int { return y.Spare })
	return all
}

// ranges are those of the Bound, in the order of its fields.
func ranges(b bunch.Bound) []bunch.Range {
	return slices.Concat(b.Feel, b.Bunches, b.Left, women(b.Hands, b.Loose, b.Flats, b.Spare))
}

// numbers are those of the Tally, in the order of its fields.
func numbers(y bunch.Tally) []int {
	return slices.Concat(y.Bunches, y.Left, list(y.Hands, y.Loose, y.Flats, y.Spare))
}

func thicker(in []bunch.Truth, woman, number int) int {
	many := 0
	for _, t := range in {
		if t.Feels[woman] > number {
			many++
		}
	}
	switch many {
	case len(in):
		return bunch.Always
	case 0:
		return bunch.Never
	}
	return bunch.Perhaps
}

// settle compares each two truths.
func settle(d bunch.Day, in []bunch.Truth, who []int) bool {
	all := tallies(d, in)
	for i, a := range in {
		for j, b := range in {
			same := true
			for _, n := range who {
				same = same && a.Feels[n] == b.Feels[n]
			}
			if same && all[i].Flats != all[j].Flats {
				return false
			}
		}
	}
	return true
}

// fewest reports whether there are fewest women, and who they are.
func fewest(d bunch.Day, in []bunch.Truth) ([]int, bool) {
	for _, who := range allLists(len(d.Women)) {
		if settle(d, in, who) {
			return who, true
		}
	}
	return nil, false
}

// copied has memory of its own.
func copied(d bunch.Day) bunch.Day {
	d.Women, d.Lots, d.Counts = slices.Clone(d.Women), slices.Clone(d.Lots), slices.Clone(d.Counts)
	return d
}

func same(a, b bunch.Day) bool {
	return a.Hand == b.Hand && a.Flat == b.Flat && slices.Equal(a.Women, b.Women) && slices.Equal(a.Lots, b.Lots) && slices.Equal(a.Counts, b.Counts)
}

// without is the day without the counts of the list.
func without(d bunch.Day, out []int) bunch.Day {
	c := copied(d)
	c.Counts = nil
	for i, x := range d.Counts {
		if !slices.Contains(out, i) {
			c.Counts = append(c.Counts, x)
		}
	}
	return c
}

// allLists are all increasing lists of numbers below many, by length, and then lexicographically.
func allLists(many int) [][]int {
	var all [][]int
	for mask := 0; mask < 1<<many; mask++ {
		l := []int{}
		for n := 0; n < many; n++ {
			if mask>>n&1 == 1 {
				l = append(l, n)
			}
		}
		all = append(all, l)
	}
	slices.SortFunc(all, func(a, b []int) int {
		if len(a) != len(b) {
			return len(a) - len(b)
		}
		return slices.Compare(a, b)
	})
	return all
}

// days are valid days without many truths; every fourth one has counts that may all be false, the others have counts of one truth, some of them false.
func days(many int, seed int64) []bunch.Day {
	r := rand.New(rand.NewSource(seed))
	var all []bunch.Day
	for len(all) < many {
		d := bareDay(r)
		addCounts(r, &d, r.Intn(api.MaxBunchCounts+1), len(all)%4 == 0)
		all = append(all, d)
	}
	return all
}

// bareDay has hands and flats that are mostly small, so that a bunch more or less is seen in them, and no counts.
func bareDay(r *rand.Rand) bunch.Day {
	d := bunch.Day{Hand: 1 + min(r.Intn(4), r.Intn(4)), Flat: 1 + min(r.Intn(4), r.Intn(4))}
	if r.Intn(5) == 0 {
		d.Hand, d.Flat = 1+r.Intn(api.MaxBunchHand), 1+r.Intn(api.MaxBunchFlat)
	}
	sizes := 1
	widened := func(low, by, most int) bunch.Range {
		high := min(most, low+r.Intn(by))
		if sizes*(high-low+1) > 60 {
			high = low
		}
		sizes *= high - low + 1
		return to(low, high)
	}
	for range 1 + r.Intn(api.MaxBunchWomen) {
		d.Women = append(d.Women, widened(1+min(r.Intn(30), r.Intn(30), r.Intn(api.MaxBunchFeel)), 3, api.MaxBunchFeel))
	}
	for range r.Intn(api.MaxBunchLots + 1) {
		stems := widened(min(r.Intn(300), r.Intn(500)), 1+r.Intn(2)*r.Intn(9), api.MaxBunchStems)
		d.Lots = append(d.Lots, bunch.Lot{Woman: r.Intn(len(d.Women)), Stems: stems})
	}
	return d
}

func addCounts(r *rand.Rand, d *bunch.Day, many int, wild bool) {
	own := choices(*d)
	t := own[r.Intn(len(own))]
	for range many {
		d.Counts = append(d.Counts, anyCount(r, *d, t, wild || r.Intn(6) == 0))
	}
}

// anyCount is right in the truth, or, if it is wild, perhaps not.
func anyCount(r *rand.Rand, d bunch.Day, t bunch.Truth, wild bool) bunch.Count {
	c := bunch.Count{Kind: r.Intn(6)}
	if c.Kind < 2 {
		c.Woman = r.Intn(len(d.Women))
	}
	middle := counted(tally(d, t), c)
	if wild {
		middle = max(0, middle+r.Intn(9)-4)
	}
	c.Number = to(max(0, middle-r.Intn(2)), middle+r.Intn(3))
	return c
}
