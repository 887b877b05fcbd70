package bunch

import (
	"iter"
	"slices"

	"watercress/api"
	"watercress/lists"
)

// feels are those of all women; 0, which nobody has, where there is no woman, or she is not asked about.
type feels [api.MaxBunchWomen]int

// pile is a woman's feel with her stems.
type pile struct{ feel, stems int }

func (p pile) number() int { return p.feel }

func (p pile) bunches() int { return p.stems / p.feel }

func (p pile) left() int { return p.stems % p.feel }

// kind is what counts of a kind count, and whether they count it of one woman.
type kind struct {
	of      func(Tally, int) int
	ofWoman bool
}

func (y Tally) bunches(woman int) int { return y.Bunches[woman] }

func (y Tally) left(woman int) int { return y.Left[woman] }

func (y Tally) hands(int) int { return y.Hands }

func (y Tally) loose(int) int { return y.Loose }

func (y Tally) flats(int) int { return y.Flats }

func (y Tally) spare(int) int { return y.Spare }

func kinds() []kind {
	return []kind{
		Bunches: {Tally.bunches, true},
		Left:    {Tally.left, true},
		Hands:   {Tally.hands, false},
		Loose:   {Tally.loose, false},
		Flats:   {Tally.flats, false},
		Spare:   {Tally.spare, false},
	}
}

func (c Count) hasKind() bool { return 0 <= c.Kind && c.Kind < len(kinds()) }

func (c Count) kind() kind { return kinds()[c.Kind] }

func (c Count) right(y Tally) bool { return c.Number.has(c.kind().of(y, c.Woman)) }

// marks are some of the counts.
type marks [api.MaxBunchCounts]bool

// first returns the first of the counts; if there is none, a number above that of any count.
func (m marks) first() int {
	for n, is := range m {
		if is {
			return n
		}
	}
	return len(m)
}

// within reports whether all of the counts are in the list.
func (m marks) within(list []int) bool {
	return lists.Each(m[:], func(n int, is bool) bool { return !is || slices.Contains(list, n) })
}

// outcome is a truth with what there is in it.
type outcome struct {
	Truth
	Tally
}

// work is a valid day at work.
type work struct {
	Day
	outcomes []outcome      // those of the truths of the day
	wrong    map[marks]bool // the sets of counts that are wrong together in some truth, of the day or not
}

func start(d Day) work {
	w := work{Day: d, wrong: map[marks]bool{}}
	for t := range d.choices() {
		y := d.tally(t)
		wrong := d.wrongIn(y)
		w.wrong[wrong] = true
		if wrong == (marks{}) {
			w.outcomes = append(w.outcomes, outcome{t, y})
		}
	}
	return w
}

// open returns the day at work, or why it has no truth to ask about. What the call names beside the day must be inRange.
func open(d Day, inRange bool) (work, api.Errno) {
	if e := CheckDay(d); e != api.OK {
		return work{}, e
	}
	if !inRange {
		return work{}, api.ErrRange
	}
	w := start(d)
	if len(w.outcomes) == 0 {
		return work{}, api.ErrFalse
	}
	return w, api.OK
}

// choices yields all truths, of the day or not; each is in memory of its own.
func (d Day) choices() iter.Seq[Truth] {
	return func(yield func(Truth) bool) {
		ranges, women := d.unknown(), len(d.Women)
		numbers := make([]int, len(ranges))
		var choose func(i int) bool
		choose = func(i int) bool {
			if i == len(ranges) {
				return yield(Truth{Feels: slices.Clone(numbers[:women]), Stems: slices.Clone(numbers[women:])})
			}
			for n := ranges[i].Lo; n <= ranges[i].Hi; n++ {
				numbers[i] = n
				if !choose(i + 1) {
					return false
				}
			}
			return true
		}
		choose(0)
	}
}

// pile returns the woman's in the truth.
func (d Day) pile(t Truth, woman int) pile {
	p := pile{feel: t.Feels[woman]}
	for lot, stems := range t.Stems {
		if d.Lots[lot].Woman == woman {
			p.stems += stems
		}
	}
	return p
}

// tally returns what there is in the truth.
func (d Day) tally(t Truth) Tally {
	var y Tally
	all := 0
	for woman := range len(d.Women) {
		p := d.pile(t, woman)
		y.Bunches = append(y.Bunches, p.bunches())
		y.Left = append(y.Left, p.left())
		all += p.bunches()
	}
	y.Hands, y.Loose = all/d.Hand, all%d.Hand
	y.Flats, y.Spare = y.Hands/d.Flat, y.Hands%d.Flat
	return y
}

// wrongIn returns the counts that are wrong if this is what there is.
func (d Day) wrongIn(y Tally) marks {
	var wrong marks
	for n, c := range d.Counts {
		wrong[n] = !c.right(y)
	}
	return wrong
}

// had returns the woman's piles in all truths of the day. Most truths differ only in what others have.
func (w work) had(woman int) map[pile]bool {
	had := map[pile]bool{}
	for _, o := range w.outcomes {
		had[w.pile(o.Truth, woman)] = true
	}
	return had
}

// feelsOf returns the feels of these women alone.
func (t Truth) feelsOf(women []int) feels {
	var all feels
	for _, woman := range women {
		all[woman] = t.Feels[woman]
	}
	return all
}

// settles reports whether the feels of these women tell the number of flats.
func (w work) settles(women []int) bool {
	flats := map[feels]int{}
	for _, o := range w.outcomes {
		key := o.feelsOf(women)
		if many, ok := flats[key]; ok && many != o.Flats {
			return false
		}
		flats[key] = o.Flats
	}
	return true
}

// ends returns the bounds of a number of all elements, of which there is at least one.
func ends[T any](all iter.Seq[T], of func(T) int) Range {
	var l []int
	for x := range all {
		l = append(l, of(x))
	}
	return Range{Lo: lists.Least(l[0], l[1:]...), Hi: slices.Max(l)}
}
