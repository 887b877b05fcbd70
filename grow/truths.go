package grow

import (
	"iter"
	"maps"
	"slices"

	"watercress/api"
	"watercress/lists"
)

// uncut stands for the week of a plan's last cut where it has none yet.
const uncut = -1

// moment is a bed at the end of a week: today. The plan has cut it last in the week cut, which is before today, or uncut.
type moment struct{ bed, cut, today int }

// marks are some of the looks.
type marks [api.MaxGrowLooks]bool

// first returns the first of the looks; if there is none, a number above that of any look.
func (m marks) first() int {
	for n, is := range m {
		if is {
			return n
		}
	}
	return len(m)
}

// within reports whether all of the looks are in the list.
func (m marks) within(list []int) bool {
	return lists.Each(m[:], func(n int, is bool) bool { return !is || slices.Contains(list, n) })
}

// work is a valid season at work.
type work struct {
	Season
	truths []Truth                 // those of the season
	wrong  map[marks]bool          // the sets of looks that are wrong together in some truth, of the season or not
	known  map[moment]map[int]bool // what had has worked out
}

func start(s Season) work {
	w := work{Season: s, wrong: map[marks]bool{}, known: map[moment]map[int]bool{}}
	for t := range s.choices() {
		wrong := s.wrongIn(t)
		w.wrong[wrong] = true
		if wrong == (marks{}) {
			w.truths = append(w.truths, t)
		}
	}
	return w
}

// open returns the season at work, or why it has no truth to ask about. What the call names beside the season must be inRange.
func open(s Season, inRange bool) (work, api.Errno) {
	if e := CheckSeason(s); e != api.OK {
		return work{}, e
	}
	if !inRange {
		return work{}, api.ErrRange
	}
	w := start(s)
	if len(w.truths) == 0 {
		return work{}, api.ErrFalse
	}
	return w, api.OK
}

// choices yields all truths, of the season or not; each is in memory of its own.
func (s Season) choices() iter.Seq[Truth] {
	return func(yield func(Truth) bool) {
		ranges, weeks := s.unknown(), len(s.Warm)
		numbers := make([]int, len(ranges))
		var choose func(i int) bool
		choose = func(i int) bool {
			if i == len(ranges) {
				return yield(Truth{Warm: slices.Clone(numbers[:weeks]), Cuts: slices.Clone(numbers[weeks:])})
			}
			for n := ranges[i].Lo; n <= ranges[i].Hi; n++ {
				numbers[i] = n
				if !choose(i + 1) {
					return false
				}
			}
			return true
		}
		choose(0)
	}
}

// height returns that of the bed in the truth. A plan that cuts it before the truth has it cut changes nothing: there is no cress yet.
func (s Season) height(t Truth, m moment) int {
	cut := t.Cuts[m.bed]
	if m.today < cut {
		return 0
	}
	height := s.Stub
	for week := max(cut, m.cut) + 1; week <= m.today; week++ {
		height += lists.Least(s.Light[week], t.Warm[week], s.Beds[m.bed].Flow)
	}
	return height
}

// wrongIn returns the looks that are wrong in the truth.
func (s Season) wrongIn(t Truth) marks {
	var wrong marks
	for n, l := range s.Looks {
		wrong[n] = !l.Height.has(s.height(t, moment{l.Bed, uncut, l.Week}))
	}
	return wrong
}

// had returns the heights of the bed at the moment in all truths of the season. A search for plans asks for the same ones again and again.
func (w work) had(m moment) map[int]bool {
	had, ok := w.known[m]
	if !ok {
		had = map[int]bool{}
		for _, t := range w.truths {
			had[w.height(t, m)] = true
		}
		w.known[m] = had
	}
	return had
}

func (s Season) canBeCut(height int) bool { return s.Ripe <= height && height <= s.Flower }

func (s Season) hasNotFlowered(height int) bool { return height <= s.Flower }

// question is what is asked of a height.
type question struct{ is func(Season, int) bool }

// answers returns all answers that there are.
func (q question) answers(s Season, heights map[int]bool) map[bool]bool {
	all := map[bool]bool{}
	for n := range heights {
		all[q.is(s, n)] = true
	}
	return all
}

// ends returns the bounds of the numbers, of which there is at least one. In which order the map gives them does not show in the result.
func ends(numbers map[int]bool) Range {
	l := slices.Collect(maps.Keys(numbers))
	return Range{Lo: lists.Least(l[0], l[1:]...), Hi: slices.Max(l)}
}
