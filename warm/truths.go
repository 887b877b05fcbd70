package warm

import (
	"iter"
	"maps"
	"slices"

	"watercress/api"
	"watercress/lists"
)

// pair is a spring with the air of an hour: what the warmths of the hour depend on.
type pair struct{ spring, air int }

// warmths are those of all beds in an hour; there is none in beds that the stream lacks.
type warmths [api.MaxWarmBeds]int

func (l warmths) of(bed int) int { return l[bed] }

func (l warmths) frozen(bed int) bool { return l[bed] <= 0 }

// marks are some of the readings.
type marks [api.MaxWarmReadings]bool

func marked(list []int) marks {
	var m marks
	for _, n := range list {
		m[n] = true
	}
	return m
}

func (m marks) with(other marks) marks {
	for n, is := range other {
		m[n] = m[n] || is
	}
	return m
}

// first returns the first of the readings; if there is none, a number above that of any reading.
func (m marks) first() int {
	for n, is := range m {
		if is {
			return n
		}
	}
	return len(m)
}

// work is a valid stream at work. The hours have only their spring in common: what is wrong in each is found apart from the airs of the others.
type work struct {
	Stream
	known map[pair]warmths
	wrong []map[marks]bool // for each number of Spring, the readings that are wrong together in some truth
}

func start(s Stream) work {
	w := work{Stream: s, known: map[pair]warmths{}}
	for spring := range s.Spring.all() {
		w.wrong = append(w.wrong, w.wrongWith(spring))
	}
	return w
}

// open returns the stream at work, or why it has no truth to ask about. What the call names beside the stream must be inRange.
func open(s Stream, inRange bool) (work, api.Errno) {
	if e := CheckStream(s); e != api.OK {
		return work{}, e
	}
	if !inRange {
		return work{}, api.ErrRange
	}
	w := start(s)
	if len(w.springs()) == 0 {
		return work{}, api.ErrFail
	}
	return w, api.OK
}

// unread returns the stream with this depth of the bed, and without readings.
func (s Stream) unread(bed, depth int) Stream {
	s.Depths = slices.Clone(s.Depths)
	s.Depths[bed] = depth
	s.Readings = nil
	return s
}

// all yields the numbers of the range.
func (r Range) all() iter.Seq[int] {
	return func(yield func(int) bool) {
		for n := r.Lo; n <= r.Hi && yield(n); n++ {
		}
	}
}

// flow returns the warmths with this spring and air. Go rounds a quotient towards 0, as the chapter does.
func (s Stream) flow(p pair) warmths {
	var all warmths
	water := p.spring
	for bed, depth := range s.Depths {
		water += (p.air - water) * s.Rate / (api.MaxWarmHundred * depth)
		all[bed] = water
	}
	return all
}

// warmths is flow, once for each pair: hours may have the same air.
func (w work) warmths(p pair) warmths {
	all, ok := w.known[p]
	if !ok {
		all = w.flow(p)
		w.known[p] = all
	}
	return all
}

func (r Reading) right(all warmths) bool {
	return Range{r.Seen - r.Error, r.Seen + r.Error}.has(all.of(r.Bed))
}

// wrongAt returns the readings of the hour that are wrong with these warmths.
func (s Stream) wrongAt(hour int, all warmths) marks {
	var wrong marks
	for n, r := range s.Readings {
		wrong[n] = r.Hour == hour && !r.right(all)
	}
	return wrong
}

// wrongWith returns all sets of readings that are wrong together in some truth with this spring.
func (w work) wrongWith(spring int) map[marks]bool {
	sets := map[marks]bool{{}: true}
	for hour, air := range w.Air {
		here := map[marks]bool{}
		for n := range air.all() {
			here[w.wrongAt(hour, w.warmths(pair{spring, n}))] = true
		}
		sets = joined(sets, here)
	}
	return sets
}

// joined returns what each set of the one map and each of the other are together.
func joined(some, others map[marks]bool) map[marks]bool {
	all := map[marks]bool{}
	for a := range some {
		for b := range others {
			all[a.with(b)] = true
		}
	}
	return all
}

// springs returns the numbers that Spring has in some truth of the stream: those with which nothing need be wrong.
func (w work) springs() []int {
	var list []int
	for i, sets := range w.wrong {
		if sets[marks{}] {
			list = append(list, w.Spring.Lo+i)
		}
	}
	return list
}

// had returns the warmths of the hour in all truths of the stream. With a spring of some truth any air will do with which the hour has nothing wrong.
func (w work) had(hour int) map[warmths]bool {
	had := map[warmths]bool{}
	for _, spring := range w.springs() {
		for air := range w.Air[hour].all() {
			all := w.warmths(pair{spring, air})
			if w.wrongAt(hour, all) == (marks{}) {
				had[all] = true
			}
		}
	}
	return had
}

// keeps reports whether the bed is frozen in no hour of any truth of the stream.
func (w work) keeps(bed int) bool {
	frozen := question[bool]{warmths.frozen}
	return lists.Each(w.Air, func(hour int, _ Range) bool { return !frozen.answers(w.had(hour), bed)[true] })
}

// question is what is asked of a truth about one bed in an hour.
type question[T comparable] struct{ of func(warmths, int) T }

// answers returns all answers that there are.
func (q question[T]) answers(had map[warmths]bool, bed int) map[T]bool {
	all := map[T]bool{}
	for l := range had {
		all[q.of(l, bed)] = true
	}
	return all
}

// ends returns the bounds of the numbers, of which there is at least one. In which order the map gives them does not show in the result.
func ends(numbers map[int]bool) Range {
	l := slices.Collect(maps.Keys(numbers))
	return Range{Lo: lists.Least(l[0], l[1:]...), Hi: slices.Max(l)}
}
