package deed

import (
	"iter"
	"slices"
	"sort"

	"watercress/api"
	"watercress/lists"
)

// nobody stands for the farm of a minute in which the stream is stopped.
const nobody = -1

// minutes are those of all farms.
type minutes [api.MaxDeedFarms]int

// account is a farm with a clock.
type account struct{ farm, clock int }

// quantity is what is bounded: a number of each farm in a truth.
type quantity struct{ of func(work, Truth) minutes }

// wait is what When asks: since which minute, for how many.
type wait struct{ from, many int }

// marks are some of the notes.
type marks [api.MaxDeedNotes]bool

// quarrel has for each note those before it that contradict it in a truth, and the note itself if it contradicts a stop.
type quarrel [api.MaxDeedNotes]marks

// firstWrong returns the first note that contradicts one before it, or a stop; if there is none, a number above that of any note.
func (q quarrel) firstWrong() int {
	for n, with := range q {
		if with != (marks{}) {
			return n
		}
	}
	return len(q)
}

// without returns it if the notes of the list are left out.
func (q quarrel) without(list []int) quarrel {
	for _, out := range list {
		q[out] = marks{}
		for n := range q {
			q[n][out] = false
		}
	}
	return q
}

func (t Time) has(minute int) bool { return t.From <= minute && minute < t.Till }

func (t Time) long() int { return t.Till - t.From }

// before returns how many of its minutes are before this one.
func (t Time) before(minute int) int { return max(0, min(minute, t.Till)-t.From) }

func (t Time) overlaps(other Time) bool {
	return max(t.From, other.From) < min(t.Till, other.Till)
}

// clock returns what the clock shows at the minute.
func (t Truth) clock(minute int) int {
	clock := minute
	for _, stop := range t.Stops {
		clock -= stop.before(minute)
	}
	return clock
}

func (d Deed) turning(clock int) int {
	farm := nobody
	for _, t := range d.Turns {
		if t.From <= clock%d.Cycle {
			farm = t.Farm
		}
	}
	return farm
}

func (d Deed) owner(t Truth, minute int) int {
	if slices.ContainsFunc(t.Stops, func(stop Time) bool { return stop.has(minute) }) {
		return nobody
	}
	return d.turning(t.clock(minute))
}

// choices yields all truths, of the deed or not.
func (d Deed) choices() iter.Seq[Truth] {
	return func(yield func(Truth) bool) {
		stops := 2 * len(d.Stops)
		for numbers := range lists.Choices(d.unknown(), Range.limits) {
			if !yield(Truth{Stops: times(numbers[:stops]), Notes: times(numbers[stops:])}) {
				return
			}
		}
	}
}

// times returns those of which these are From and Till in turn.
func times(numbers []int) []Time {
	var all []Time
	for i := 0; i < len(numbers); i += 2 {
		all = append(all, Time{From: numbers[i], Till: numbers[i+1]})
	}
	return all
}

// quarrelIn returns what contradicts what in the truth.
func (d Deed) quarrelIn(t Truth) quarrel {
	var q quarrel
	for n, time := range t.Notes {
		q[n][n] = slices.ContainsFunc(t.Stops, time.overlaps)
		for m := range n {
			q[n][m] = d.Notes[n].Farm != d.Notes[m].Farm && time.overlaps(t.Notes[m])
		}
	}
	return q
}

// quarrels returns those of all truths, of the deed or not.
func (d Deed) quarrels() map[quarrel]bool {
	all := map[quarrel]bool{}
	for t := range d.choices() {
		all[d.quarrelIn(t)] = true
	}
	return all
}

// work is a valid deed at work.
type work struct {
	Deed
	truths []Truth         // those of the deed, once it is open
	had    map[account]int // how many minutes a farm has had when the clock comes to this; the clock skips what is stopped, so that truths differ in the clock alone
}

func start(d Deed) work {
	w := work{Deed: d, had: map[account]int{}}
	for clock := range d.Last {
		now := d.turning(clock)
		for farm := range api.MaxDeedFarms {
			had := w.had[account{farm, clock}]
			if farm == now {
				had++
			}
			w.had[account{farm, clock + 1}] = had
		}
	}
	return w
}

// open returns the deed at work, or why it has no truth to ask about. What the call names beside the deed must be inRange.
func open(d Deed, inRange bool) (work, api.Errno) {
	if e := CheckDeed(d); e != api.OK {
		return work{}, e
	}
	if !inRange {
		return work{}, api.ErrRange
	}
	w := start(d)
	for t := range d.choices() {
		if d.quarrelIn(t) == (quarrel{}) {
			w.truths = append(w.truths, t)
		}
	}
	if len(w.truths) == 0 {
		return work{}, api.ErrFalse
	}
	return w, api.OK
}

// own returns how many minutes of the time belong to the farm.
func (w work) own(t Truth, farm int, of Time) int {
	return w.had[account{farm, t.clock(of.Till)}] - w.had[account{farm, t.clock(of.From)}]
}

// due returns the minutes due to the farms in the truth.
func (w work) due(t Truth) minutes {
	var due minutes
	for farm := range api.MaxDeedFarms {
		due[farm] = w.own(t, farm, Time{From: 0, Till: w.Last})
	}
	return due
}

// over returns the minutes that the farms took beyond their turns in the truth.
func (w work) over(t Truth) minutes {
	var over minutes
	for n, time := range t.Notes {
		farm := w.Notes[n].Farm
		over[farm] += time.long() - w.own(t, farm, time)
	}
	return over
}

// when returns the numbers at which the farms have had so many minutes in the truth; for one that never has, a number above Last.
func (a wait) when(w work, t Truth) minutes {
	var when minutes
	for farm := range api.MaxDeedFarms {
		when[farm] = a.from + sort.Search(w.Last-a.from+1, func(later int) bool {
			return w.own(t, farm, Time{From: a.from, Till: a.from + later}) >= a.many
		})
	}
	return when
}

// all returns all that the quantity is in the truths of the deed. Most of these differ only in what it does not depend on.
func (w work) all(q quantity) map[minutes]bool {
	all := map[minutes]bool{}
	for _, t := range w.truths {
		all[q.of(w, t)] = true
	}
	return all
}

// ends returns the bounds of the farm's number. In which order the map gives them does not show in the result.
func ends(all map[minutes]bool, farm int) Range {
	var l []int
	for numbers := range all {
		l = append(l, numbers[farm])
	}
	return Range{Lo: lists.Least(l[0], l[1:]...), Hi: slices.Max(l)}
}
