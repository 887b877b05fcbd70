package train

import (
	"iter"

	"watercress/api"
	"watercress/bunch"
	"watercress/lists"
)

// kind is what reports of a kind report.
type kind struct{ of func(Run) int }

func (r Run) flats() int { return r.Flats }

func (r Run) trips() int { return r.Trips }

func (r Run) caught() int { return r.Caught }

func (r Run) last() int { return r.Last }

type kinds []kind

func allKinds() kinds {
	return kinds{Flats: {Run.flats}, Trips: {Run.trips}, Caught: {Run.caught}, Last: {Run.last}}
}

// isReport reports whether the report is valid; its kind must be one of these.
func (k kinds) isReport(_ int, r Report) bool {
	return 0 <= r.Kind && r.Kind < len(k) && r.Number.within(0, api.MaxTrainNumber)
}

func (k kinds) isRight(what Report, r Run) bool { return what.Number.has(k[what.Kind].of(r)) }

// rights says of each report whether it is right. One that the morning lacks is: nobody has to leave it out.
type rights [api.MaxTrainReports]bool

func allRight() rights {
	var all rights
	for n := range all {
		all[n] = true
	}
	return all
}

// without returns them if the reports of the list are not asked.
func (r rights) without(list []int) rights {
	for _, n := range list {
		r[n] = true
	}
	return r
}

// firstWrong returns the first report that is not right; if all are, a number above that of any report.
func (r rights) firstWrong() int {
	for n, is := range r {
		if !is {
			return n
		}
	}
	return len(r)
}

// rightIn returns which reports are right if this is what happens.
func (m Morning) rightIn(r Run) rights {
	all, known := allRight(), allKinds()
	for n, what := range m.Reports {
		all[n] = known.isRight(what, r)
	}
	return all
}

// reaches reports whether all flats reach the train.
func (r Run) reaches() bool { return r.Caught == r.Flats }

// run returns what happens to so many flats if the boy needs as long as in the truth.
func (m Morning) run(flats int, t Truth) Run {
	if flats == 0 {
		return Run{Last: m.Start}
	}
	trips := (flats + m.Load - 1) / m.Load
	return Run{
		Flats:  flats,
		Trips:  trips,
		Caught: min(flats, m.Load*m.inTime(trips, t)),
		Last:   m.Start + (trips-1)*(t.Out+t.Back) + t.Out,
	}
}

// inTime returns how many of the trips arrive in the minute Train or before it. There can be too many of them to try each in every truth.
func (m Morning) inTime(trips int, t Truth) int {
	left, around := m.Train-m.Start-t.Out, t.Out+t.Back
	switch {
	case left < 0:
		return 0
	case around == 0:
		return trips
	}
	return min(trips, left/around+1)
}

// work is a valid morning at work.
type work struct {
	Morning
	runs map[Run][]Truth // what happens, with the truths in which it does, whatever the reports say; those of the day's counts alone
}

func start(m Morning) work {
	w := work{Morning: m, runs: map[Run][]Truth{}}
	for t := range m.choices() {
		if !bunch.ProveTruth(m.Day, t.Bunch) {
			continue
		}
		y, _ := bunch.Play(m.Day, t.Bunch)
		r := m.run(y.Flats, t)
		w.runs[r] = append(w.runs[r], t)
	}
	return w
}

// open returns the morning at work, or why there is nothing to ask about.
func open(m Morning) (work, api.Errno) {
	if e := CheckMorning(m); e != api.OK {
		return work{}, e
	}
	w := start(m)
	if len(w.runs) == 0 {
		return work{}, api.ErrFalse
	}
	return w, api.OK
}

// ownRuns returns what happens in the truths of the morning, in no certain order; otherwise it is as open.
func ownRuns(m Morning) ([]Run, api.Errno) {
	w, e := open(m)
	if e != api.OK {
		return nil, e
	}
	var own []Run
	for r := range w.runs {
		if w.rightIn(r) == allRight() {
			own = append(own, r)
		}
	}
	if len(own) == 0 {
		return nil, api.ErrFail
	}
	return own, api.OK
}

// choices yields all truths, whatever counts and reports say.
func (m Morning) choices() iter.Seq[Truth] {
	return func(yield func(Truth) bool) {
		women, ways := len(m.Day.Women), len(m.Day.Women)+len(m.Day.Lots)
		for numbers := range lists.Choices(m.unknown(), Range.limits) {
			day := bunch.Truth{Feels: numbers[:women], Stems: numbers[women:ways]}
			if !yield(Truth{Bunch: day, Out: numbers[ways], Back: numbers[ways+1]}) {
				return
			}
		}
	}
}

// latest returns the greatest Start that suffices, or a number below 0. The last minute is later than Start by the same minutes, whatever Start is.
func (w work) latest() int {
	var starts []int
	for r := range w.runs {
		if r.Flats > 0 {
			starts = append(starts, w.Train-(r.Last-w.Start))
		}
	}
	return lists.Least(api.MaxTrainMinute, starts...)
}

// suffices reports whether the load does.
func (w work) suffices(load int) bool {
	m := w.Morning
	m.Load = load
	for r, truths := range w.runs {
		if !lists.Each(truths, func(_ int, t Truth) bool { return m.run(r.Flats, t).reaches() }) {
			return false
		}
	}
	return true
}
