package drain

import (
	"iter"
	"slices"

	"watercress/api"
	"watercress/bed"
	"watercress/lists"
)

// unreached stands for the hour of a bed that the foul water does not reach.
const unreached = -1

// hours has for each bed the hour in which the foul water reaches it in a truth, or unreached.
type hours [api.MaxBedBeds]int

// visit is a bed with an hour; a case is converted to it.
type visit struct{ Bed, Hour int }

// question is what is asked of a truth about a bed with an hour.
type question struct{ of func(hours, visit) bool }

// culprits are some of the drains.
type culprits [api.MaxDrainDrains]bool

func nowhere() hours {
	var all hours
	for n := range all {
		all[n] = unreached
	}
	return all
}

// by reports whether the bed is reached in the hour or before it.
func (h hours) by(v visit) bool { return h[v.Bed] != unreached && h[v.Bed] <= v.Hour }

// after reports whether the bed is reached after the hour, or not at all.
func (h hours) after(v visit) bool { return !h.by(v) }

// always reports whether the answer is yes in all of these truths.
func (q question) always(known []hours, about visit) bool {
	return lists.Each(known, func(_ int, h hours) bool { return q.of(h, about) })
}

// spread returns when the foul water reaches the beds in the truth. It comes to an end, because Down is always greater than the bed's own number.
func (f Foul) spread(t Truth) hours {
	waters, _ := bed.Play(f.Farm, t.Flows)
	all := nowhere()
	at, hour := f.Drains[t.Drain].Bed, t.Opened
	all[at] = hour
	for waters[at].Over > 0 && f.Farm.Beds[at].Down >= 0 {
		hour += t.Hours[at]
		at = f.Farm.Beds[at].Down
		all[at] = hour
	}
	return all
}

// firstUnexplained returns the first case that is not explained if the beds are reached so; if all are, the number of cases.
func (f Foul) firstUnexplained(h hours) int {
	for n, c := range f.Cases {
		if h.after(visit(c)) {
			return n
		}
	}
	return len(f.Cases)
}

// explainedBut reports whether all cases are explained but those of the list, which may be.
func (f Foul) explainedBut(list []int, h hours) bool {
	return lists.Each(f.Cases, func(n int, c Fever) bool { return slices.Contains(list, n) || h.by(visit(c)) })
}

// truths yields all truths, whatever the cases say.
func (f Foul) truths() iter.Seq[Truth] {
	return func(yield func(Truth) bool) {
		springs := len(f.Farm.Springs)
		for numbers := range lists.Choices(f.unknown(), Range.limits) {
			t := Truth{Flows: numbers[:springs], Hours: numbers[springs:]}
			if bed.ProveTruth(f.Farm, t.Flows) && !f.opened(t, yield) {
				return
			}
		}
	}
}

// opened yields the truth with each drain, in each hour in which this may have been opened, and reports whether more are wanted.
func (f Foul) opened(t Truth, yield func(Truth) bool) bool {
	for n, d := range f.Drains {
		t.Drain = n
		for t.Opened = d.Opened.Lo; t.Opened <= d.Opened.Hi; t.Opened++ {
			if !yield(t) {
				return false
			}
		}
	}
	return true
}

// work is a valid foul at work.
type work struct {
	Foul
	from map[hours]culprits // when the beds are reached in its truths, with the drains from which they are reached so; many truths differ in nothing of this
}

// open returns the foul at work, or why it has no truth to ask about. What the call names beside the foul must be inRange.
func open(f Foul, inRange bool) (work, api.Errno) {
	if e := CheckFoul(f); e != api.OK {
		return work{}, e
	}
	if !inRange {
		return work{}, api.ErrRange
	}
	w := work{Foul: f, from: map[hours]culprits{}}
	for t := range f.truths() {
		h := f.spread(t)
		drains := w.from[h]
		drains[t.Drain] = true
		w.from[h] = drains
	}
	if len(w.from) == 0 {
		return work{}, api.ErrFalse
	}
	return w, api.OK
}

// explaining returns when the beds are reached in the truths that explain the foul, in no certain order; otherwise it is as open.
func explaining(f Foul, inRange bool) ([]hours, api.Errno) {
	w, e := open(f, inRange)
	if e != api.OK {
		return nil, e
	}
	var known []hours
	for h := range w.from {
		if w.explainedBut(nil, h) {
			known = append(known, h)
		}
	}
	if len(known) == 0 {
		return nil, api.ErrFail
	}
	return known, api.OK
}

// visits returns in which hours which beds are reached in these truths.
func (f Foul) visits(known []hours) map[visit]bool {
	all := map[visit]bool{}
	for _, h := range known {
		for n := range len(f.Farm.Beds) {
			if h[n] != unreached {
				all[visit{n, h[n]}] = true
			}
		}
	}
	return all
}

// hasCulprit reports whether the drain explains the foul.
func (w work) hasCulprit(drain int) bool {
	for h, drains := range w.from {
		if drains[drain] && w.explainedBut(nil, h) {
			return true
		}
	}
	return false
}
