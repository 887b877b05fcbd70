package frost

import (
	"iter"
	"slices"

	"watercress/api"
	"watercress/lists"
	"watercress/warm"
)

// beds are some of the beds: those that are flooded, or those that are above 0.
type beds [api.MaxWarmBeds]bool

// flooded returns the beds that are flooded in the hour with the plan.
func flooded(plan []int, hour int) beds {
	var some beds
	for bed, from := range plan {
		some[bed] = from != dry && from <= hour
	}
	return some
}

// above returns the beds whose warmths are above 0.
func above(warmths []int) beds {
	var some beds
	for bed, warmth := range warmths {
		some[bed] = warmth > 0
	}
	return some
}

func (b beds) and(other beds) beds {
	for bed, is := range other {
		b[bed] = b[bed] && is
	}
	return b
}

func (b beds) count() int {
	many := 0
	for _, is := range b {
		if is {
			many++
		}
	}
	return many
}

func (b beds) hasAll(list []int) bool {
	return lists.Each(list, func(_, bed int) bool { return b[bed] })
}

// hour is one of the night, with what is flooded in it: all that its warmths depend on, beside the truth.
type hour struct {
	at      int
	flooded beds
}

// verdict says which beds are above 0 in each truth, and which in some truth.
type verdict struct{ always, ever beds }

func (v verdict) and(other verdict) verdict {
	return verdict{v.always.and(other.always), v.ever.and(other.ever)}
}

// outcome is a plan with the beds that are always saved with it.
type outcome struct {
	plan  []int
	saved beds
}

// work is a valid night at work.
type work struct {
	Night
	coldest, warmest warm.Truth
	known            map[hour]verdict
	outcomes         []outcome // of all plans, once these have been tried
}

func start(n Night) work {
	w := work{Night: n, known: map[hour]verdict{}}
	w.coldest.Spring, w.warmest.Spring = n.Stream.Spring.Lo, n.Stream.Spring.Hi
	for _, air := range n.Stream.Air {
		w.coldest.Air = append(w.coldest.Air, air.Lo)
		w.warmest.Air = append(w.warmest.Air, air.Hi)
	}
	return w
}

// open returns the night at work, with the outcomes of all plans, or its error.
func open(n Night) (work, api.Errno) {
	if e := CheckNight(n); e != api.OK {
		return work{}, e
	}
	w := start(n)
	for plan := range n.plans() {
		w.outcomes = append(w.outcomes, outcome{plan, w.saved(plan).always})
	}
	return w, api.OK
}

// plans yields all plans of the night, each in memory of its own. That nothing is flooded is one of each night.
func (n Night) plans() iter.Seq[[]int] {
	return func(yield func([]int) bool) {
		for plan := range lists.Choices(n.Stream.Depths, n.numbers) {
			if n.isPlan(plan) && !yield(plan) {
				return
			}
		}
	}
}

// depths returns those of an hour in which these beds are flooded.
func (n Night) depths(flooded beds) []int {
	if flooded == (beds{}) {
		return n.Stream.Depths
	}
	all := slices.Clone(n.Stream.Depths)
	for bed := range len(all) {
		if flooded[bed] {
			all[bed] = n.Deep
		}
	}
	return all
}

// warmths returns those of all beds in the hour. What the depths are in other hours does not matter to layer 2.
func (n Night) warmths(h hour, t warm.Truth) []int {
	s := n.Stream
	s.Depths = n.depths(h.flooded)
	rows, _ := warm.Play(s, t)
	return rows[h.at]
}

// verdict returns that of the hour. With a warmer spring, or warmer air, no bed is colder (P2.6): so what is above 0 in the coldest truth is so in each one, and what is not so in the warmest one is so in none.
func (w work) verdict(h hour) verdict {
	v, ok := w.known[h]
	if !ok {
		v = verdict{above(w.warmths(h, w.coldest)), above(w.warmths(h, w.warmest))}
		w.known[h] = v
	}
	return v
}

// saved returns the verdict of all hours together: all of them are coldest in one truth, and warmest in one.
func (w work) saved(plan []int) verdict {
	night := w.verdict(hour{0, flooded(plan, 0)})
	for at := range w.Stream.Air {
		night = night.and(w.verdict(hour{at, flooded(plan, at)}))
	}
	return night
}

// best returns the plans with which the most beds are always saved, of which there is at least one, and how many beds these are.
func (w work) best() (plans [][]int, many int) {
	for _, o := range w.outcomes {
		saved := o.saved.count()
		if saved > many {
			plans, many = nil, saved
		}
		if saved == many {
			plans = append(plans, o.plan)
		}
	}
	return plans, many
}

// lost reports whether with no plan all beds of the list are always saved.
func (w work) lost(list []int) bool {
	return lists.Each(w.outcomes, func(_ int, o outcome) bool { return !o.saved.hasAll(list) })
}

// rule is what a list of beds must be.
type rule struct{ is func(work, []int) bool }

// isProof asks first whether the list rises: others may name beds that the night does not have.
func (w work) isProof(list []int) bool {
	rules := []rule{{work.isRising}, {work.lost}}
	return lists.Each(rules, func(_ int, r rule) bool { return r.is(w, list) })
}
