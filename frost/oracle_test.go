package frost_test

import (
	"math/rand"
	"slices"

	"watercress/api"
	"watercress/frost"
	"watercress/warm"
)

// The oracle says what the chapter's definitions say, as slowly as they do, and shares no code with the package; it does not ask layer 2, either, and tries each truth.

func list(l ...int) []int { return l }

func rows(l ...[]int) [][]int { return l }

func to(low, high int) warm.Range { return warm.Range{Lo: low, Hi: high} }

// ranges are of these ends.
func ranges(l ...int) []warm.Range {
	var all []warm.Range
	for i := 0; i < len(l); i += 2 {
		all = append(all, to(l[i], l[i+1]))
	}
	return all
}

func has(r warm.Range, n int) bool { return r.Lo <= n && n <= r.Hi }

func truth(spring int, air ...int) warm.Truth { return warm.Truth{Spring: spring, Air: air} }

// depth is that of the bed in the hour, with the plan.
func depth(n frost.Night, plan []int, bed, hour int) int {
	for from := 0; from <= hour; from++ {
		if plan[bed] == from {
			return n.Deep
		}
	}
	return n.Stream.Depths[bed]
}

// warmth goes up from the bed to the spring. What it adds to the water is counted up from 0, until one more would be too much.
func warmth(n frost.Night, plan []int, t warm.Truth, bed, hour int) int {
	water := t.Spring
	if bed > 0 {
		water = warmth(n, plan, t, bed-1, hour)
	}
	far, sign := t.Air[hour]-water, 1
	if far < 0 {
		far, sign = -far, -1
	}
	nearer := 0
	for (nearer+1)*100*depth(n, plan, bed, hour) <= far*n.Stream.Rate {
		nearer++
	}
	return water + sign*nearer
}

// warmths are those of all beds, for each hour.
func warmths(n frost.Night, plan []int, t warm.Truth) [][]int {
	var all [][]int
	for hour := range n.Stream.Air {
		var row []int
		for bed := range n.Stream.Depths {
			row = append(row, warmth(n, plan, t, bed, hour))
		}
		all = append(all, row)
	}
	return all
}

// isPlan reports whether the list is one of the night.
func isPlan(n frost.Night, plan []int) bool {
	if len(plan) != len(n.Stream.Depths) {
		return false
	}
	begun, in := map[int]int{}, 0
	for _, hour := range plan {
		if hour == -1 {
			continue
		}
		begun[hour]++
		in++
		if hour < 0 || hour >= len(n.Stream.Air) || begun[hour] > n.Hands || in > n.Most {
			return false
		}
	}
	return true
}

// digits are those of all lists of so many digits, from 0 on, that count like a number whose digits have these bases.
func digits(bases []int) [][]int {
	many := 1
	for _, base := range bases {
		many *= base
	}
	var all [][]int
	for n := range many {
		l := make([]int, len(bases))
		for i, base := range bases {
			l[i] = n % base
			n /= base
		}
		all = append(all, l)
	}
	return all
}

// plans are all of the night.
func plans(n frost.Night) [][]int {
	var all [][]int
	for _, l := range digits(slices.Repeat(list(len(n.Stream.Air)+1), len(n.Stream.Depths))) {
		for bed := range l {
			l[bed]--
		}
		if isPlan(n, l) {
			all = append(all, l)
		}
	}
	return all
}

// truths are all of the night.
func truths(n frost.Night) []warm.Truth {
	bases := list(n.Stream.Spring.Hi - n.Stream.Spring.Lo + 1)
	for _, air := range n.Stream.Air {
		bases = append(bases, air.Hi-air.Lo+1)
	}
	var all []warm.Truth
	for _, l := range digits(bases) {
		t := truth(n.Stream.Spring.Lo + l[0])
		for hour, air := range n.Stream.Air {
			t.Air = append(t.Air, air.Lo+l[hour+1])
		}
		all = append(all, t)
	}
	return all
}

// savedIn reports whether the bed is saved, if the beds have these warmths in each hour.
func savedIn(hours [][]int, bed int) bool {
	return !slices.ContainsFunc(hours, func(row []int) bool { return row[bed] <= 0 })
}

// kinds says of each bed whether it is saved by the plan, always, never or perhaps.
func kinds(n frost.Night, plan []int) []int {
	in := truths(n)
	times := make([]int, len(n.Stream.Depths))
	for _, t := range in {
		hours := warmths(n, plan, t)
		for bed := range times {
			if savedIn(hours, bed) {
				times[bed]++
			}
		}
	}
	var all []int
	for _, many := range times {
		switch many {
		case len(in):
			all = append(all, frost.Always)
		case 0:
			all = append(all, frost.Never)
		default:
			all = append(all, frost.Perhaps)
		}
	}
	return all
}

// tried is a plan, and what becomes of each bed with it.
type tried struct{ plan, kinds []int }

func try(n frost.Night) []tried {
	var all []tried
	for _, plan := range plans(n) {
		all = append(all, tried{plan, kinds(n, plan)})
	}
	return all
}

// many is how many beds are always saved.
func (x tried) many() int {
	many := 0
	for _, kind := range x.kinds {
		if kind == frost.Always {
			many++
		}
	}
	return many
}

// flooded is how many beds the plan floods.
func (x tried) flooded() int {
	many := 0
	for _, hour := range x.plan {
		if hour >= 0 {
			many++
		}
	}
	return many
}

func (x tried) saves(beds []int) bool {
	return !slices.ContainsFunc(beds, func(bed int) bool { return x.kinds[bed] != frost.Always })
}

// mostOf are the most beds.
func mostOf(all []tried) int {
	most := 0
	for _, x := range all {
		most = max(most, x.many())
	}
	return most
}

// fewestOf are the fewest floods.
func fewestOf(all []tried) int {
	fewest, most := api.MaxWarmBeds, mostOf(all)
	for _, x := range all {
		if x.many() == most {
			fewest = min(fewest, x.flooded())
		}
	}
	return fewest
}

// lost reports whether these beds are.
func lost(all []tried, beds []int) bool {
	return !slices.ContainsFunc(all, func(x tried) bool { return x.saves(beds) })
}

// proofOf tries all lists; it is nil if none of them is a proof.
func proofOf(n frost.Night, all []tried) []int {
	for _, beds := range allLists(len(n.Stream.Depths)) {
		if lost(all, beds) {
			return beds
		}
	}
	return nil
}

// allLists are all increasing lists of numbers below many, by length, and then lexicographically.
func allLists(many int) [][]int {
	var all [][]int
	for mask := range 1 << many {
		l := []int{}
		for n := range many {
			if mask>>n&1 == 1 {
				l = append(l, n)
			}
		}
		all = append(all, l)
	}
	slices.SortFunc(all, func(a, b []int) int {
		if len(a) != len(b) {
			return len(a) - len(b)
		}
		return slices.Compare(a, b)
	})
	return all
}

// copied has memory of its own.
func copied(n frost.Night) frost.Night {
	s := &n.Stream
	s.Depths, s.Air, s.Readings = slices.Clone(s.Depths), slices.Clone(s.Air), slices.Clone(s.Readings)
	return n
}

func same(a, b frost.Night) bool {
	return a.Deep == b.Deep && a.Hands == b.Hands && a.Most == b.Most && a.Stream.Spring == b.Stream.Spring && a.Stream.Rate == b.Stream.Rate &&
		slices.Equal(a.Stream.Depths, b.Stream.Depths) && slices.Equal(a.Stream.Air, b.Stream.Air) && slices.Equal(a.Stream.Readings, b.Stream.Readings)
}

func sameRows(a, b [][]int) bool { return slices.EqualFunc(a, b, slices.Equal) }

// nights are valid, and have neither many truths nor many plans; in every fourth one the air can be warmer than the spring.
func nights(many int, seed int64) []frost.Night {
	r := rand.New(rand.NewSource(seed))
	var all []frost.Night
	for len(all) < many {
		n := anyNight(r, len(all)%4 == 0)
		if len(truths(n))*len(plans(n)) <= 3000 {
			all = append(all, n)
		}
	}
	return all
}

// anyNight has warmths that are often near 0, and a flood that often helps.
func anyNight(r *rand.Rand, mild bool) frost.Night {
	n := frost.Night{Deep: 1 + max(r.Intn(api.MaxWarmDepth), r.Intn(api.MaxWarmDepth)), Hands: 1 + r.Intn(api.MaxFrostHands), Most: max(r.Intn(api.MaxWarmBeds+1), r.Intn(api.MaxWarmBeds+1))}
	n.Stream.Rate = list(0, 7, 20, 30, 40, 50, 60, 77, 100)[r.Intn(9)]
	low := 10 + r.Intn(40)
	if mild {
		low = r.Intn(40) - 25
	}
	n.Stream.Spring = to(low, low+r.Intn(6))
	for range 1 + r.Intn(api.MaxWarmBeds) {
		n.Stream.Depths = append(n.Stream.Depths, 1+min(r.Intn(n.Deep), r.Intn(n.Deep), r.Intn(n.Deep)))
	}
	for range 1 + min(r.Intn(api.MaxWarmHours), r.Intn(api.MaxWarmHours)) {
		low := r.Intn(60) - 70
		if mild {
			low = r.Intn(90) - 50
		}
		n.Stream.Air = append(n.Stream.Air, to(low, low+r.Intn(8)))
	}
	return n
}

// with is the night with a change; the night itself stays as it is.
func with(n frost.Night, change func(n *frost.Night)) frost.Night {
	n = copied(n)
	change(&n)
	return n
}
