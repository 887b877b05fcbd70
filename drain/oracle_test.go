package drain_test

import (
	"math/rand"
	"slices"

	"watercress/api"
	"watercress/bed"
	"watercress/drain"
)

// The oracle says what the chapter's definitions say, and shares no code with the package; it asks only layer 1 for the water.

func list(l ...int) []int { return l }

func to(low, high int) drain.Range { return drain.Range{Lo: low, Hi: high} }

// ranges are of these ends.
func ranges(l ...int) []drain.Range {
	var all []drain.Range
	for i := 0; i < len(l); i += 2 {
		all = append(all, to(l[i], l[i+1]))
	}
	return all
}

func has(r drain.Range, n int) bool { return r.Lo <= n && n <= r.Hi }

func size(low, high int) int { return high - low + 1 }

func spring(n, low, high int) bed.Spring {
	return bed.Spring{Bed: n, Flow: bed.Range{Lo: low, Hi: high}}
}

// over is a look at the Over of a bed.
func over(n, low, high int) bed.Look {
	return bed.Look{Bed: n, Over: true, Water: bed.Range{Lo: low, Hi: high}}
}

func opened(n, low, high int) drain.Drain { return drain.Drain{Bed: n, Opened: to(low, high)} }

func fever(n, hour int) drain.Fever { return drain.Fever{Bed: n, Hour: hour} }

// fevers are many that are alike.
func fevers(many int, what drain.Fever) []drain.Fever {
	return slices.Repeat([]drain.Fever{what}, many)
}

func truth(flows, hours []int, number, hour int) drain.Truth {
	return drain.Truth{Flows: flows, Hours: hours, Drain: number, Opened: hour}
}

// waters are those of all beds in the truth.
func waters(f drain.Foul, t drain.Truth) []bed.Flow {
	all, _ := bed.Play(f.Farm, t.Flows)
	return all
}

// reaches asks all beds again and again until the foul water reaches no other one; -1 is for a bed that it does not reach.
func reaches(f drain.Foul, t drain.Truth) []int {
	flows := waters(f, t)
	when := slices.Repeat(list(-1), len(f.Farm.Beds))
	when[f.Drains[t.Drain].Bed] = t.Opened
	for range f.Farm.Beds {
		for n, b := range f.Farm.Beds {
			if when[n] >= 0 && flows[n].Over > 0 && b.Down >= 0 {
				when[b.Down] = when[n] + t.Hours[n]
			}
		}
	}
	return when
}

// explained reports whether the case is, if the beds are reached in these hours.
func explained(c drain.Fever, when []int) bool {
	for hour := 0; hour <= c.Hour; hour++ {
		if when[c.Bed] == hour {
			return true
		}
	}
	return false
}

// sizes are multiplied as the chapter says.
func sizes(f drain.Foul) int {
	many, openings := 1, 0
	for _, s := range f.Farm.Springs {
		many *= size(s.Flow.Lo, s.Flow.Hi)
	}
	for _, r := range f.Hours {
		many *= size(r.Lo, r.Hi)
	}
	for _, d := range f.Drains {
		openings += size(d.Opened.Lo, d.Opened.Hi)
	}
	return many * openings
}

// choices are all truths, whatever looks and cases say; for each drain and hour they are counted like a number whose digits have different bases.
func choices(f drain.Foul) []drain.Truth {
	var all []drain.Truth
	for number, d := range f.Drains {
		for hour := d.Opened.Lo; hour <= d.Opened.Hi; hour++ {
			alone := f
			alone.Drains = []drain.Drain{opened(d.Bed, hour, hour)}
			for n := range sizes(alone) {
				rest := n
				next := func(low, high int) int {
					digit := rest % size(low, high)
					rest /= size(low, high)
					return low + digit
				}
				t := drain.Truth{Drain: number, Opened: hour}
				for _, s := range f.Farm.Springs {
					t.Flows = append(t.Flows, next(s.Flow.Lo, s.Flow.Hi))
				}
				for _, r := range f.Hours {
					t.Hours = append(t.Hours, next(r.Lo, r.Hi))
				}
				all = append(all, t)
			}
		}
	}
	return all
}

// truths are those of the foul, whatever the cases say.
func truths(f drain.Foul) []drain.Truth {
	return slices.DeleteFunc(choices(f), func(t drain.Truth) bool { return !bed.ProveTruth(f.Farm, t.Flows) })
}

// explaining are the truths in which all cases are explained but those of the list, which may be.
func explaining(f drain.Foul, out []int) []drain.Truth {
	return slices.DeleteFunc(truths(f), func(t drain.Truth) bool {
		when := reaches(f, t)
		for n, c := range f.Cases {
			if !slices.Contains(out, n) && !explained(c, when) {
				return true
			}
		}
		return false
	})
}

// reachedBy counts in how many of these truths, in which the beds are reached so, the bed is reached by the hour.
func reachedBy(when [][]int, n, hour int) int {
	many := 0
	for _, l := range when {
		if explained(fever(n, hour), l) {
			many++
		}
	}
	switch many {
	case len(when):
		return drain.Always
	case 0:
		return drain.Never
	}
	return drain.Perhaps
}

// allHours are those in which the beds are reached in each of these truths.
func allHours(f drain.Foul, in []drain.Truth) [][]int {
	var all [][]int
	for _, t := range in {
		all = append(all, reaches(f, t))
	}
	return all
}

// earliest is -1 if the bed is reached in none of these truths.
func earliest(when [][]int, n int) int {
	least := -1
	for _, l := range when {
		if l[n] >= 0 && (least < 0 || l[n] < least) {
			least = l[n]
		}
	}
	return least
}

// drainsOf are those that some of these truths have.
func drainsOf(f drain.Foul, in []drain.Truth) []int {
	var all []int
	for n := range f.Drains {
		if slices.ContainsFunc(in, func(t drain.Truth) bool { return t.Drain == n }) {
			all = append(all, n)
		}
	}
	return all
}

// firstOf tries for each case to leave out those after it; there may be none that is not explained.
func firstOf(f drain.Foul) (int, api.Errno) {
	for n := range f.Cases {
		var after []int
		for m := n + 1; m < len(f.Cases); m++ {
			after = append(after, m)
		}
		if len(explaining(f, after)) == 0 {
			return n, api.OK
		}
	}
	return 0, api.ErrNone
}

// leaveOf tries all lists.
func leaveOf(f drain.Foul) []int {
	for _, out := range allLists(len(f.Cases)) {
		if len(explaining(f, out)) > 0 {
			return out
		}
	}
	return nil
}

// allLists are all increasing lists of numbers below many, by length, and then lexicographically.
func allLists(many int) [][]int {
	var all [][]int
	for mask := range 1 << many {
		l := []int{}
		for n := range many {
			if mask>>n&1 == 1 {
				l = append(l, n)
			}
		}
		all = append(all, l)
	}
	slices.SortFunc(all, func(a, b []int) int {
		if len(a) != len(b) {
			return len(a) - len(b)
		}
		return slices.Compare(a, b)
	})
	return all
}

// copied has memory of its own.
func copied(f drain.Foul) drain.Foul {
	f.Farm = bed.Farm{Springs: slices.Clone(f.Farm.Springs), Beds: slices.Clone(f.Farm.Beds), Looks: slices.Clone(f.Farm.Looks)}
	f.Hours, f.Drains, f.Cases = slices.Clone(f.Hours), slices.Clone(f.Drains), slices.Clone(f.Cases)
	return f
}

func same(a, b drain.Foul) bool {
	return slices.Equal(a.Farm.Springs, b.Farm.Springs) && slices.Equal(a.Farm.Beds, b.Farm.Beds) && slices.Equal(a.Farm.Looks, b.Farm.Looks) &&
		a.Last == b.Last && slices.Equal(a.Hours, b.Hours) && slices.Equal(a.Drains, b.Drains) && slices.Equal(a.Cases, b.Cases)
}

// withCases is the foul with these cases instead of its own.
func withCases(f drain.Foul, l ...drain.Fever) drain.Foul {
	f.Cases = l
	return f
}

// without is the foul without the cases of the list.
func without(f drain.Foul, out []int) drain.Foul {
	var l []drain.Fever
	for n, c := range f.Cases {
		if !slices.Contains(out, n) {
			l = append(l, c)
		}
	}
	return withCases(f, l...)
}

// isBelow reports whether the water of the bed above goes to the bed, if it goes on everywhere.
func isBelow(f drain.Foul, above, n int) bool {
	for down := f.Farm.Beds[above].Down; down != -1; down = f.Farm.Beds[down].Down {
		if down == n {
			return true
		}
	}
	return false
}

// fouls are valid and without many truths; every fourth one has cases that may all lack an explanation, the others have mostly cases of one truth.
func fouls(many int, seed int64) []drain.Foul {
	r := rand.New(rand.NewSource(seed))
	var all []drain.Foul
	for len(all) < many {
		f := bareFoul(r)
		addCases(r, &f, r.Intn(api.MaxDrainCases+1), len(all)%4 == 0)
		all = append(all, f)
	}
	return all
}

// bareFoul has no cases; it can have looks, with which it can have no truth.
func bareFoul(r *rand.Rand) drain.Foul {
	f := drain.Foul{Last: min(r.Intn(api.MaxDrainLast+1), 3+r.Intn(12))}
	room := 60
	widened := func(low, by, most int) (int, int) {
		high := min(most, low+min(r.Intn(by), room-1))
		room /= high - low + 1
		return low, high
	}
	beds := 1 + r.Intn(api.MaxBedBeds)
	for n := range beds {
		b := bed.Bed{Need: r.Intn(3), Notch: min(r.Intn(5), r.Intn(5)), Down: -1}
		if n < beds-1 && r.Intn(8) > 0 {
			b.Down = n + 1 + r.Intn(min(3, beds-1-n))
		}
		f.Farm.Beds = append(f.Farm.Beds, b)
	}
	for range min(api.MaxBedSprings, 1+r.Intn(5)) {
		low, high := widened(r.Intn(10), 4, api.MaxBedFlow)
		f.Farm.Springs = append(f.Farm.Springs, spring(min(r.Intn(beds), r.Intn(beds)), low, high))
	}
	for range 1 + r.Intn(api.MaxDrainDrains) {
		low, high := widened(min(r.Intn(f.Last+1), r.Intn(5)), 3, f.Last)
		f.Drains = append(f.Drains, opened(min(r.Intn(beds), r.Intn(beds)), low, high))
	}
	for range beds {
		f.Hours = append(f.Hours, to(widened(min(r.Intn(3), r.Intn(api.MaxDrainHours+1)), 4, api.MaxDrainHours)))
	}
	if r.Intn(4) == 0 {
		addLook(r, &f)
	}
	return f
}

// addLook gives the farm a look that is mostly right in some truth.
func addLook(r *rand.Rand, f *drain.Foul) {
	all := choices(*f)
	n := r.Intn(len(f.Farm.Beds))
	seen := waters(*f, all[r.Intn(len(all))])[n].Over
	if r.Intn(4) == 0 {
		seen += 1 + r.Intn(3)
	}
	f.Farm.Looks = append(f.Farm.Looks, over(n, seen, seen+r.Intn(2)))
}

func addCases(r *rand.Rand, f *drain.Foul, many int, wild bool) {
	in := truths(*f)
	for range many {
		if len(in) == 0 || wild || r.Intn(8) == 0 {
			f.Cases = append(f.Cases, fever(r.Intn(len(f.Farm.Beds)), r.Intn(f.Last+1)))
			continue
		}
		f.Cases = append(f.Cases, anyCase(r, *f, in[len(in)/2]))
	}
}

// anyCase is explained in the truth, unless this would be after Last.
func anyCase(r *rand.Rand, f drain.Foul, t drain.Truth) drain.Fever {
	when := reaches(f, t)
	n := f.Drains[t.Drain].Bed
	for r.Intn(3) > 0 && f.Farm.Beds[n].Down >= 0 && when[f.Farm.Beds[n].Down] >= 0 {
		n = f.Farm.Beds[n].Down
	}
	return fever(n, min(f.Last, when[n]+min(r.Intn(4), r.Intn(4))))
}
