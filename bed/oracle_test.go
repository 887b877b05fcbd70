package bed_test

import (
	"math/rand"
	"slices"

	"watercress/api"
	"watercress/bed"
)

// The oracle says what the chapter's definitions say, as slowly as they do, and shares no code with the package.

func to(low, high int) bed.Range { return bed.Range{Lo: low, Hi: high} }

func has(r bed.Range, n int) bool { return r.Lo <= n && n <= r.Hi }

func notches(f bed.Farm) []int {
	var l []int
	for _, b := range f.Beds {
		l = append(l, b.Notch)
	}
	return l
}

// water goes up from the bed to its springs.
func water(f bed.Farm, boards, flows []int, n int) bed.Flow {
	var w bed.Flow
	for i, s := range f.Springs {
		if s.Bed == n {
			w.In += flows[i]
		}
	}
	for i, b := range f.Beds {
		if b.Down == n {
			w.In += water(f, boards, flows, i).Over
		}
	}
	w.Kept = w.In
	if w.Kept > boards[n] {
		w.Kept = boards[n]
	}
	w.Over = w.In - w.Kept
	return w
}

func right(f bed.Farm, l bed.Look, flows []int) bool {
	w := water(f, notches(f), flows, l.Bed)
	if l.Over {
		return has(l.Water, w.Over)
	}
	return has(l.Water, w.Kept)
}

// choices are all truths, of the farm or not; they are counted like a number whose digits have different bases.
func choices(f bed.Farm) [][]int {
	many := 1
	for _, s := range f.Springs {
		many *= s.Flow.Hi - s.Flow.Lo + 1
	}
	var all [][]int
	for n := 0; n < many; n++ {
		flows := make([]int, len(f.Springs))
		rest := n
		for i, s := range f.Springs {
			size := s.Flow.Hi - s.Flow.Lo + 1
			flows[i] = s.Flow.Lo + rest%size
			rest /= size
		}
		all = append(all, flows)
	}
	return all
}

// truthsBut are the truths in which all looks but those left out are right.
func truthsBut(f bed.Farm, out []int) [][]int {
	var all [][]int
	for _, flows := range choices(f) {
		ok := true
		for i, l := range f.Looks {
			ok = ok && (slices.Contains(out, i) || right(f, l, flows))
		}
		if ok {
			all = append(all, flows)
		}
	}
	return all
}

func truths(f bed.Farm) [][]int { return truthsBut(f, nil) }

func fedIn(f bed.Farm, boards, flows []int, n int) bool {
	return water(f, boards, flows, n).Kept >= f.Beds[n].Need
}

// fed counts in how many of the truths the bed is fed.
func fed(f bed.Farm, boards []int, in [][]int, n int) int {
	many := 0
	for _, flows := range in {
		if fedIn(f, boards, flows, n) {
			many++
		}
	}
	return many
}

func suffice(f bed.Farm, in [][]int, list []int) bool {
	boards := notches(f)
	for _, n := range list {
		boards[n] = f.Beds[n].Need
	}
	for n := range f.Beds {
		if fed(f, boards, in, n) < len(in) {
			return false
		}
	}
	return true
}

// shortest is the first of all increasing lists of numbers below many that are as asked, by length, and then lexicographically.
func shortest(many int, is func([]int) bool) ([]int, bool) {
	var best []int
	found := false
	for mask := 0; mask < 1<<many; mask++ {
		list := []int{}
		for n := 0; n < many; n++ {
			if mask>>n&1 == 1 {
				list = append(list, n)
			}
		}
		if found && (len(list) > len(best) || len(list) == len(best) && slices.Compare(list, best) > 0) {
			continue
		}
		if is(list) {
			best, found = list, true
		}
	}
	return best, found
}

// isBelow reports whether the water of the bed above reaches the bed.
func isBelow(f bed.Farm, above, n int) bool {
	for down := f.Beds[above].Down; down != -1; down = f.Beds[down].Down {
		if down == n {
			return true
		}
	}
	return false
}

func cutIn(f bed.Farm, flows []int, n int) bool {
	need, flow := 0, 0
	for i, b := range f.Beds {
		if i == n || isBelow(f, i, n) {
			need += b.Need
		}
	}
	for i, s := range f.Springs {
		if s.Bed == n || isBelow(f, s.Bed, n) {
			flow += flows[i]
		}
	}
	return flow < need
}

// farms are valid farms; every fourth one has looks that may all be false, the others have looks around one truth, some of them false.
func farms(many int, seed int64) []bed.Farm {
	r := rand.New(rand.NewSource(seed))
	var all []bed.Farm
	for len(all) < many {
		f := bareFarm(r, 60)
		for range r.Intn(api.MaxBedLooks + 1) {
			f.Looks = append(f.Looks, anyLook(r, f, len(all)%4 == 0))
		}
		all = append(all, f)
	}
	return all
}

func bareFarm(r *rand.Rand, most int) bed.Farm {
	var f bed.Farm
	beds := 1 + r.Intn(api.MaxBedBeds)
	for i := range beds {
		b := bed.Bed{Need: r.Intn(3), Notch: r.Intn(6), Down: -1}
		if i < beds-1 && r.Intn(8) > 0 {
			b.Down = i + 1 + r.Intn(min(3, beds-1-i))
		}
		f.Beds = append(f.Beds, b)
	}
	sizes := 1
	for range min(api.MaxBedSprings, r.Intn(7)) {
		low := r.Intn(12)
		high := min(low+r.Intn(6), low+most/sizes-1)
		sizes *= high - low + 1
		f.Springs = append(f.Springs, bed.Spring{Bed: r.Intn(beds), Flow: to(low, high)})
	}
	return f
}

func anyLook(r *rand.Rand, f bed.Farm, wild bool) bed.Look {
	l := bed.Look{Bed: r.Intn(len(f.Beds)), Over: r.Intn(2) == 0}
	middle := r.Intn(10)
	if !wild && r.Intn(4) > 0 {
		all := choices(f)
		w := water(f, notches(f), all[len(all)/2], l.Bed)
		middle = w.Kept
		if l.Over {
			middle = w.Over
		}
	}
	l.Water = to(max(0, middle-r.Intn(3)), min(api.MaxBedWater, middle+r.Intn(3)))
	return l
}

func copied(f bed.Farm) bed.Farm {
	return bed.Farm{Springs: slices.Clone(f.Springs), Beds: slices.Clone(f.Beds), Looks: slices.Clone(f.Looks)}
}

func same(f, g bed.Farm) bool {
	return slices.Equal(f.Springs, g.Springs) && slices.Equal(f.Beds, g.Beds) && slices.Equal(f.Looks, g.Looks)
}
