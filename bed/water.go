package bed

import (
	"iter"
	"slices"

	"watercress/api"
)

// waters is what all beds have in a truth; there is none in beds that the farm lacks.
type waters [api.MaxBedBeds]Flow

// work is a farm at work. Its boards may be moved; its truths stay those of the farm, because the looks were made before.
type work struct {
	Farm
	truths  [][]int
	notches [api.MaxBedBeds]int
}

// start returns the valid farm at work, with its own notches, before its truths are asked for.
func start(f Farm) work {
	w := work{Farm: f}
	for i, b := range w.Beds {
		w.notches[i] = b.Notch
	}
	return w
}

// open returns the farm at work with its truths, or why it has none. What the call names beside the farm must be inRange.
func open(f Farm, inRange bool) (work, api.Errno) {
	if e := CheckFarm(f); e != api.OK {
		return work{}, e
	}
	if !inRange {
		return work{}, api.ErrRange
	}
	w := start(f)
	w.truths = slices.Collect(f.ownTruths())
	if len(w.truths) == 0 {
		return work{}, api.ErrFalse
	}
	return w, api.OK
}

// set returns the farm at work with the board of the bed at this notch.
func (w work) set(bed, notch int) work {
	w.notches[bed] = notch
	return w
}

// moved returns the farm at work with the boards of the list moved.
func (w work) moved(list []int) work {
	for _, bed := range list {
		w = w.set(bed, w.Beds[bed].Need)
	}
	return w
}

// play returns the water of all beds. A bed has its whole water In before its turn comes, because Down is always greater.
func (w work) play(flows []int) waters {
	var all waters
	for i, s := range w.Springs {
		all[s.Bed].In += flows[i]
	}
	for i, b := range w.Beds {
		in := all[i].In
		kept := least(in, w.notches[i])
		all[i].Kept, all[i].Over = kept, in-kept
		if b.Down >= 0 {
			all[b.Down].In += in - kept
		}
	}
	return all
}

// had returns all that the bed has in some truth of the farm.
func (w work) had(bed int) map[Flow]bool {
	had := map[Flow]bool{}
	for _, flows := range w.truths {
		had[w.play(flows)[bed]] = true
	}
	return had
}

// feeds reports whether the bed is fed in each truth of the farm.
func (w work) feeds(bed int) bool {
	return each(w.truths, func(_ int, flows []int) bool { return w.isFed(w.play(flows), bed) })
}

// feedsAll reports whether each bed is fed in each truth of the farm.
func (w work) feedsAll() bool {
	return each(w.truths, func(_ int, flows []int) bool {
		all := w.play(flows)
		return each(w.Beds, func(i int, _ Bed) bool { return w.isFed(all, i) })
	})
}

func (f Farm) isFed(all waters, bed int) bool { return all[bed].Kept >= f.Beds[bed].Need }

// isCut compares what the springs of the bed and of the beds above it give with what all these beds need.
func (f Farm) isCut(bed int, flows []int) bool {
	above := f.andAbove(bed)
	balance := 0
	for i, s := range f.Springs {
		if above[s.Bed] {
			balance += flows[i]
		}
	}
	for i, b := range f.Beds {
		if above[i] {
			balance -= b.Need
		}
	}
	return balance < 0
}

// andAbove marks the bed and the beds above it. It goes upwards, so that the bed below is marked before the bed.
func (f Farm) andAbove(bed int) [api.MaxBedBeds]bool {
	var marked [api.MaxBedBeds]bool
	marked[bed] = true
	for i := bed - 1; i >= 0; i-- {
		down := f.Beds[i].Down
		marked[i] = down >= 0 && marked[down]
	}
	return marked
}

// right reports whether the look agrees with the water of the beds.
func (l Look) right(all waters) bool {
	if l.Over {
		return l.Water.has(all[l.Bed].Over)
	}
	return l.Water.has(all[l.Bed].Kept)
}

// rightBut reports whether all looks are right but those of the list, which may be.
func (f Farm) rightBut(list []int, all waters) bool {
	return each(f.Looks, func(i int, l Look) bool { return slices.Contains(list, i) || l.right(all) })
}

// withLooks returns the farm with only its first looks.
func (f Farm) withLooks(many int) Farm {
	f.Looks = f.Looks[:many]
	return f
}

func (f Farm) hasTruth() bool {
	for range f.ownTruths() {
		return true
	}
	return false
}

// ownTruths yields the truths of the farm: those in which all looks are right.
func (f Farm) ownTruths() iter.Seq[[]int] {
	return func(yield func([]int) bool) {
		w := start(f)
		for flows := range f.choices() {
			if f.rightBut(nil, w.play(flows)) && !yield(flows) {
				return
			}
		}
	}
}

// choices yields all truths, of the farm or not, in lexicographic order; each list is in memory of its own.
func (f Farm) choices() iter.Seq[[]int] {
	return func(yield func([]int) bool) {
		var choose func(flows []int) bool
		choose = func(flows []int) bool {
			if len(flows) == len(f.Springs) {
				return yield(slices.Clone(flows))
			}
			r := f.Springs[len(flows)].Flow
			for n := r.Lo; n <= r.Hi; n++ {
				if !choose(append(flows, n)) {
					return false
				}
			}
			return true
		}
		choose(nil)
	}
}

// quantity is what is bounded of a bed's water.
type quantity struct{ of func(Flow) int }

func (f Flow) in() int   { return f.In }
func (f Flow) kept() int { return f.Kept }
func (f Flow) over() int { return f.Over }

// bounds needs at least one flow. In which order the map gives them does not show in the result.
func (q quantity) bounds(had map[Flow]bool) Range {
	var numbers []int
	for flow := range had {
		numbers = append(numbers, q.of(flow))
	}
	return Range{Lo: least(numbers[0], numbers[1:]...), Hi: slices.Max(numbers)}
}
