package frost

import (
	"watercress/api"
	"watercress/lists"
	"watercress/warm"
)

// dry is the number of a bed that a plan does not flood.
const dry = -1

func (n Night) hasBed(bed int) bool { return 0 <= bed && bed < len(n.Stream.Depths) }

// valid asks about all of the night that layer 2 does not ask about.
func (n Night) valid() bool {
	return len(n.Stream.Readings) == 0 && 1 <= n.Deep && n.Deep <= api.MaxWarmDepth && lists.Each(n.Stream.Depths, n.canBeDeeper) &&
		1 <= n.Hands && n.Hands <= api.MaxFrostHands && 0 <= n.Most && n.Most <= api.MaxWarmBeds
}

// canBeDeeper reports whether a bed of this depth is none the shallower for a flood.
func (n Night) canBeDeeper(_, depth int) bool { return depth <= n.Deep }

func (n Night) isPlan(plan []int) bool {
	return len(plan) == len(n.Stream.Depths) && lists.Each(plan, n.hasNumber) && floods(plan) <= n.Most && n.handsDo(plan)
}

// hasNumber reports whether a bed can have the number in a plan.
func (n Night) hasNumber(_, number int) bool {
	low, high := n.numbers(number)
	return low <= number && number <= high
}

// numbers returns the least and the greatest number in a plan, which are the same ones for each bed.
func (n Night) numbers(int) (low, high int) { return dry, len(n.Stream.Air) - 1 }

// handsDo reports whether in no hour more beds are begun to be flooded than there are hands.
func (n Night) handsDo(plan []int) bool {
	return lists.Each(n.Stream.Air, func(hour int, _ warm.Range) bool { return times(plan, hour) <= n.Hands })
}

// floods returns how many beds the plan floods.
func floods(plan []int) int { return len(plan) - times(plan, dry) }

// times returns how often the number is in the list.
func times(list []int, number int) int {
	many := 0
	for _, n := range list {
		if n == number {
			many++
		}
	}
	return many
}

// isRising reports whether the list has beds of the night alone, in increasing order.
func (n Night) isRising(list []int) bool {
	return lists.Each(list, func(i, bed int) bool { return n.hasBed(bed) && (i == 0 || list[i-1] < bed) })
}
