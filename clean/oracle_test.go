package clean_test

import (
	"math/rand"
	"slices"

	"watercress/api"
	"watercress/clean"
)

// The oracle says what the chapter's definitions say, as slowly as they do, and shares no code with the package.

func to(low, high int) clean.Range { return clean.Range{Lo: low, Hi: high} }

func has(r clean.Range, n int) bool { return r.Lo <= n && n <= r.Hi }

func bed(long, low, high int) clean.Bed { return clean.Bed{Long: long, Begin: to(low, high)} }

func claim(n, low, high int) clean.Claim { return clean.Claim{Bed: n, Began: to(low, high)} }

func list(l ...int) []int { return l }

func yard(last, hands int, beds ...clean.Bed) clean.Yard {
	return clean.Yard{Last: last, Hands: hands, Beds: beds}
}

// choices are all lists of weeks, schedules or not; they are counted like a number whose digits have different bases.
func choices(y clean.Yard) [][]int {
	many := 1
	for _, b := range y.Beds {
		many *= b.Begin.Hi - b.Begin.Lo + 1
	}
	var all [][]int
	for n := 0; n < many; n++ {
		l := make([]int, len(y.Beds))
		rest := n
		for i, b := range y.Beds {
			l[i] = b.Begin.Lo + rest%(b.Begin.Hi-b.Begin.Lo+1)
			rest /= b.Begin.Hi - b.Begin.Lo + 1
		}
		all = append(all, l)
	}
	return all
}

// isEmpty reports whether the bed is empty in the week, by the list of weeks.
func isEmpty(y clean.Yard, weeks []int, n, week int) bool {
	for i := 0; i < y.Beds[n].Long; i++ {
		if week == weeks[n]+i {
			return true
		}
	}
	return false
}

// isSchedule asks about no beds but those of the list.
func isSchedule(y clean.Yard, weeks, of []int) bool {
	for _, n := range of {
		if weeks[n]+y.Beds[n].Long-1 > y.Last {
			return false
		}
	}
	for week := 0; week <= y.Last; week++ {
		many := 0
		for _, n := range of {
			if !isEmpty(y, weeks, n, week) {
				continue
			}
			many++
			for _, m := range of {
				if m == n+1 && isEmpty(y, weeks, m, week) {
					return false
				}
			}
		}
		if many > y.Hands {
			return false
		}
	}
	return true
}

func numbers(y clean.Yard) []int {
	all := []int{}
	for n := range y.Beds {
		all = append(all, n)
	}
	return all
}

// schedules are all of them, whatever the claims say.
func schedules(y clean.Yard) [][]int {
	return slices.DeleteFunc(choices(y), func(l []int) bool { return !isSchedule(y, l, numbers(y)) })
}

// schedulesBut are those in which all claims but those left out are right.
func schedulesBut(y clean.Yard, out []int) [][]int {
	return slices.DeleteFunc(schedules(y), func(l []int) bool {
		for i, c := range y.Claims {
			if !slices.Contains(out, i) && !has(c.Began, l[c.Bed]) {
				return true
			}
		}
		return false
	})
}

// own are those of the yard.
func own(y clean.Yard) [][]int { return schedulesBut(y, nil) }

func isProof(y clean.Yard, of []int) bool {
	for _, l := range choices(y) {
		if isSchedule(y, l, of) {
			return false
		}
	}
	return true
}

func withHands(y clean.Yard, hands int) clean.Yard {
	y.Hands = hands
	return y
}

// copied has memory of its own.
func copied(y clean.Yard) clean.Yard {
	y.Beds, y.Claims = slices.Clone(y.Beds), slices.Clone(y.Claims)
	return y
}

func same(a, b clean.Yard) bool {
	return a.Last == b.Last && a.Hands == b.Hands && slices.Equal(a.Beds, b.Beds) && slices.Equal(a.Claims, b.Claims)
}

// without is the yard without the claims of the list.
func without(y clean.Yard, out []int) clean.Yard {
	c := copied(y)
	c.Claims = nil
	for i, x := range y.Claims {
		if !slices.Contains(out, i) {
			c.Claims = append(c.Claims, x)
		}
	}
	return c
}

// allLists are all increasing lists of numbers below many, by length, and then lexicographically.
func allLists(many int) [][]int {
	var all [][]int
	for mask := 0; mask < 1<<many; mask++ {
		l := []int{}
		for n := 0; n < many; n++ {
			if mask>>n&1 == 1 {
				l = append(l, n)
			}
		}
		all = append(all, l)
	}
	slices.SortFunc(all, func(a, b []int) int {
		if len(a) != len(b) {
			return len(a) - len(b)
		}
		return slices.Compare(a, b)
	})
	return all
}

// bareYard has no claims, and not many lists of weeks; most of its beds can be cleaned in time.
func bareYard(r *rand.Rand) clean.Yard {
	y := yard(max(r.Intn(10), r.Intn(10)), 1+r.Intn(api.MaxCleanHands))
	sizes := 1
	for range r.Intn(api.MaxCleanBeds + 1) {
		b := clean.Bed{Long: 1 + min(r.Intn(api.MaxCleanLong), r.Intn(api.MaxCleanLong))}
		b.Begin.Lo = r.Intn(max(1, y.Last+2-b.Long))
		if r.Intn(20) == 0 {
			b.Begin.Lo = y.Last
		}
		b.Begin.Hi = min(y.Last, b.Begin.Lo+r.Intn(6))
		if sizes*(b.Begin.Hi-b.Begin.Lo+1) > 250 {
			b.Begin.Hi = b.Begin.Lo
		}
		sizes *= b.Begin.Hi - b.Begin.Lo + 1
		y.Beds = append(y.Beds, b)
	}
	return y
}

// yards are valid ones with or without a schedule; every fourth one has claims that may all be false, the others have claims of one schedule, if there is one, some of them false.
func yards(many int, seed int64) []clean.Yard {
	r := rand.New(rand.NewSource(seed))
	var all []clean.Yard
	for len(all) < many {
		y := bareYard(r)
		if len(y.Beds) > 0 {
			addClaims(r, &y, r.Intn(api.MaxCleanClaims+1), len(all)%4 == 0)
		}
		all = append(all, y)
	}
	return all
}

// goodYards have a schedule; see yards.
func goodYards(many int, seed int64) []clean.Yard {
	r := rand.New(rand.NewSource(seed))
	var all []clean.Yard
	for len(all) < many {
		y := bareYard(r)
		if len(schedules(y)) < 2 {
			continue
		}
		addClaims(r, &y, r.Intn(api.MaxCleanClaims+1), len(all)%4 == 0)
		all = append(all, y)
	}
	return all
}

func addClaims(r *rand.Rand, y *clean.Yard, many int, wild bool) {
	l := anyWeeks(r, *y)
	for range many {
		y.Claims = append(y.Claims, anyClaim(r, *y, l, wild || r.Intn(6) == 0))
	}
}

// anyWeeks are those of a schedule, if there is one.
func anyWeeks(r *rand.Rand, y clean.Yard) []int {
	all := schedules(y)
	if len(all) == 0 {
		all = choices(y)
	}
	return all[r.Intn(len(all))]
}

// anyClaim is right by the list of weeks, or, if it is wild, perhaps not.
func anyClaim(r *rand.Rand, y clean.Yard, weeks []int, wild bool) clean.Claim {
	n := r.Intn(len(y.Beds))
	middle := weeks[n]
	if wild {
		middle = r.Intn(y.Last + 1)
	}
	return claim(n, max(0, middle-r.Intn(2)), min(y.Last, middle+r.Intn(2)))
}
