package plan_test

import (
	"math/rand"
	"slices"

	"watercress/api"
	"watercress/grow"
	"watercress/plan"
)

// The oracle says what the chapter's definitions say, as slowly as they do, and shares no code with the package; it does not ask layer 3, either.

func list(l ...int) []int { return l }

// cuts are a list of weeks for each bed.
func cuts(l ...[]int) [][]int { return l }

func to(low, high int) grow.Range { return grow.Range{Lo: low, Hi: high} }

// ranges are of these ends.
func ranges(l ...int) []grow.Range {
	var all []grow.Range
	for i := 0; i < len(l); i += 2 {
		all = append(all, to(l[i], l[i+1]))
	}
	return all
}

// height goes back from the week to that in which the bed was cut last before the season's plans.
func height(g plan.Game, weather []int, p [][]int, bed, week int) int {
	s := g.Season
	switch cut := s.Beds[bed].Cut.Lo; {
	case week < cut:
		return 0
	case week == cut:
		return s.Stub
	}
	was := height(g, weather, p, bed, week-1)
	if slices.Contains(p[bed], week-1) {
		was = s.Stub
	}
	return was + slices.Min(list(s.Light[week], weather[week], s.Beds[bed].Flow))
}

// holds reports whether the plan does, in the weeks that the weather has.
func holds(g plan.Game, weather []int, p [][]int) bool {
	for week := range weather {
		many := 0
		for bed := range p {
			n := height(g, weather, p, bed, week)
			if n > g.Season.Flower {
				return false
			}
			if slices.Contains(p[bed], week) {
				many++
				if n < g.Season.Ripe {
					return false
				}
			}
		}
		if many > g.Season.Knives {
			return false
		}
	}
	return true
}

// yield is that of the plan, if its cuts are all in weeks that the weather has.
func yield(g plan.Game, weather []int, p [][]int) int {
	sum := 0
	for bed, weeks := range p {
		for _, week := range weeks {
			sum += height(g, weather, p, bed, week) - g.Season.Stub
		}
	}
	return sum
}

// badWeeks are those of the weather.
func badWeeks(g plan.Game, weather []int) []int {
	var all []int
	for week, n := range weather {
		if n < g.Season.Warm[week].Hi {
			all = append(all, week)
		}
	}
	return all
}

func allowed(g plan.Game, weather []int) bool {
	bad := badWeeks(g, weather)
	if len(bad) > g.Bad {
		return false
	}
	return !g.Apart || !slices.ContainsFunc(bad, func(week int) bool { return slices.Contains(bad, week+1) })
}

// digits are those of all lists that count like a number whose digits have these bases, the last one first.
func digits(bases []int) [][]int {
	many := 1
	for _, base := range bases {
		many *= base
	}
	var all [][]int
	for n := range many {
		l := make([]int, len(bases))
		for i := len(bases) - 1; i >= 0; i-- {
			l[i] = n % bases[i]
			n /= bases[i]
		}
		all = append(all, l)
	}
	return all
}

// weathers are all that are allowed; since they count up, they are in lexicographic order.
func weathers(g plan.Game) [][]int {
	var bases []int
	for _, r := range g.Season.Warm {
		bases = append(bases, r.Hi-r.Lo+1)
	}
	var all [][]int
	for _, l := range digits(bases) {
		for week, r := range g.Season.Warm {
			l[week] += r.Lo
		}
		if allowed(g, l) {
			all = append(all, l)
		}
	}
	return all
}

// someLists are all increasing lists of numbers below many, in lexicographic order.
func someLists(many int) [][]int {
	var all [][]int
	for mask := range 1 << many {
		l := []int{}
		for n := range many {
			if mask>>n&1 == 1 {
				l = append(l, n)
			}
		}
		all = append(all, l)
	}
	slices.SortFunc(all, slices.Compare)
	return all
}

// plans are all of the game, whether or not they hold.
func plans(g plan.Game) [][][]int {
	all := [][][]int{{}}
	for range g.Season.Beds {
		var more [][][]int
		for _, p := range all {
			for _, weeks := range someLists(g.Season.Last + 1) {
				more = append(more, append(slices.Clone(p), weeks))
			}
		}
		all = more
	}
	return all
}

func noCuts(g plan.Game) [][]int { return make([][]int, len(g.Season.Beds)) }

// with is the plan, with cuts of these beds in the week, which is after all others.
func with(p [][]int, beds []int, week int) [][]int {
	p = copiedRows(p)
	for _, bed := range beds {
		p[bed] = append(p[bed], week)
	}
	return p
}

// nextDraws are the numbers that can be drawn after these.
func nextDraws(all [][]int, drawn []int) []int {
	var next []int
	for _, weather := range all {
		if n := len(drawn); slices.Equal(weather[:n], drawn) && !slices.Contains(next, weather[n]) {
			next = append(next, weather[n])
		}
	}
	return next
}

// table is a game with its weathers.
type table struct {
	plan.Game
	weathers [][]int
}

// sureOf reports whether the man can be sure to win with at least this yield, after these draws, and after these cuts, of which some may be in the last week that was drawn.
func (x table) sureOf(drawn []int, p [][]int, least int) bool {
	if !holds(x.Game, drawn, p) {
		return false
	}
	if len(drawn) == x.Season.Last+1 {
		return yield(x.Game, drawn, p) >= least
	}
	for _, n := range nextDraws(x.weathers, drawn) {
		after := append(slices.Clone(drawn), n)
		if !slices.ContainsFunc(someLists(len(p)), func(beds []int) bool {
			return x.sureOf(after, with(p, beds, len(drawn)), least)
		}) {
			return false
		}
	}
	return true
}

// most is more than any plan brings: no bed is cut above Flower, and none twice in a week.
func (x table) most() int {
	return x.Season.Flower*(x.Season.Last+1)*len(x.Season.Beds) + 1
}

// sure is the greatest yield of which he can be sure from the beginning, or -1.
func (x table) sure() int {
	best := -1
	for best < x.most() && x.sureOf(nil, noCuts(x.Game), best+1) {
		best++
	}
	return best
}

// move is the first list of beds with the greatest yield, after these draws and cuts, and this yield, or -1.
func (x table) move(drawn []int, p [][]int) ([]int, int) {
	var first []int
	best := -1
	for _, beds := range someLists(len(p)) {
		then := with(p, beds, len(drawn)-1)
		for best < x.most() && x.sureOf(drawn, then, best+1) {
			first, best = beds, best+1
		}
	}
	return first, best
}

// fixed is the fixed yield of the plan, or -1 if it does not hold under all weathers.
func (x table) fixed(p [][]int) int {
	least := x.most()
	for _, weather := range x.weathers {
		if !holds(x.Game, weather, p) {
			return -1
		}
		least = min(least, yield(x.Game, weather, p))
	}
	return least
}

// bestFixed is the greatest fixed yield, or -1.
func (x table) bestFixed() int {
	best := -1
	for _, p := range plans(x.Game) {
		best = max(best, x.fixed(p))
	}
	return best
}

// reply is the weather's.
func (x table) reply(p [][]int) plan.Reply {
	for _, weather := range x.weathers {
		if !holds(x.Game, weather, p) {
			return plan.Reply{Weather: weather}
		}
	}
	least := x.fixed(p)
	for _, weather := range x.weathers {
		if yield(x.Game, weather, p) == least {
			return plan.Reply{Weather: weather, Holds: true, Yield: least}
		}
	}
	return plan.Reply{}
}

// copied has memory of its own.
func copied(g plan.Game) plan.Game {
	s := &g.Season
	s.Light, s.Warm, s.Beds, s.Looks = slices.Clone(s.Light), slices.Clone(s.Warm), slices.Clone(s.Beds), slices.Clone(s.Looks)
	return g
}

func copiedRows(rows [][]int) [][]int {
	var all [][]int
	for _, row := range rows {
		all = append(all, slices.Clone(row))
	}
	return all
}

func same(a, b plan.Game) bool {
	s, t := a.Season, b.Season
	return a.Bad == b.Bad && a.Apart == b.Apart && s.Last == t.Last && s.Stub == t.Stub && s.Ripe == t.Ripe && s.Flower == t.Flower && s.Knives == t.Knives &&
		slices.Equal(s.Light, t.Light) && slices.Equal(s.Warm, t.Warm) && slices.Equal(s.Beds, t.Beds) && slices.Equal(s.Looks, t.Looks)
}

func sameRows(a, b [][]int) bool { return slices.EqualFunc(a, b, slices.Equal) }

func sameReply(a, b plan.Reply) bool {
	return slices.Equal(a.Weather, b.Weather) && a.Holds == b.Holds && a.Yield == b.Yield
}

// games are valid, with weathers and plans that are few enough to try them all.
func games(many int, seed int64) []table {
	r := rand.New(rand.NewSource(seed))
	var all []table
	for len(all) < many {
		g := anyGame(r)
		x := table{g, weathers(g)}
		steps := len(x.weathers) << ((g.Season.Last + 1) * len(g.Season.Beds))
		if len(x.weathers) <= api.MaxPlanWeathers && steps <= 20000 {
			all = append(all, x)
		}
	}
	return all
}

// anyGame has cress that is ripe after some weeks, and often a Flower that does not leave much time.
func anyGame(r *rand.Rand) plan.Game {
	beds := 1 + r.Intn(api.MaxPlanBeds)
	last := max(r.Intn(api.MaxPlanLast+1), r.Intn(api.MaxPlanLast+1))
	s := grow.Season{Last: last, Stub: max(0, r.Intn(6)-2), Ripe: 1 + r.Intn(11), Knives: min(1+r.Intn(3), r.Intn(12))}
	s.Flower = max(s.Ripe, s.Stub) + min(r.Intn(12), r.Intn(12))
	for range beds {
		s.Beds = append(s.Beds, grow.Bed{Flow: 2 + r.Intn(5)})
		if r.Intn(3) == 0 {
			week := r.Intn(min(last, 2) + 1)
			s.Beds[len(s.Beds)-1].Cut = to(week, week)
		}
	}
	for range last + 1 {
		low := r.Intn(5)
		s.Light, s.Warm = append(s.Light, 2+max(r.Intn(5), r.Intn(5))), append(s.Warm, to(low, low+max(0, r.Intn(4)-1)))
	}
	return plan.Game{Season: s, Bad: max(r.Intn(4), r.Intn(3)), Apart: r.Intn(2) == 0}
}

// but is the game with a change; the game itself stays as it is.
func but(g plan.Game, change func(g *plan.Game)) plan.Game {
	g = copied(g)
	change(&g)
	return g
}
