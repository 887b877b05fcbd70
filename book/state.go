package book

import (
	"slices"
	"strconv"
	"strings"

	"watercress/bed"
	"watercress/bunch"
	"watercress/grow"
	"watercress/market"
)

// span is a range of any layer.
type span struct{ Lo, Hi int }

func (s span) text() string { return strconv.Itoa(s.Lo) + ".." + strconv.Itoa(s.Hi) }

// lastWeek is the last week of the season.
const lastWeek = 9

// first returns the state at first.
func first() State {
	return State{
		Farm: bed.Farm{
			Springs: []bed.Spring{{Bed: 0, Flow: bed.Range{Lo: 4, Hi: 4}}},
			Beds:    []bed.Bed{{Need: 3, Notch: 5, Down: -1}},
		},
		Lasts: []grow.Range{{Lo: 0, Hi: 0}},
		Cuts:  [][]int{nil},
		Day:   bunch.Day{Hand: 6, Flat: 4, Women: []bunch.Range{{Lo: 20, Hi: 20}}},
	}
}

// clone returns the state in memory of its own.
func (s State) clone() State {
	s.Farm.Springs = slices.Clone(s.Farm.Springs)
	s.Farm.Beds = slices.Clone(s.Farm.Beds)
	s.Farm.Looks = slices.Clone(s.Farm.Looks)
	s.Lasts = slices.Clone(s.Lasts)
	s.Cuts = slices.Clone(s.Cuts)
	for n, weeks := range s.Cuts {
		s.Cuts[n] = slices.Clone(weeks)
	}
	s.Day.Women = slices.Clone(s.Day.Women)
	s.Day.Lots = slices.Clone(s.Day.Lots)
	s.Day.Counts = slices.Clone(s.Day.Counts)
	s.Accounts = slices.Clone(s.Accounts)
	return s
}

// season returns the season of the state, whose farm must have a truth: a bed has the water of which it can be sure.
func (s State) season() grow.Season {
	season := grow.Season{
		Last: lastWeek, Stub: 1, Ripe: 6, Flower: 99, Knives: 2,
		Light: slices.Repeat([]int{4}, lastWeek+1),
		Warm:  slices.Repeat([]grow.Range{{Lo: 4, Hi: 4}}, lastWeek+1),
	}
	bounds, _ := bed.Bounds(s.Farm)
	for n, b := range bounds {
		season.Beds = append(season.Beds, grow.Bed{Flow: b.Kept.Lo, Cut: s.Lasts[n]})
	}
	return season
}

// market returns the market of the state.
func (s State) market() market.Market {
	return market.Market{
		Prices: []int{120, 90, 60}, Commission: 8,
		Days:     []bunch.Day{s.Day},
		Accounts: s.Accounts,
	}
}

// report returns what the layers say of a state that stands, so that they have no errors.
func (s State) report() string {
	var text strings.Builder
	add := func(words ...string) {
		text.WriteString(strings.Join(words, " "))
		text.WriteByte('\n')
	}
	bounds, _ := bed.Bounds(s.Farm)
	for _, b := range bounds {
		add("bed", span(b.Kept).text())
	}
	yield, _ := grow.Yield(s.season(), s.Cuts)
	add("yield", span(yield).text())
	day, _ := bunch.Bounds(s.Day)
	add("flats", span(day.Flats).text())
	sales := s.market()
	for n := range sales.Accounts {
		due, _ := market.Due(sales, n)
		add("due", span(due).text())
	}
	out, _ := market.Leave(sales)
	words := []string{"leave"}
	for _, n := range out {
		words = append(words, strconv.Itoa(n))
	}
	add(words...)
	return text.String()
}
