package book

import (
	"slices"

	"watercress/api"
	"watercress/bed"
	"watercress/bunch"
	"watercress/grow"
	"watercress/market"
)

// How much the numbers of a range may differ.
const (
	flowWide  = 3
	lastsWide = 2
	feelWide  = 2
	stemsWide = 2
)

// worstGrade is the last grade of the market's prices.
const worstGrade = 2

// upTo returns the range of two numbers, which must be one up to the most.
func upTo(most int, n []int) span {
	must(api.ErrRange, n[0] <= n[1], n[1] <= most)
	return span{Lo: n[0], Hi: n[1]}
}

// narrow returns the range of two numbers, which must be one up to the most, and no wider than this.
func narrow(wide, most int, n []int) span {
	must(api.ErrRange, n[1] <= n[0]+wide)
	return upTo(most, n)
}

func flow(n []int) bed.Range { return bed.Range(narrow(flowWide, api.MaxBedFlow, n)) }

func stems(n []int) bunch.Range { return bunch.Range(narrow(stemsWide, api.MaxBunchStems, n)) }

func feel(n []int) bunch.Range {
	must(api.ErrRange, n[0] > 0)
	return bunch.Range(narrow(feelWide, api.MaxBunchFeel, n))
}

// notch returns the number, which must be one that a board can have. (A Need is one, too.)
func notch(n int) int {
	must(api.ErrRange, n <= api.MaxBedNotch)
	return n
}

// in returns the index, which must be one of the list.
func in[T any](list []T, n int) int {
	must(api.ErrNone, n < len(list))
	return n
}

// with returns the list with one more element, of which there must not be too many.
func with[T any](list []T, most int, x T) []T {
	must(api.ErrLimit, len(list) < most)
	return append(list, x)
}

// without returns the list without an element, which must be there.
func without[T any](list []T, n int) []T {
	return slices.Delete(list, in(list, n), n+1)
}

func (d *draft) addBed(n []int) {
	below := len(d.Farm.Beds)
	d.Farm.Beds = with(d.Farm.Beds, api.MaxGrowBeds, bed.Bed{Need: notch(n[0]), Notch: notch(n[1]), Down: -1})
	d.Farm.Beds[below-1].Down = below
	d.Lasts = append(d.Lasts, grow.Range{})
	d.Cuts = append(d.Cuts, nil)
}

func (d *draft) setNotch(n []int) {
	b := in(d.Farm.Beds, n[0])
	d.Farm.Beds[b].Notch = notch(n[1])
}

func (d *draft) addSpring(n []int) {
	s := bed.Spring{Bed: in(d.Farm.Beds, n[0])}
	s.Flow = flow(n[1:])
	d.Farm.Springs = with(d.Farm.Springs, api.MaxBedSprings, s)
}

func (d *draft) setFlow(n []int) {
	s := in(d.Farm.Springs, n[0])
	d.Farm.Springs[s].Flow = flow(n[1:])
}

func (d *draft) removeSpring(n []int) { d.Farm.Springs = without(d.Farm.Springs, n[0]) }

func (d *draft) addLook(n []int) {
	l := bed.Look{Bed: in(d.Farm.Beds, n[0]), Over: n[1] == 1}
	must(api.ErrRange, n[1] <= 1)
	l.Water = bed.Range(upTo(api.MaxBedWater, n[2:]))
	d.Farm.Looks = with(d.Farm.Looks, api.MaxBedLooks, l)
}

func (d *draft) removeLook(n []int) { d.Farm.Looks = without(d.Farm.Looks, n[0]) }

func (d *draft) setLasts(n []int) {
	b := in(d.Farm.Beds, n[0])
	d.Lasts[b] = grow.Range(narrow(lastsWide, lastWeek, n[1:]))
}

func (d *draft) addCut(n []int) {
	b, week := in(d.Farm.Beds, n[0]), n[1]
	must(api.ErrRange, week <= lastWeek)
	at, twice := slices.BinarySearch(d.Cuts[b], week)
	must(api.ErrTwice, !twice)
	d.Cuts[b] = slices.Insert(d.Cuts[b], at, week)
}

func (d *draft) removeCut(n []int) {
	b := in(d.Farm.Beds, n[0])
	at, is := slices.BinarySearch(d.Cuts[b], n[1])
	must(api.ErrNone, is)
	d.Cuts[b] = without(d.Cuts[b], at)
}

func (d *draft) addWoman(n []int) {
	d.Day.Women = with(d.Day.Women, api.MaxBunchWomen, feel(n))
}

func (d *draft) setFeel(n []int) {
	w := in(d.Day.Women, n[0])
	d.Day.Women[w] = feel(n[1:])
}

func (d *draft) addLot(n []int) {
	l := bunch.Lot{Woman: in(d.Day.Women, n[0])}
	l.Stems = stems(n[1:])
	d.Day.Lots = with(d.Day.Lots, api.MaxBunchLots, l)
}

func (d *draft) setStems(n []int) {
	l := in(d.Day.Lots, n[0])
	d.Day.Lots[l].Stems = stems(n[1:])
}

func (d *draft) removeLot(n []int) { d.Day.Lots = without(d.Day.Lots, n[0]) }

// addCount refuses a count of all women together if it names one of them.
func (d *draft) addCount(n []int) {
	kind, woman := n[0], n[1]
	must(api.ErrRange, kind <= bunch.Spare, kind <= bunch.Left || woman == 0)
	c := bunch.Count{Kind: kind, Number: bunch.Range(upTo(api.MaxBunchNumber, n[2:]))}
	c.Woman = in(d.Day.Women, woman)
	d.Day.Counts = with(d.Day.Counts, api.MaxBunchCounts, c)
}

func (d *draft) removeCount(n []int) { d.Day.Counts = without(d.Day.Counts, n[0]) }

func (d *draft) addAccount(n []int) {
	must(api.ErrRange, n[0] <= api.MaxMarketFlats)
	a := market.Account{Flats: n[0], Grade: market.Range(upTo(worstGrade, n[1:3])), Money: n[3]}
	d.Accounts = with(d.Accounts, api.MaxMarketAccounts, a)
}

func (d *draft) removeAccount(n []int) { d.Accounts = without(d.Accounts, n[0]) }
