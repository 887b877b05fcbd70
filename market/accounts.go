package market

import (
	"cmp"
	"iter"
	"slices"

	"watercress/api"
	"watercress/bunch"
	"watercress/lists"
)

// sale is flats with a grade.
type sale struct{ flats, grade int }

// sums has a number of flats for each day; 0 where there is no day.
type sums [api.MaxMarketDays]int

// between returns the sums as near as they can be within these bounds.
func (s sums) between(least, most sums) sums {
	for day := range s {
		s[day] = max(least[day], min(s[day], most[day]))
	}
	return s
}

// question is what is asked of a grade about an account.
type question struct{ of func(work, Account, int) bool }

// work is a valid market at work.
type work struct {
	Market
	least, most sums         // the loaded flats
	nets        map[sale]int // of the flats of each account, with each grade
}

// open returns the market at work, or its error. What the call names beside the market must be inRange.
func open(m Market, inRange bool) (work, api.Errno) {
	if m.tooLong() {
		return work{}, api.ErrLimit
	}
	w := work{Market: m, nets: map[sale]int{}}
	for n, d := range m.Days {
		b, e := bunch.Bounds(d)
		if e != api.OK {
			return work{}, e
		}
		w.least[n], w.most[n] = b.Flats.Lo, b.Flats.Hi
	}
	switch {
	case !m.valid():
		return work{}, api.ErrArg
	case !inRange:
		return work{}, api.ErrRange
	}
	for _, a := range m.Accounts {
		for grade := range len(m.Prices) {
			s := sale{a.Flats, grade}
			w.nets[s] = m.net(s)
		}
	}
	return w, api.OK
}

// net returns what is paid for the flats, less the commission.
func (m Market) net(s sale) int {
	gross := s.flats * m.Prices[s.grade]
	return gross - gross*m.Commission/api.MaxMarketHundred
}

// allows reports whether the account may have the grade, whatever was paid.
func (w work) allows(a Account, grade int) bool { return a.Grade.has(grade) }

func (w work) fits(a Account, grade int) bool {
	return w.allows(a, grade) && w.nets[sale{a.Flats, grade}] == a.Money
}

// grades yields those of which the answer is yes, in increasing order.
func (w work) grades(a Account, q question) iter.Seq[int] {
	return func(yield func(int) bool) {
		for grade := range len(w.Prices) {
			if q.of(w, a, grade) && !yield(grade) {
				return
			}
		}
	}
}

func (w work) hasFitting(a Account) bool {
	for range w.grades(a, question{work.fits}) {
		return true
	}
	return false
}

// sold returns the flats of each day in its accounts, without those of the list.
func (w work) sold(out []int) sums {
	var sold sums
	for n, a := range w.Accounts {
		if !slices.Contains(out, n) {
			sold[a.Day] += a.Flats
		}
	}
	return sold
}

// owed returns how many flats the accounts of each day must have together, without those of the list. An account that is left out may hide any number of flats, and so may a day that has no accounts at all.
func (w work) owed(out []int) sums {
	var owed sums
	for _, a := range w.Accounts {
		owed[a.Day] = w.least[a.Day]
	}
	for _, n := range out {
		owed[w.Accounts[n].Day] = 0
	}
	return owed
}

// canLeave reports whether the accounts of the list can be left out together.
func (w work) canLeave(out []int) bool {
	sold := w.sold(out)
	return sold.between(w.owed(out), w.most) == sold &&
		lists.Each(w.Accounts, func(n int, a Account) bool { return slices.Contains(out, n) || w.hasFitting(a) })
}

// after returns all accounts after this one.
func (w work) after(account int) []int {
	var all []int
	for n := account + 1; n < len(w.Accounts); n++ {
		all = append(all, n)
	}
	return all
}

// shortest returns the lists of accounts that can be left out and are as short as the smallest set, which is the first of them. There is one: all accounts together can be left out.
func (w work) shortest() [][]int {
	var all [][]int
search:
	for list := range lists.Rising(len(w.Accounts)) {
		switch {
		case len(all) > 0 && len(list) > len(all[0]):
			break search
		case w.canLeave(list):
			all = append(all, list)
		}
	}
	return all
}

// share shares the money by flats, which are so many together. The pence that are left over are fewer than those who have a remainder.
func share(money int, flats []int, all int) []int {
	var shares, order []int
	left := money
	for n, many := range flats {
		whole := money * many / all
		shares = append(shares, whole)
		order = append(order, n)
		left -= whole
	}
	slices.SortStableFunc(order, func(a, b int) int { return cmp.Compare(money*flats[b]%all, money*flats[a]%all) })
	for _, n := range order[:left] {
		shares[n]++
	}
	return shares
}
