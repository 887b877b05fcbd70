package market_test

import (
	"math/rand"
	"slices"

	"watercress/api"
	"watercress/bunch"
	"watercress/market"
)

// The oracle says what the chapter's definitions say, and shares no code with the package; it asks only layer 5 for the flats.

func list(l ...int) []int { return l }

func to(low, high int) market.Range { return market.Range{Lo: low, Hi: high} }

func has(r market.Range, n int) bool { return r.Lo <= n && n <= r.Hi }

// known is a day with so many flats.
func known(n int) bunch.Day { return between(n, n) }

// between is a day with flats between these numbers: its stems, of which each is a bunch, a hand and a flat.
func between(low, high int) bunch.Day {
	return bunch.Day{Hand: 1, Flat: 1, Women: []bunch.Range{{Lo: 1, Hi: 1}}, Lots: []bunch.Lot{{Stems: bunch.Range{Lo: low, Hi: high}}}}
}

// counted is the day with one more count, of its flats.
func counted(d bunch.Day, low, high int) bunch.Day {
	d.Counts = append(slices.Clone(d.Counts), bunch.Count{Kind: bunch.Flats, Number: bunch.Range{Lo: low, Hi: high}})
	return d
}

func account(day, flats, low, high, money int) market.Account {
	return market.Account{Day: day, Flats: flats, Grade: to(low, high), Money: money}
}

// accounts are many that are alike.
func accounts(many int, what market.Account) []market.Account {
	return slices.Repeat([]market.Account{what}, many)
}

// net counts the hundredths that are not kept, and leaves a part of a penny to whom it is paid.
func net(m market.Market, flats, grade int) int {
	return (flats*m.Prices[grade]*(100-m.Commission) + 99) / 100
}

func fitting(m market.Market, a market.Account) []int {
	var all []int
	for grade := range m.Prices {
		if has(a.Grade, grade) && net(m, a.Flats, grade) == a.Money {
			all = append(all, grade)
		}
	}
	return all
}

func due(m market.Market, a market.Account) market.Range {
	r := to(net(m, a.Flats, a.Grade.Lo), net(m, a.Flats, a.Grade.Lo))
	for grade := a.Grade.Lo; grade <= a.Grade.Hi; grade++ {
		r = to(min(r.Lo, net(m, a.Flats, grade)), max(r.Hi, net(m, a.Flats, grade)))
	}
	return r
}

func loaded(d bunch.Day) market.Range {
	b, _ := bunch.Bounds(d)
	return to(b.Flats.Lo, b.Flats.Hi)
}

// soldOf are the flats of the day's accounts that are not of the list; left and kept are how many accounts are of it, or not.
func soldOf(m market.Market, day int, out []int) (sold, left, kept int) {
	for n, a := range m.Accounts {
		switch {
		case a.Day != day:
		case slices.Contains(out, n):
			left++
		default:
			kept++
			sold += a.Flats
		}
	}
	return sold, left, kept
}

// canLeave reports whether these accounts can be left out.
func canLeave(m market.Market, out []int) bool {
	for n, a := range m.Accounts {
		if !slices.Contains(out, n) && len(fitting(m, a)) == 0 {
			return false
		}
	}
	for day, d := range m.Days {
		sold, left, kept := soldOf(m, day, out)
		r := loaded(d)
		if sold > r.Hi || left == 0 && kept > 0 && sold < r.Lo {
			return false
		}
	}
	return true
}

// shortestOf are all lists that can be left out and are as short as the smallest set.
func shortestOf(m market.Market) [][]int {
	var all [][]int
	for _, out := range allLists(len(m.Accounts)) {
		if (len(all) == 0 || len(out) == len(all[0])) && canLeave(m, out) {
			all = append(all, out)
		}
	}
	return all
}

func blameOf(m market.Market, n int) int {
	all := shortestOf(m)
	in := len(slices.DeleteFunc(slices.Clone(all), func(out []int) bool { return !slices.Contains(out, n) }))
	switch in {
	case len(all):
		return market.Always
	case 0:
		return market.Never
	}
	return market.Perhaps
}

// from are the numbers from low on, below high.
func from(low, high int) []int {
	var all []int
	for n := low; n < high; n++ {
		all = append(all, n)
	}
	return all
}

func firstOf(m market.Market) (int, api.Errno) {
	for n := range m.Accounts {
		if !canLeave(m, from(n+1, len(m.Accounts))) {
			return n, api.OK
		}
	}
	return 0, api.ErrNone
}

func missing(m market.Market, day int) market.Range {
	r := loaded(m.Days[day])
	sold, _, _ := soldOf(m, day, shortestOf(m)[0])
	return to(max(0, r.Lo-sold), r.Hi-sold)
}

// shared pays penny by penny to the one who lacks most of a penny.
func shared(money int, flats []int) []int {
	all, left := 0, money
	for _, n := range flats {
		all += n
	}
	var shares []int
	for _, n := range flats {
		shares = append(shares, money*n/all)
		left -= money * n / all
	}
	for ; left > 0; left-- {
		most := 0
		for i, n := range flats {
			if money*n-shares[i]*all > money*flats[most]-shares[most]*all {
				most = i
			}
		}
		shares[most]++
	}
	return shares
}

// allLists are all increasing lists of numbers below many, by length, and then lexicographically.
func allLists(many int) [][]int {
	var all [][]int
	for mask := range 1 << many {
		l := []int{}
		for n := range many {
			if mask>>n&1 == 1 {
				l = append(l, n)
			}
		}
		all = append(all, l)
	}
	slices.SortFunc(all, func(a, b []int) int {
		if len(a) != len(b) {
			return len(a) - len(b)
		}
		return slices.Compare(a, b)
	})
	return all
}

// copied has memory of its own.
func copied(m market.Market) market.Market {
	m.Prices, m.Days, m.Accounts = slices.Clone(m.Prices), slices.Clone(m.Days), slices.Clone(m.Accounts)
	for n, d := range m.Days {
		m.Days[n].Women, m.Days[n].Lots, m.Days[n].Counts = slices.Clone(d.Women), slices.Clone(d.Lots), slices.Clone(d.Counts)
	}
	return m
}

func sameDay(a, b bunch.Day) bool {
	return a.Hand == b.Hand && a.Flat == b.Flat && slices.Equal(a.Women, b.Women) && slices.Equal(a.Lots, b.Lots) && slices.Equal(a.Counts, b.Counts)
}

func same(a, b market.Market) bool {
	return slices.Equal(a.Prices, b.Prices) && a.Commission == b.Commission && slices.EqualFunc(a.Days, b.Days, sameDay) && slices.Equal(a.Accounts, b.Accounts)
}

// withAccounts is the market with these accounts instead of its own.
func withAccounts(m market.Market, l ...market.Account) market.Market {
	m.Accounts = l
	return m
}

// markets are valid; every fourth one has accounts of any kind, the others mostly such as share the flats of a truth.
func markets(many int, seed int64) []market.Market {
	r := rand.New(rand.NewSource(seed))
	var all []market.Market
	for len(all) < many {
		m := bareMarket(r)
		if len(all)%4 == 0 {
			for range r.Intn(api.MaxMarketAccounts + 1) {
				m.Accounts = append(m.Accounts, anyAccount(r, m))
			}
		} else {
			m.Accounts = soldAccounts(r, m)
			for range min(r.Intn(3), r.Intn(3)) {
				spoil(r, &m)
			}
		}
		all = append(all, m)
	}
	return all
}

// bareMarket has no accounts.
func bareMarket(r *rand.Rand) market.Market {
	m := market.Market{Commission: list(0, 8, 50, 100, r.Intn(101), r.Intn(30), r.Intn(30))[r.Intn(7)]}
	price := list(9, 120, 1000)[r.Intn(3)]
	for range 1 + r.Intn(api.MaxMarketGrades) {
		m.Prices = append(m.Prices, price)
		price -= r.Intn(price/2+1) * min(1, r.Intn(4))
	}
	for range 1 + r.Intn(api.MaxMarketDays) {
		m.Days = append(m.Days, anyDay(r))
	}
	return m
}

// anyDay has a truth, and not many of them.
func anyDay(r *rand.Rand) bunch.Day {
	if r.Intn(3) == 0 {
		return known(r.Intn(12))
	}
	d := bunch.Day{Hand: 1 + r.Intn(3), Flat: 1 + r.Intn(3)}
	for woman := range 1 + r.Intn(2) {
		feel, stems := 1+r.Intn(6), r.Intn(60)
		d.Women = append(d.Women, bunch.Range{Lo: feel, Hi: feel + r.Intn(2)})
		d.Lots = append(d.Lots, bunch.Lot{Woman: woman, Stems: bunch.Range{Lo: stems, Hi: stems + r.Intn(4)}})
	}
	flats := loaded(d)
	n := flats.Lo + r.Intn(flats.Hi-flats.Lo+1)
	with := counted(d, max(0, n-r.Intn(2)), n+r.Intn(2))
	// There need not be a truth for each number between the bounds.
	if _, e := bunch.Bounds(with); e == api.OK && r.Intn(3) == 0 {
		return with
	}
	return d
}

// graded is an account of the market, with a grade that fits, and perhaps with others beside it.
func graded(r *rand.Rand, m market.Market, day, flats int) market.Account {
	last := len(m.Prices) - 1
	grade := r.Intn(last + 1)
	return account(day, flats, max(0, grade-r.Intn(3)), min(last, grade+r.Intn(3)), net(m, flats, grade))
}

// anyAccount mostly has some grade that fits.
func anyAccount(r *rand.Rand, m market.Market) market.Account {
	a := graded(r, m, r.Intn(len(m.Days)), r.Intn(9))
	if r.Intn(4) == 0 {
		a.Money += r.Intn(9)
	}
	return a
}

// soldAccounts are of flats that may have been loaded, all in one account or in several, in any order.
func soldAccounts(r *rand.Rand, m market.Market) []market.Account {
	var all []market.Account
	for day, d := range m.Days {
		flats := loaded(d)
		left := flats.Lo + r.Intn(flats.Hi-flats.Lo+1)
		for range r.Intn(3 - day) {
			some := r.Intn(left + 1)
			all = append(all, graded(r, m, day, some))
			left -= some
		}
		all = append(all, graded(r, m, day, left))
	}
	r.Shuffle(len(all), func(i, j int) { all[i], all[j] = all[j], all[i] })
	return all
}

// spoil makes something false of an account, or adds one, or takes one away.
func spoil(r *rand.Rand, m *market.Market) {
	if len(m.Accounts) == 0 {
		return
	}
	n := r.Intn(len(m.Accounts))
	a := &m.Accounts[n]
	switch r.Intn(7) {
	case 0:
		a.Money = max(0, a.Money+r.Intn(5)-2)
	case 1:
		*a = graded(r, *m, a.Day, max(0, a.Flats+r.Intn(7)-3))
	case 2:
		a.Day = r.Intn(len(m.Days))
	case 3:
		grade := r.Intn(len(m.Prices))
		a.Grade = to(grade, grade)
	case 4:
		m.Accounts = slices.Delete(m.Accounts, n, n+1)
	default:
		if len(m.Accounts) < api.MaxMarketAccounts {
			m.Accounts = slices.Insert(m.Accounts, n, graded(r, *m, a.Day, list(a.Flats, 1+r.Intn(4))[r.Intn(2)]))
		}
	}
}
