package market_test

import (
	"math"
	"math/rand"
	"slices"
	"testing"

	"watercress/api"
	"watercress/bunch"
	"watercress/market"
)

// asked is what calls are asked beside the market.
type asked struct{ flats, grade, day, account int }

// answer is what a call returns, whatever it is called: numbers, and the error.
type answer struct {
	name    string
	numbers []int
	e       api.Errno
}

// answers calls everything that has a market and an error, with these arguments.
func answers(m market.Market, x asked) []answer {
	var all []answer
	add := func(name string, e api.Errno, numbers ...int) { all = append(all, answer{name, numbers, e}) }
	add("CheckMarket", market.CheckMarket(m))
	n, e := market.Net(m, x.flats, x.grade)
	add("Net", e, unlessZero(n)...)
	r, e := market.Loaded(m, x.day)
	add("Loaded", e, unlessZero(r.Lo, r.Hi)...)
	r, e = market.Missing(m, x.day)
	add("Missing", e, unlessZero(r.Lo, r.Hi)...)
	r, e = market.Due(m, x.account)
	add("Due", e, unlessZero(r.Lo, r.Hi)...)
	l, e := market.Grades(m, x.account)
	add("Grades", e, l...)
	n, e = market.First(m)
	add("First", e, unlessZero(n)...)
	l, e = market.Leave(m)
	add("Leave", e, l...)
	n, e = market.Blame(m, x.account)
	add("Blame", e, unlessZero(n)...)
	return all
}

// unlessZero has the numbers of a result that is not zero.
func unlessZero(l ...int) []int {
	if slices.Equal(l, make([]int, len(l))) {
		return nil
	}
	return l
}

// checkErrors asks for the errors that are named; with each error there must be nothing else.
func checkErrors(t *testing.T, all []answer, want map[string]api.Errno) {
	t.Helper()
	for _, a := range all {
		if e, ok := want[a.name]; ok && a.e != e {
			t.Errorf("%s: %v, not %v", a.name, a.e, e)
		}
		if a.e != api.OK && len(a.numbers) > 0 {
			t.Errorf("%s: %v together with %v", a.name, a.numbers, a.e)
		}
	}
}

func everyCall(e api.Errno) map[string]api.Errno {
	want := map[string]api.Errno{}
	for _, a := range answers(market.Market{}, asked{}) {
		want[a.name] = e
	}
	return want
}

// nowhere has nothing that is in range.
func nowhere() asked { return asked{flats: -1, grade: -1, day: -1, account: -1} }

// tooLong is a day with too many lots, invalid one without women, tooMany one with too many truths, and untrue one whose counts contradict it.
func tooLong() bunch.Day {
	d := known(3)
	d.Lots = slices.Repeat(d.Lots, 5)
	return d
}

func invalid() bunch.Day { return bunch.Day{Hand: 1, Flat: 1} }

func tooMany() bunch.Day { return between(0, 2000) }

func untrue() bunch.Day { return counted(known(3), 4, 20000) }

// widest is as wide as ints are.
func widest() market.Range { return to(math.MinInt, math.MaxInt) }

func TestErrorsOfTheMarket(t *testing.T) {
	for _, x := range []struct {
		what   string
		change func(m *market.Market)
		want   api.Errno
	}{
		{"five prices", func(m *market.Market) { m.Prices = list(5, 4, 3, 2, 1) }, api.ErrLimit},
		{"five prices that are not valid", func(m *market.Market) { m.Prices = list(-1, 4, 3, 2000, 1) }, api.ErrLimit},
		{"three days", func(m *market.Market) { m.Days = slices.Repeat(m.Days[:1], 3) }, api.ErrLimit},
		{"six accounts", func(m *market.Market) { m.Accounts = accounts(6, third(111)) }, api.ErrLimit},
		{"six accounts that are not valid", func(m *market.Market) { m.Accounts = accounts(6, account(9, -1, 2, 1, -1)) }, api.ErrLimit},
		{"three days, one of which has no truth", func(m *market.Market) { m.Days = []bunch.Day{untrue(), untrue(), untrue()} }, api.ErrLimit},
		{"three days, one of which is not valid", func(m *market.Market) { m.Days = make([]bunch.Day, 3) }, api.ErrLimit},
		{"five prices, and a day that has no truth", func(m *market.Market) { m.Prices, m.Days[0] = list(5, 4, 3, 2, 1), untrue() }, api.ErrLimit},
		{"five prices, and no days", func(m *market.Market) { m.Prices, m.Days = list(5, 4, 3, 2, 1), nil }, api.ErrLimit},
		{"six accounts, and a day that is not valid", func(m *market.Market) { m.Accounts, m.Days[1] = accounts(6, third(111)), invalid() }, api.ErrLimit},
		{"six accounts, and no prices", func(m *market.Market) { m.Accounts, m.Prices = accounts(6, third(111)), nil }, api.ErrLimit},
		{"a day that is not valid", func(m *market.Market) { m.Days[0] = invalid() }, api.ErrArg},
		{"a second day that is not valid", func(m *market.Market) { m.Days[1] = invalid() }, api.ErrArg},
		{"a day with too many lots", func(m *market.Market) { m.Days[0] = tooLong() }, api.ErrLimit},
		{"a second day with too many lots", func(m *market.Market) { m.Days[1] = tooLong() }, api.ErrLimit},
		{"a day with too many truths", func(m *market.Market) { m.Days[1] = tooMany() }, api.ErrLimit},
		{"a day that has no truth", func(m *market.Market) { m.Days[0] = untrue() }, api.ErrFalse},
		{"a second day that has no truth", func(m *market.Market) { m.Days[1] = untrue() }, api.ErrFalse},
		{"a day with a count that is not valid", func(m *market.Market) { m.Days[1] = counted(known(3), 4, 3) }, api.ErrArg},
		// The first day that is wrong counts, whatever the second one is.
		{"a day that has no truth, and one that is not valid", func(m *market.Market) { m.Days = []bunch.Day{untrue(), invalid()} }, api.ErrFalse},
		{"a day that is not valid, and one that has no truth", func(m *market.Market) { m.Days = []bunch.Day{invalid(), untrue()} }, api.ErrArg},
		{"a day that has no truth, and one with too many lots", func(m *market.Market) { m.Days = []bunch.Day{untrue(), tooLong()} }, api.ErrFalse},
		{"a day with too many lots, and one that has no truth", func(m *market.Market) { m.Days = []bunch.Day{tooLong(), untrue()} }, api.ErrLimit},
		{"a day that is not valid, and one with too many lots", func(m *market.Market) { m.Days = []bunch.Day{invalid(), tooLong()} }, api.ErrArg},
		{"a day with too many truths, and one that is not valid", func(m *market.Market) { m.Days = []bunch.Day{tooMany(), invalid()} }, api.ErrLimit},
		// A day comes before what else is not valid.
		{"a day that has no truth, and no prices", func(m *market.Market) { m.Days[1], m.Prices = untrue(), nil }, api.ErrFalse},
		{"a day with too many truths, and prices that rise", func(m *market.Market) { m.Days[0], m.Prices = tooMany(), list(1, 2) }, api.ErrLimit},
		{"a day that has no truth, and the Commission 101", func(m *market.Market) { m.Days[0], m.Commission = untrue(), 101 }, api.ErrFalse},
		{"a day that has no truth, and an account of no day", func(m *market.Market) { m.Days[0], m.Accounts[0].Day = untrue(), 2 }, api.ErrFalse},
		{"no prices", func(m *market.Market) { m.Prices = nil }, api.ErrArg},
		{"a list of no prices", func(m *market.Market) { m.Prices = list() }, api.ErrArg},
		{"no prices, and no accounts", func(m *market.Market) { m.Prices, m.Accounts = nil, nil }, api.ErrArg},
		{"a price below 0", func(m *market.Market) { m.Prices[2] = -1 }, api.ErrArg},
		{"the least price", func(m *market.Market) { m.Prices[2] = math.MinInt }, api.ErrArg},
		{"a price above 1000", func(m *market.Market) { m.Prices[0] = 1001 }, api.ErrArg},
		{"the greatest price", func(m *market.Market) { m.Prices[0] = math.MaxInt }, api.ErrArg},
		{"a price greater than the one before it", func(m *market.Market) { m.Prices[1] = 121 }, api.ErrArg},
		{"a last price greater than the one before it", func(m *market.Market) { m.Prices[2] = 91 }, api.ErrArg},
		{"a Commission below 0", func(m *market.Market) { m.Commission = -1 }, api.ErrArg},
		{"the least Commission", func(m *market.Market) { m.Commission = math.MinInt }, api.ErrArg},
		{"the Commission 101", func(m *market.Market) { m.Commission = 101 }, api.ErrArg},
		{"the greatest Commission", func(m *market.Market) { m.Commission = math.MaxInt }, api.ErrArg},
		{"no days", func(m *market.Market) { m.Days = nil }, api.ErrArg},
		{"no days, and no accounts", func(m *market.Market) { m.Days, m.Accounts = nil, nil }, api.ErrArg},
		{"an account of no day", func(m *market.Market) { m.Accounts[1].Day = 2 }, api.ErrArg},
		{"an account of a day below 0", func(m *market.Market) { m.Accounts[0].Day = -1 }, api.ErrArg},
		{"an account of the least day", func(m *market.Market) { m.Accounts[0].Day = math.MinInt }, api.ErrArg},
		{"an account of the greatest day", func(m *market.Market) { m.Accounts[0].Day = math.MaxInt }, api.ErrArg},
		{"an account of a day that is not there", func(m *market.Market) { m.Days, m.Accounts[1].Day = m.Days[:1], 1 }, api.ErrArg},
		{"flats below 0", func(m *market.Market) { m.Accounts[1].Flats = -1 }, api.ErrArg},
		{"the least flats", func(m *market.Market) { m.Accounts[0].Flats = math.MinInt }, api.ErrArg},
		{"flats above 20000", func(m *market.Market) { m.Accounts[1].Flats = 20001 }, api.ErrArg},
		{"the most flats", func(m *market.Market) { m.Accounts[0].Flats = math.MaxInt }, api.ErrArg},
		{"a Grade that is no range", func(m *market.Market) { m.Accounts[1].Grade = to(2, 1) }, api.ErrArg},
		{"a Grade below 0", func(m *market.Market) { m.Accounts[0].Grade = to(-1, 0) }, api.ErrArg},
		{"a Grade that is not there", func(m *market.Market) { m.Accounts[0].Grade = to(2, 3) }, api.ErrArg},
		{"the widest Grade", func(m *market.Market) { m.Accounts[1].Grade = widest() }, api.ErrArg},
		{"Money below 0", func(m *market.Market) { m.Accounts[1].Money = -1 }, api.ErrArg},
		{"the least Money", func(m *market.Market) { m.Accounts[0].Money = math.MinInt }, api.ErrArg},
		{"Money above 20000000", func(m *market.Market) { m.Accounts[1].Money = 20000001 }, api.ErrArg},
		{"the most Money", func(m *market.Market) { m.Accounts[0].Money = math.MaxInt }, api.ErrArg},
	} {
		m := copied(ofChapter())
		m.Days = append(m.Days, between(2, 4))
		x.change(&m)
		t.Run(x.what, func(t *testing.T) {
			// What is asked is wrong too, but does not count before the market.
			checkErrors(t, answers(m, asked{flats: 1}), everyCall(x.want))
			checkErrors(t, answers(m, nowhere()), everyCall(x.want))
			for _, out := range [][]int{nil, list(0), from(0, len(m.Accounts)), list(-1)} {
				if market.ProveOut(m, out) {
					t.Error("proved of a market that is not valid")
				}
			}
		})
	}
}

func TestLimitsThatAreReached(t *testing.T) {
	for _, x := range []struct {
		what   string
		change func(m *market.Market)
	}{
		{"one price", func(m *market.Market) { m.Prices, m.Accounts = m.Prices[:1], nil }},
		{"four prices", func(m *market.Market) { m.Prices = list(1000, 1000, 0, 0) }},
		{"the Commission 0", func(m *market.Market) { m.Commission = 0 }},
		{"the Commission 100", func(m *market.Market) { m.Commission = 100 }},
		{"two days", func(m *market.Market) { m.Days = append(m.Days, m.Days[0]) }},
		{"a day with 2000 truths", func(m *market.Market) { m.Days[0] = between(0, 1999) }},
		{"a day whose counts are right in some truth", func(m *market.Market) { m.Days[0] = counted(m.Days[0], 2, 20000) }},
		{"no accounts", func(m *market.Market) { m.Accounts = nil }},
		{"five accounts", func(m *market.Market) { m.Accounts = accounts(5, account(0, 0, 2, 2, 0)) }},
		{"an account of the last day", func(m *market.Market) { m.Days, m.Accounts[0].Day = append(m.Days, known(1)), 1 }},
		{"no flats, and no money", func(m *market.Market) { m.Accounts[0] = account(0, 0, 0, 2, 0) }},
		{"20000 flats", func(m *market.Market) { m.Accounts[0].Flats = 20000 }},
		{"the Money 20000000", func(m *market.Market) { m.Accounts[0].Money = 20000000 }},
		{"all grades", func(m *market.Market) { m.Accounts[0].Grade = to(0, 2) }},
	} {
		m := copied(ofChapter())
		x.change(&m)
		checkErrors(t, answers(m, asked{}), map[string]api.Errno{"CheckMarket": api.OK, "Net": api.OK, "Loaded": api.OK, "Missing": api.OK, "Leave": api.OK})
		if t.Failed() || !market.ProveOut(m, from(0, len(m.Accounts))) {
			t.Fatalf("with %s", x.what)
		}
	}
}

func TestErrRangeOfNet(t *testing.T) {
	for _, x := range []struct {
		flats, grade int
		want         api.Errno
	}{
		{0, 0, api.OK}, {0, 2, api.OK}, {20000, 0, api.OK}, {20000, 2, api.OK},
		{-1, 0, api.ErrRange}, {20001, 0, api.ErrRange}, {math.MinInt, 2, api.ErrRange}, {math.MaxInt, 2, api.ErrRange}, {1, 3, api.ErrRange}, {1, -1, api.ErrRange}, {1, math.MinInt, api.ErrRange}, {1, math.MaxInt, api.ErrRange}, {-1, -1, api.ErrRange}, {0, 4, api.ErrRange},
	} {
		for _, m := range []market.Market{ofChapter(), ofChapter(third(111)), withAccounts(ofChapter())} {
			checkErrors(t, answers(m, asked{flats: x.flats, grade: x.grade}), map[string]api.Errno{"CheckMarket": api.OK, "Net": x.want, "Loaded": api.OK, "Leave": api.OK})
			if t.Failed() {
				t.Fatalf("Net of %v, %d, %d", m, x.flats, x.grade)
			}
		}
	}
}

func TestErrRangeOfDaysAndAccounts(t *testing.T) {
	two := ofChapter(third(111))
	two.Days = append(two.Days, known(4))
	for _, x := range []struct {
		m             market.Market
		days, account int
	}{{ofChapter(), 1, 2}, {ofChapter(third(100)), 1, 3}, {two, 2, 3}, {withAccounts(two), 2, 0}} {
		for _, n := range list(math.MinInt, -1, 0, 1, 2, 3, 4, 5, math.MaxInt) {
			want := map[string]api.Errno{"CheckMarket": api.OK, "Net": api.OK, "Leave": api.OK}
			for _, name := range []string{"Loaded", "Missing"} {
				want[name] = api.ErrRange
				if n >= 0 && n < x.days {
					want[name] = api.OK
				}
			}
			for _, name := range []string{"Due", "Grades", "Blame"} {
				want[name] = api.ErrRange
				if n >= 0 && n < x.account {
					want[name] = api.OK
				}
			}
			checkErrors(t, answers(x.m, asked{day: n, account: n}), want)
			if t.Failed() {
				t.Fatalf("%d of %v", n, x.m)
			}
		}
	}
}

func TestErrNoneOfFirst(t *testing.T) {
	for _, x := range []struct {
		m    market.Market
		want api.Errno
	}{
		{ofChapter(), api.ErrNone}, {withAccounts(ofChapter()), api.ErrNone}, {plain(days(9, 9), sold(0, 9)), api.ErrNone}, {ofChapter(third(111)), api.OK}, {plain(days(9, 9), sold(0, 8)), api.OK},
	} {
		checkErrors(t, answers(x.m, asked{}), map[string]api.Errno{"First": x.want, "Leave": api.OK, "Missing": api.OK})
	}
}

func TestErrorsOfShares(t *testing.T) {
	for _, x := range []struct {
		money int
		flats []int
		want  api.Errno
	}{
		{100, list(1, 1, 1, 1, 1, 1, 1), api.ErrLimit}, {100, make([]int, 7), api.ErrLimit}, {-1, make([]int, 7), api.ErrLimit}, {100, list(-1, 1, 1, 1, 1, 1, 1), api.ErrLimit}, {100, make([]int, 10000), api.ErrLimit},
		{-1, list(1), api.ErrRange}, {20000001, list(1), api.ErrRange}, {math.MinInt, list(1), api.ErrRange}, {math.MaxInt, list(1), api.ErrRange}, {100, list(1, -1), api.ErrRange}, {100, list(20001), api.ErrRange}, {100, list(1, math.MaxInt, math.MaxInt), api.ErrRange}, {100, list(math.MinInt, 1), api.ErrRange}, {100, list(1, -1, 0), api.ErrRange},
		// That all flats are 0 comes last, whatever the money is.
		{-1, list(0), api.ErrRange}, {-1, nil, api.ErrRange}, {20000001, list(0, 0), api.ErrRange}, {0, list(0, -1, 1), api.ErrRange}, {100, list(0, 0), api.ErrNone}, {100, nil, api.ErrNone}, {100, list(), api.ErrNone}, {0, list(0), api.ErrNone}, {0, make([]int, 6), api.ErrNone},
		{0, list(1), api.OK}, {20000000, list(1), api.OK}, {100, list(20000), api.OK}, {100, list(1, 1, 1, 1, 1, 1), api.OK}, {100, list(0, 0, 0, 0, 0, 1), api.OK}, {20000000, slices.Repeat(list(20000), 6), api.OK},
	} {
		l, e := market.Shares(x.money, x.flats)
		if e != x.want || e != api.OK && len(l) > 0 || e == api.OK && len(l) != len(x.flats) {
			t.Errorf("Shares of %d, %v: %v, %v, not %v", x.money, x.flats, l, e, x.want)
		}
	}
}

// wildNumber is near a limit, or far from all of them.
func wildNumber(r *rand.Rand) int {
	l := list(math.MinInt, -2, -1, 0, 1, 2, 3, 4, 5, 6, 7, 99, 100, 101, 1000, 1001, 20000, 20001, 20000000, 20000001, math.MaxInt)
	return l[r.Intn(len(l))]
}

func wildNumbers(r *rand.Rand, many int) []int {
	var l []int
	for range many {
		l = append(l, wildNumber(r))
	}
	return l
}

func wildMarket(r *rand.Rand) market.Market {
	m := bareMarket(r)
	m.Accounts = soldAccounts(r, m)
	for range r.Intn(3) {
		switch day := r.Intn(max(1, len(m.Days))); r.Intn(13) {
		case 0:
			m.Prices = wildNumbers(r, r.Intn(6))
		case 1:
			m.Prices = append(m.Prices, r.Intn(3))
		case 2:
			m.Commission = wildNumber(r)
		case 3:
			m.Days = append(m.Days, anyDay(r))
		case 4:
			m.Days = m.Days[:day]
		case 5:
			m.Days = append(m.Days, bunch.Day{Hand: wildNumber(r), Flat: wildNumber(r), Women: []bunch.Range{{Lo: wildNumber(r), Hi: wildNumber(r)}}})
		case 6:
			m.Days = slices.Insert(slices.Clone(m.Days), day, []bunch.Day{tooLong(), tooMany(), invalid(), untrue()}[r.Intn(4)])
		case 7:
			m.Accounts = append(m.Accounts, market.Account{Day: wildNumber(r), Flats: wildNumber(r), Grade: to(wildNumber(r), wildNumber(r)), Money: wildNumber(r)})
		case 8:
			m.Accounts = append(m.Accounts, account(day, wildNumber(r), 0, 0, wildNumber(r)))
		case 9:
			m.Accounts = append(m.Accounts, accounts(r.Intn(5), sold(day, 1))...)
		case 10:
			m.Accounts = append(m.Accounts, account(day, 1, wildNumber(r), wildNumber(r), 10))
		case 11:
			m.Accounts = nil
		case 12:
			m.Days = append([]bunch.Day{untrue()}, m.Days[:day]...)
		}
	}
	return m
}

func isFrom(low, n, high int) bool { return low <= n && n <= high }

// checked says what CheckMarket has to return, in the words of the chapter.
func checked(m market.Market) api.Errno {
	if len(m.Prices) > 4 || len(m.Days) > 2 || len(m.Accounts) > 5 {
		return api.ErrLimit
	}
	for _, d := range m.Days {
		if _, e := bunch.Bounds(d); e != api.OK {
			return e
		}
	}
	ok := len(m.Prices) >= 1 && len(m.Days) >= 1 && isFrom(0, m.Commission, 100)
	for grade, price := range m.Prices {
		ok = ok && isFrom(0, price, 1000) && !slices.ContainsFunc(m.Prices[:grade], func(better int) bool { return better < price })
	}
	for _, a := range m.Accounts {
		ok = ok && isFrom(0, a.Day, len(m.Days)-1) && isFrom(0, a.Flats, 20000) && isFrom(0, a.Money, 20000000)
		ok = ok && isFrom(0, a.Grade.Lo, len(m.Prices)-1) && isFrom(0, a.Grade.Hi, len(m.Prices)-1) && a.Grade.Lo <= a.Grade.Hi
	}
	if !ok {
		return api.ErrArg
	}
	return api.OK
}

func TestP1_AnyArguments(t *testing.T) {
	r := rand.New(rand.NewSource(1))
	seen := map[api.Errno]int{}
	for range 5000 {
		m := wildMarket(r)
		want := checked(m)
		seen[want]++
		errors := everyCall(want)
		if want == api.OK {
			errors = map[string]api.Errno{"CheckMarket": api.OK, "Leave": api.OK}
		}
		checkErrors(t, answers(m, asked{wildNumber(r), wildNumber(r), wildNumber(r), wildNumber(r)}), errors)
		out := wildNumbers(r, r.Intn(4))
		proved := market.ProveOut(m, out)
		if proved && (want != api.OK || !canLeave(m, out)) {
			t.Fatalf("ProveOut of %v, %v", m, out)
		}
		if t.Failed() {
			t.Fatalf("with %v", m)
		}
		money, flats := wildNumber(r), wildNumbers(r, r.Intn(9))
		if l, e := market.Shares(money, flats); e == api.OK != (len(l) > 0) {
			t.Fatalf("Shares of %d, %v: %v, %v", money, flats, l, e)
		}
	}
	for _, e := range []api.Errno{api.OK, api.ErrArg, api.ErrLimit, api.ErrFalse} {
		if seen[e] < 200 {
			t.Errorf("not enough of each kind: %v", seen)
		}
	}
}

func TestP1_AtTheLimits(t *testing.T) {
	m := market.Market{Prices: list(1000, 1000, 1000, 1000), Commission: 1, Days: []bunch.Day{between(3001, 5000), between(0, 1999)}, Accounts: accounts(5, account(0, 20000, 0, 3, 19800000))}
	if l, e := market.Leave(m); !slices.Equal(l, list(0, 1, 2, 3, 4)) || e != api.OK {
		t.Errorf("Leave: %v, %v", l, e)
	}
	if r, e := market.Missing(m, 0); r != to(3001, 5000) || e != api.OK {
		t.Errorf("Missing: %v, %v", r, e)
	}
	if l, e := market.Grades(m, 4); !slices.Equal(l, list(0, 1, 2, 3)) || e != api.OK {
		t.Errorf("Grades: %v, %v", l, e)
	}
	m.Accounts = accounts(5, account(0, 1000, 3, 3, 990000))
	if l, e := market.Leave(m); len(l) > 0 || e != api.OK {
		t.Errorf("Leave of flats that may have been loaded: %v, %v", l, e)
	}
	if r, e := market.Missing(m, 0); r != to(0, 0) || e != api.OK {
		t.Errorf("Missing of flats that may have been loaded: %v, %v", r, e)
	}
}

func TestR3_EmptyIsNil(t *testing.T) {
	m := withAccounts(ofChapter())
	n := m
	n.Accounts = []market.Account{}
	n.Days = copied(n).Days
	n.Days[0].Counts = []bunch.Count{}
	a, b := answers(m, asked{flats: 1}), answers(n, asked{flats: 1})
	for i := range a {
		if a[i].e != b[i].e || !slices.Equal(a[i].numbers, b[i].numbers) {
			t.Errorf("%s: %v, and %v of lists without elements", a[i].name, a[i], b[i])
		}
	}
	if !market.ProveOut(m, list()) || !market.ProveOut(n, nil) {
		t.Error("nil and a list without elements are not the same")
	}
}

func TestR4_ArgumentsAreNotWrittenTo(t *testing.T) {
	for _, m := range markets(200, 4) {
		was := copied(m)
		ask := asked{flats: 3}
		before := answers(m, ask)
		out := from(0, len(m.Accounts))
		market.ProveOut(m, out)
		if !same(m, was) || !slices.Equal(out, from(0, len(m.Accounts))) {
			t.Fatalf("%v became %v, or %v was written to", was, m, out)
		}
		for i, a := range answers(m, ask) {
			if a.e != before[i].e || !slices.Equal(a.numbers, before[i].numbers) {
				t.Fatalf("%s of %v: %v, and then %v", a.name, m, before[i], a)
			}
		}
	}
	for _, p := range purses(200, 5) {
		was := slices.Clone(p.flats)
		market.Shares(p.money, p.flats)
		if !slices.Equal(p.flats, was) {
			t.Fatalf("%v became %v", was, p.flats)
		}
	}
}

func TestR4_ListsWithRoomAreNotWrittenTo(t *testing.T) {
	// Behind each list there is memory that belongs to somebody else.
	m := ofChapter()
	prices, loads, all := append(m.Prices, 99), append(m.Days, known(99)), append(m.Accounts, unpaid(9, 9))
	m.Prices, m.Days, m.Accounts = prices[:3], loads[:1], all[:2]
	out, flats := list(0, 1, 99), list(3, 3, 1, 99)
	checkErrors(t, answers(m, asked{}), map[string]api.Errno{"Net": api.OK, "Leave": api.OK})
	market.ProveOut(m, out[:2])
	market.Shares(100, flats[:3])
	if prices[3] != 99 || !sameDay(loads[1], known(99)) || all[2] != unpaid(9, 9) || out[2] != 99 || !slices.Equal(flats, list(3, 3, 1, 99)) {
		t.Errorf("%v, %v, %v, %v or %v was written to", prices, loads, all, out, flats)
	}
}

func TestR4_ResultsAreInMemoryOfTheirOwn(t *testing.T) {
	free := withAccounts(priced(0, 5, 5, 4), account(0, 1, 0, 2, 5))
	flats := list(2)
	for _, x := range []struct {
		name string
		call func() ([]int, api.Errno)
		want []int
	}{
		{"Grades", func() ([]int, api.Errno) { return market.Grades(free, 0) }, list(0, 1)},
		{"Leave", func() ([]int, api.Errno) {
			return market.Leave(plain(days(9, 9), sold(0, 5), sold(0, 5), sold(0, 5)))
		}, list(0, 1)},
		{"Shares", func() ([]int, api.Errno) { return market.Shares(2, flats) }, list(2)},
	} {
		l, e := x.call()
		if !slices.Equal(l, x.want) || e != api.OK {
			t.Fatalf("%s: %v, %v", x.name, l, e)
		}
		for i := range l {
			l[i] = 99
		}
		_ = append(l, 98)
		if again, e := x.call(); !slices.Equal(again, x.want) || e != api.OK || flats[0] != 2 {
			t.Errorf("%s, after its result was written to: %v, %v", x.name, again, e)
		}
	}
}

func TestExampleOfTheReadme(t *testing.T) {
	sales := market.Market{
		Prices: list(120, 90, 60), Commission: 8,
		Days: []bunch.Day{{Hand: 1, Flat: 4, Women: []bunch.Range{{Lo: 10, Hi: 10}}, Lots: []bunch.Lot{{Woman: 0, Stems: bunch.Range{Lo: 238, Hi: 241}}}}},
		Accounts: []market.Account{
			{Day: 0, Flats: 3, Grade: to(0, 1), Money: 249}, {Day: 0, Flats: 2, Grade: to(1, 2), Money: 111}, {Day: 0, Flats: 2, Grade: to(0, 2), Money: 221},
		},
	}
	if n, e := market.Net(sales, 1, 1); n != 83 || e != api.OK {
		t.Errorf("Net: %d, %v", n, e)
	}
	if r, e := market.Due(sales, 1); r != to(111, 166) || e != api.OK {
		t.Errorf("Due: %v, %v", r, e)
	}
	if l, e := market.Grades(sales, 0); !slices.Equal(l, list(1)) || e != api.OK {
		t.Errorf("Grades: %v, %v", l, e)
	}
	if l, e := market.Leave(sales); !slices.Equal(l, list(0)) || e != api.OK {
		t.Errorf("Leave: %v, %v", l, e)
	}
	if v, e := market.Blame(sales, 2); v != perhaps || e != api.OK {
		t.Errorf("Blame: %d, %v", v, e)
	}
	if r, e := market.Missing(sales, 0); r != to(1, 2) || e != api.OK {
		t.Errorf("Missing: %v, %v", r, e)
	}
	if l, e := market.Shares(221, list(3, 2, 2)); !slices.Equal(l, list(95, 63, 63)) || e != api.OK {
		t.Errorf("Shares: %v, %v", l, e)
	}
}
