package market_test

import (
	"math/rand"
	"slices"
	"testing"

	"watercress/api"
	"watercress/bunch"
	"watercress/market"
)

const always, never, perhaps = market.Always, market.Never, market.Perhaps

// dayOfChapter is the day of the chapter of layer 5, without counts: it has 1 to 2 flats.
func dayOfChapter() bunch.Day {
	return bunch.Day{
		Hand: 6, Flat: 4,
		Women: []bunch.Range{{Lo: 20, Hi: 22}, {Lo: 25, Hi: 25}},
		Lots:  []bunch.Lot{{Woman: 0, Stems: bunch.Range{Lo: 500, Hi: 502}}, {Woman: 1, Stems: bunch.Range{Lo: 610, Hi: 610}}},
	}
}

// ofChapter is the market of the chapter's examples, with more accounts.
func ofChapter(more ...market.Account) market.Market {
	return market.Market{
		Prices: list(120, 90, 60), Commission: 8, Days: []bunch.Day{dayOfChapter()},
		Accounts: append([]market.Account{account(0, 1, 0, 1, 83), account(0, 1, 1, 2, 56)}, more...),
	}
}

// third is the chapter's account 2, with some money.
func third(money int) market.Account { return account(0, 1, 0, 2, money) }

// plain is a market with one price of 10 and no commission, with these days.
func plain(days []bunch.Day, l ...market.Account) market.Market {
	return market.Market{Prices: list(10), Days: days, Accounts: l}
}

// days have flats between each two of these numbers.
func days(l ...int) []bunch.Day {
	var all []bunch.Day
	for i := 0; i < len(l); i += 2 {
		all = append(all, between(l[i], l[i+1]))
	}
	return all
}

// sold is an account of a plain market that has a grade that fits; unpaid has none.
func sold(day, flats int) market.Account { return account(day, flats, 0, 0, 10*flats) }

func unpaid(day, flats int) market.Account { return account(day, flats, 0, 0, 10*flats+1) }

// priced is a market with these prices, this commission and no accounts.
func priced(commission int, prices ...int) market.Market {
	return market.Market{Prices: prices, Commission: commission, Days: days(1, 1)}
}

func TestP9_1_CheckMarket(t *testing.T) {
	for _, m := range []market.Market{
		ofChapter(), ofChapter(third(111)), ofChapter(third(100)), plain(days(0, 0)), plain(days(9, 9, 0, 0), sold(1, 20000)), priced(100, 1000, 1000, 0, 0), priced(0, 0), plain([]bunch.Day{counted(dayOfChapter(), 2, 2)}),
	} {
		if e := market.CheckMarket(m); e != api.OK {
			t.Errorf("CheckMarket of %v: %v", m, e)
		}
	}
	if e := market.CheckMarket(market.Market{}); e != api.ErrArg {
		t.Errorf("CheckMarket of nothing: %v", e)
	}
}

func TestP9_1_Net(t *testing.T) {
	for _, x := range []struct {
		m                  market.Market
		flats, grade, want int
	}{
		// The chapter's examples, and that of the document.
		{ofChapter(), 1, 0, 111}, {ofChapter(), 1, 1, 83}, {ofChapter(), 1, 2, 56}, {ofChapter(), 2, 0, 221}, {ofChapter(), 2, 1, 166}, {ofChapter(), 2, 2, 111}, {priced(8, 90), 1, 0, 83},
		// The commission is rounded, of all flats together: a penny and more is kept only if it is a whole one.
		{priced(1, 99), 1, 0, 99}, {priced(1, 100), 1, 0, 99}, {priced(1, 199), 1, 0, 198}, {priced(1, 99), 2, 0, 197}, {priced(99, 1), 1, 0, 1}, {priced(99, 1), 100, 0, 1}, {priced(99, 1), 101, 0, 2}, {priced(50, 1), 3, 0, 2}, {priced(33, 10), 1, 0, 7}, {priced(33, 10), 10, 0, 67},
		// All of it, or nothing, is kept; nothing is paid; nothing is sold.
		{priced(100, 1000), 20000, 0, 0}, {priced(0, 1000), 20000, 0, 20000000}, {priced(1, 1000), 20000, 0, 19800000}, {priced(8, 5, 0), 7, 1, 0}, {priced(0, 7, 7, 7, 6), 3, 2, 21}, {priced(0, 7, 7, 7, 6), 3, 3, 18}, {ofChapter(), 0, 0, 0}, {ofChapter(), 20000, 0, 2208000},
		// The accounts are not asked, nor what was loaded.
		{ofChapter(third(100)), 9, 0, 994}, {plain(days(0, 0)), 5, 0, 50},
	} {
		if n, e := market.Net(x.m, x.flats, x.grade); n != x.want || e != api.OK {
			t.Errorf("Net of %v, %d, %d: %d, %v, not %d", x.m, x.flats, x.grade, n, e, x.want)
		}
	}
}

func TestP9_1_NetAgreesWithTheDefinition(t *testing.T) {
	r := rand.New(rand.NewSource(11))
	rounded := 0
	for _, m := range markets(500, 11) {
		for grade, price := range m.Prices {
			for _, flats := range list(0, 1, r.Intn(9), r.Intn(400), r.Intn(20001), 20000) {
				want := net(m, flats, grade)
				if n, e := market.Net(m, flats, grade); n != want || e != api.OK {
					t.Fatalf("Net of %v, %d, %d: %d, %v, not %d", m, flats, grade, n, e, want)
				}
				if flats*price*m.Commission%100 != 0 {
					rounded++
				}
			}
		}
	}
	if rounded < 1000 {
		t.Errorf("only %d nets are rounded", rounded)
	}
}

func TestP9_2_LoadedAndMissing(t *testing.T) {
	two := days(9, 9, 4, 4)
	for _, x := range []struct {
		m               market.Market
		day             int
		loaded, missing market.Range
	}{
		// The chapter's examples.
		{ofChapter(), 0, to(1, 2), to(0, 0)}, {ofChapter(third(111)), 0, to(1, 2), to(0, 0)},
		// Counts tell what was loaded.
		{withAccounts(plain([]bunch.Day{counted(dayOfChapter(), 2, 9)})), 0, to(2, 2), to(2, 2)}, {withAccounts(plain([]bunch.Day{counted(dayOfChapter(), 0, 1)}), sold(0, 1)), 0, to(1, 1), to(0, 0)},
		// Without accounts all of it is missing.
		{plain(two), 0, to(9, 9), to(9, 9)}, {plain(two), 1, to(4, 4), to(4, 4)}, {plain(days(0, 0)), 0, to(0, 0), to(0, 0)}, {plain(days(3, 7)), 0, to(3, 7), to(3, 7)},
		// Each day has accounts of its own.
		{plain(two, sold(0, 3), sold(1, 4), sold(0, 6)), 0, to(9, 9), to(0, 0)}, {plain(two, sold(0, 3), sold(1, 4), sold(0, 6)), 1, to(4, 4), to(0, 0)}, {plain(two, sold(0, 9)), 1, to(4, 4), to(4, 4)},
		// What the smallest set hides is missing: all flats of an account of it, whatever it says.
		{plain(two, sold(0, 3), unpaid(0, 6)), 0, to(9, 9), to(6, 6)}, {plain(two, sold(0, 3), sold(0, 4)), 0, to(9, 9), to(5, 5)}, {plain(two, sold(0, 4), sold(0, 3)), 0, to(9, 9), to(6, 6)}, {plain(two, sold(0, 3), sold(0, 9)), 0, to(9, 9), to(0, 0)}, {plain(two, sold(0, 3), sold(0, 4)), 1, to(4, 4), to(4, 4)},
		// A day with several numbers: not below 0.
		{plain(days(3, 7), sold(0, 5)), 0, to(3, 7), to(0, 2)}, {plain(days(3, 7), sold(0, 3)), 0, to(3, 7), to(0, 4)}, {plain(days(3, 7), sold(0, 7)), 0, to(3, 7), to(0, 0)}, {plain(days(3, 7), unpaid(0, 5), sold(0, 1)), 0, to(3, 7), to(2, 6)}, {plain(days(3, 7), sold(0, 2)), 0, to(3, 7), to(3, 7)}, {plain(days(3, 7), sold(0, 8)), 0, to(3, 7), to(3, 7)}, {plain(days(3, 7), sold(0, 2), sold(0, 0), sold(0, 6)), 0, to(3, 7), to(0, 1)},
	} {
		r, e := market.Loaded(x.m, x.day)
		q, f := market.Missing(x.m, x.day)
		if r != x.loaded || e != api.OK || q != x.missing || f != api.OK {
			t.Errorf("Loaded, Missing of %v, %d: %v, %v; %v, %v, not %v; %v", x.m, x.day, r, e, q, f, x.loaded, x.missing)
		}
	}
}

func TestP9_2_LoadedAndMissingAgreeWithTheDefinitions(t *testing.T) {
	wide, open, none := 0, 0, 0
	for _, m := range markets(800, 12) {
		for day, d := range m.Days {
			want := loaded(d)
			if r, e := market.Loaded(m, day); r != want || e != api.OK {
				t.Fatalf("Loaded of %v, %d: %v, %v, not %v", m, day, r, e, want)
			}
			if want.Lo < want.Hi {
				wide++
			}
			want = missing(m, day)
			if r, e := market.Missing(m, day); r != want || e != api.OK {
				t.Fatalf("Missing of %v, %d: %v, %v, not %v", m, day, r, e, want)
			}
			if want.Hi > 0 {
				open++
			} else {
				none++
			}
		}
	}
	if wide < 200 || open < 200 || none < 200 {
		t.Errorf("not enough of each kind: %d, %d, %d", wide, open, none)
	}
}

func TestP9_3_DueAndGrades(t *testing.T) {
	four := func(l ...market.Account) market.Market { return withAccounts(priced(10, 20, 20, 15, 0), l...) }
	for _, x := range []struct {
		m      market.Market
		n      int
		due    market.Range
		grades []int
	}{
		// The chapter's examples.
		{ofChapter(), 0, to(83, 111), list(1)}, {ofChapter(), 1, to(56, 83), list(2)}, {ofChapter(third(111)), 2, to(56, 111), list(0)}, {ofChapter(third(100)), 2, to(56, 111), nil},
		// A grade that would fit, but is not of the range.
		{ofChapter(account(0, 1, 1, 2, 111)), 2, to(56, 83), nil}, {ofChapter(account(0, 1, 0, 1, 56)), 2, to(83, 111), nil}, {ofChapter(account(0, 1, 1, 1, 83)), 2, to(83, 83), list(1)}, {ofChapter(account(0, 1, 0, 0, 83)), 2, to(111, 111), nil},
		// A penny more, or less; the flats count together.
		{ofChapter(third(112)), 2, to(56, 111), nil}, {ofChapter(third(110)), 2, to(56, 111), nil}, {ofChapter(account(0, 2, 0, 2, 221)), 2, to(111, 221), list(0)}, {ofChapter(account(0, 2, 0, 2, 222)), 2, to(111, 221), nil},
		// Several grades have one price.
		{four(account(0, 3, 0, 3, 54)), 0, to(0, 54), list(0, 1)}, {four(account(0, 3, 1, 2, 54)), 0, to(41, 54), list(1)}, {four(account(0, 3, 0, 2, 41)), 0, to(41, 54), list(2)}, {four(account(0, 3, 0, 3, 0)), 0, to(0, 54), list(3)},
		// No flats fit with each grade; so do free ones.
		{four(account(0, 0, 0, 3, 0)), 0, to(0, 0), list(0, 1, 2, 3)}, {four(account(0, 0, 1, 2, 0)), 0, to(0, 0), list(1, 2)}, {four(account(0, 0, 0, 3, 1)), 0, to(0, 0), nil}, {withAccounts(priced(100, 9, 8), account(0, 5, 0, 1, 0)), 0, to(0, 0), list(0, 1)},
		// Accounts with the same flats, and others.
		{four(account(0, 3, 2, 3, 41), account(0, 3, 0, 1, 41), account(0, 4, 0, 1, 72)), 1, to(54, 54), nil}, {four(account(0, 3, 2, 3, 41), account(0, 3, 0, 1, 41), account(0, 4, 0, 1, 72)), 2, to(72, 72), list(0, 1)}, {withAccounts(priced(0, 1000), account(0, 20000, 0, 0, 20000000)), 0, to(20000000, 20000000), list(0)},
	} {
		r, e := market.Due(x.m, x.n)
		l, f := market.Grades(x.m, x.n)
		if r != x.due || e != api.OK || !slices.Equal(l, x.grades) || f != api.OK {
			t.Errorf("Due, Grades of %v, %d: %v, %v; %v, %v, not %v; %v", x.m, x.n, r, e, l, f, x.due, x.grades)
		}
	}
}

func TestP9_3_DueAndGradesAgreeWithTheDefinitions(t *testing.T) {
	seen := map[int]int{}
	for _, m := range markets(600, 13) {
		for n, a := range m.Accounts {
			want := due(m, a)
			if r, e := market.Due(m, n); r != want || e != api.OK {
				t.Fatalf("Due of %v, %d: %v, %v, not %v", m, n, r, e, want)
			}
			grades := fitting(m, a)
			if l, e := market.Grades(m, n); !slices.Equal(l, grades) || e != api.OK {
				t.Fatalf("Grades of %v, %d: %v, %v, not %v", m, n, l, e, grades)
			}
			seen[min(2, len(grades))]++
		}
	}
	if seen[0] < 100 || seen[1] < 300 || seen[2] < 100 {
		t.Errorf("not enough of each kind: %v", seen)
	}
}

// verdicts are those on all accounts.
func verdicts(t *testing.T, m market.Market) []int {
	t.Helper()
	var all []int
	for n := range m.Accounts {
		v, e := market.Blame(m, n)
		if e != api.OK || v != always && v != never && v != perhaps {
			t.Fatalf("Blame of %v, %d: %d, %v", m, n, v, e)
		}
		all = append(all, v)
	}
	return all
}

func TestP9_4_P9_5_FirstLeaveAndBlame(t *testing.T) {
	two := days(9, 9, 4, 4)
	for _, x := range []struct {
		m     market.Market
		first int
		e     api.Errno
		leave []int
		blame []int
	}{
		// The chapter's examples.
		{ofChapter(), 0, api.ErrNone, nil, list(never, never)}, {ofChapter(third(111)), 2, api.OK, list(0), list(perhaps, perhaps, perhaps)}, {ofChapter(third(100)), 2, api.OK, list(2), list(never, never, always)},
		// All flats, or some that were never loaded.
		{plain(two), 0, api.ErrNone, nil, nil}, {plain(two, sold(0, 9)), 0, api.ErrNone, nil, list(never)}, {plain(two, sold(0, 10)), 0, api.OK, list(0), list(always)}, {plain(two, sold(0, 9), sold(0, 1)), 1, api.OK, list(0), list(perhaps, perhaps)}, {plain(two, sold(0, 9), sold(0, 0)), 0, api.ErrNone, nil, list(never, never)}, {plain(two, sold(0, 1), sold(0, 2), sold(0, 7)), 2, api.OK, list(0), list(perhaps, perhaps, perhaps)}, {plain(two, sold(0, 20000), sold(0, 9)), 0, api.OK, list(0), list(always, never)},
		// Too few are wrong only with the last account of the day, and if none of it is false.
		{plain(two, sold(0, 8)), 0, api.OK, list(0), list(always)}, {plain(two, sold(0, 4), sold(0, 4)), 1, api.OK, list(0), list(perhaps, perhaps)}, {plain(two, sold(0, 4), sold(0, 5)), 0, api.ErrNone, nil, list(never, never)}, {plain(two, unpaid(0, 4), sold(0, 4)), 0, api.OK, list(0), list(always, never)}, {plain(two, unpaid(0, 4), sold(0, 10)), 0, api.OK, list(0, 1), list(always, always)}, {plain(two, sold(0, 0)), 0, api.OK, list(0), list(always)},
		// Each day has flats of its own, and one without accounts lacks none.
		{plain(two, sold(1, 4)), 0, api.ErrNone, nil, list(never)}, {plain(two, sold(1, 4), sold(0, 9)), 0, api.ErrNone, nil, list(never, never)}, {plain(two, sold(1, 9)), 0, api.OK, list(0), list(always)}, {plain(two, sold(0, 9), sold(1, 3)), 1, api.OK, list(1), list(never, always)}, {plain(two, sold(0, 8), sold(1, 4)), 0, api.OK, list(0), list(always, never)}, {plain(two, sold(0, 8), sold(1, 3)), 0, api.OK, list(0, 1), list(always, always)}, {plain(two, sold(0, 5), sold(1, 1), sold(0, 3), sold(1, 2)), 2, api.OK, list(0, 1), list(perhaps, perhaps, perhaps, perhaps)}, {plain(two, unpaid(1, 0), sold(0, 8)), 0, api.OK, list(0, 1), list(always, always)},
		// Between the bounds of a day, which are reached.
		{plain(days(3, 5), sold(0, 2)), 0, api.OK, list(0), list(always)}, {plain(days(3, 5), sold(0, 3)), 0, api.ErrNone, nil, list(never)}, {plain(days(3, 5), sold(0, 5)), 0, api.ErrNone, nil, list(never)}, {plain(days(3, 5), sold(0, 6)), 0, api.OK, list(0), list(always)}, {plain(days(0, 5), sold(0, 0)), 0, api.ErrNone, nil, list(never)}, {plain(days(0, 0), sold(0, 0)), 0, api.ErrNone, nil, list(never)},
		// A shorter list is better than one that is lexicographically before it; of those of one length the first counts.
		{plain(two, sold(0, 4), sold(0, 5), sold(0, 6)), 2, api.OK, list(2), list(never, never, always)}, {plain(two, sold(0, 6), sold(0, 4), sold(0, 5)), 1, api.OK, list(0), list(always, never, never)}, {plain(two, sold(0, 5), sold(0, 5), sold(0, 4)), 1, api.OK, list(0), list(perhaps, perhaps, never)}, {plain(two, sold(0, 5), sold(0, 5), sold(0, 5)), 1, api.OK, list(0, 1), list(perhaps, perhaps, perhaps)}, {plain(two, sold(0, 6), sold(0, 6), sold(0, 2), sold(0, 1)), 1, api.OK, list(0), list(perhaps, perhaps, never, never)}, {plain(two, sold(0, 6), sold(0, 6), sold(0, 2), sold(0, 2)), 1, api.OK, list(0, 1), list(perhaps, perhaps, perhaps, perhaps)}, {plain(two, sold(0, 3), sold(0, 7), sold(0, 7)), 1, api.OK, list(0, 1), list(perhaps, perhaps, perhaps)}, {plain(two, sold(0, 2), sold(0, 7), sold(0, 7)), 2, api.OK, list(1), list(never, perhaps, perhaps)},
		// All of them; all five are needed; the last one makes up for what lacks.
		{plain(two, accounts(5, unpaid(0, 1))...), 0, api.OK, list(0, 1, 2, 3, 4), list(always, always, always, always, always)}, {plain(two, accounts(5, sold(0, 10))...), 0, api.OK, list(0, 1, 2, 3, 4), list(always, always, always, always, always)}, {plain(two, accounts(5, sold(0, 9))...), 1, api.OK, list(0, 1, 2, 3), list(perhaps, perhaps, perhaps, perhaps, perhaps)}, {plain(two, append(accounts(4, sold(0, 2)), sold(0, 1))...), 0, api.ErrNone, nil, list(never, never, never, never, never)}, {plain(two, append(accounts(4, sold(0, 2)), sold(0, 2))...), 4, api.OK, list(0), list(perhaps, perhaps, perhaps, perhaps, perhaps)},
		// An account that has no grade that fits hides flats, but not more than were loaded.
		{plain(two, sold(0, 9), unpaid(0, 4)), 1, api.OK, list(1), list(never, always)}, {plain(two, sold(0, 9), unpaid(0, 4), sold(0, 1)), 1, api.OK, list(0, 1), list(perhaps, always, perhaps)}, {plain(two, sold(0, 9), account(1, 4, 0, 0, 39), sold(1, 1)), 1, api.OK, list(1), list(never, always, never)},
	} {
		n, e := market.First(x.m)
		l, f := market.Leave(x.m)
		if n != x.first || e != x.e || !slices.Equal(l, x.leave) || f != api.OK {
			t.Errorf("First, Leave of %v: %d, %v; %v, %v, not %d, %v; %v", x.m, n, e, l, f, x.first, x.e, x.leave)
		}
		if v := verdicts(t, x.m); !slices.Equal(v, x.blame) {
			t.Errorf("Blame of %v: %v, not %v", x.m, v, x.blame)
		}
	}
}

func TestP9_4_FirstAndLeaveAgreeWithTheDefinitions(t *testing.T) {
	right, wrong, late, several := 0, 0, 0, 0
	for _, m := range markets(1500, 14) {
		want, is := firstOf(m)
		if n, e := market.First(m); n != want || e != is {
			t.Fatalf("First of %v: %d, %v, not %d, %v", m, n, e, want, is)
		}
		out := shortestOf(m)[0]
		if l, e := market.Leave(m); !slices.Equal(l, out) || e != api.OK {
			t.Fatalf("Leave of %v: %v, %v, not %v", m, l, e, out)
		}
		if is == api.OK {
			wrong++
		} else {
			right++
		}
		if want > 1 {
			late++
		}
		if len(out) > 1 {
			several++
		}
	}
	if right < 300 || wrong < 300 || late < 100 || several < 100 {
		t.Errorf("not enough of each kind: %d, %d, %d, %d", right, wrong, late, several)
	}
}

func TestP9_4_ProveOut(t *testing.T) {
	two := days(9, 9, 4, 4)
	for _, x := range []struct {
		m    market.Market
		out  []int
		want bool
	}{
		{ofChapter(), nil, true}, {ofChapter(), list(), true}, {ofChapter(), list(0), true}, {ofChapter(), list(0, 1), true}, {ofChapter(third(111)), nil, false}, {ofChapter(third(111)), list(0), true}, {ofChapter(third(111)), list(1), true}, {ofChapter(third(111)), list(2), true}, {ofChapter(third(111)), list(0, 2), true}, {ofChapter(third(100)), nil, false}, {ofChapter(third(100)), list(0), false}, {ofChapter(third(100)), list(0, 1), false}, {ofChapter(third(100)), list(2), true}, {ofChapter(third(100)), list(0, 1, 2), true},
		// The least of a day counts only if none of its accounts is left out.
		{plain(two, sold(0, 3), sold(0, 3), sold(1, 4)), nil, false}, {plain(two, sold(0, 3), sold(0, 3), sold(1, 4)), list(0), true}, {plain(two, sold(0, 3), sold(0, 3), sold(1, 4)), list(2), false}, {plain(two, sold(0, 3), sold(0, 3), sold(1, 3)), list(1), false}, {plain(two, sold(0, 3), sold(0, 3), sold(1, 3)), list(1, 2), true}, {plain(two), nil, true},
		// The most always counts.
		{plain(two, sold(0, 3), sold(0, 10)), list(0), false}, {plain(two, sold(0, 3), sold(0, 9)), list(0), true},
		// A list that does not rise, or has other numbers than those of accounts.
		{ofChapter(), list(1, 0), false}, {ofChapter(), list(0, 0), false}, {ofChapter(), list(1, 1), false}, {ofChapter(), list(0, 1, 1), false}, {ofChapter(), list(2), false}, {ofChapter(), list(-1), false}, {ofChapter(), list(-1, 0), false}, {ofChapter(), list(0, 1, 2), false}, {ofChapter(third(111)), list(3), false}, {ofChapter(third(111)), list(2, 0), false}, {plain(two), list(0), false}, {ofChapter(), make([]int, 10000), false},
		// The market must be valid.
		{market.Market{}, nil, false}, {market.Market{}, list(0), false}, {plain(nil), nil, false}, {plain(days(9, 9, 4, 4, 1, 1)), nil, false}, {plain(two, accounts(6, sold(0, 1))...), list(0, 1, 2, 3, 4, 5), false}, {plain(two, accounts(5, sold(0, 1))...), list(0, 1, 2, 3, 4), true}, {plain(two, sold(2, 1)), list(0), false}, {plain([]bunch.Day{counted(known(3), 4, 4)}), nil, false},
	} {
		if market.ProveOut(x.m, x.out) != x.want {
			t.Errorf("ProveOut of %v, %v is not %v", x.m, x.out, x.want)
		}
	}
}

func TestP9_4_ProveOutAgreesWithTheDefinition(t *testing.T) {
	r := rand.New(rand.NewSource(15))
	seen := map[bool]int{}
	for _, m := range markets(500, 15) {
		for _, out := range allLists(len(m.Accounts)) {
			want := canLeave(m, out)
			if market.ProveOut(m, out) != want {
				t.Fatalf("ProveOut of %v, %v is not %v", m, out, want)
			}
			seen[want]++
			if len(out) < 2 {
				continue
			}
			// The same accounts, but not in increasing order.
			i := 1 + r.Intn(len(out)-1)
			out[i-1], out[i] = out[i], out[i-1]
			if market.ProveOut(m, out) {
				t.Fatalf("ProveOut of %v, %v", m, out)
			}
		}
	}
	if seen[true] < 1000 || seen[false] < 1000 {
		t.Errorf("not enough of each kind: %v", seen)
	}
}

func TestP9_5_NumbersOfTheKinds(t *testing.T) {
	if market.Always != 1 || market.Never != 2 || market.Perhaps != 3 {
		t.Errorf("%d, %d, %d", market.Always, market.Never, market.Perhaps)
	}
}

func TestP9_5_BlameAgreesWithTheDefinition(t *testing.T) {
	seen := map[int]int{}
	for _, m := range markets(900, 16) {
		for n := range m.Accounts {
			want := blameOf(m, n)
			if v, e := market.Blame(m, n); v != want || e != api.OK {
				t.Fatalf("Blame of %v, %d: %d, %v, not %d", m, n, v, e, want)
			}
			seen[want]++
		}
	}
	if seen[always] < 200 || seen[never] < 200 || seen[perhaps] < 200 {
		t.Errorf("not enough of each kind: %v", seen)
	}
}

func TestP9_6_Shares(t *testing.T) {
	for _, x := range []struct {
		money       int
		flats, want []int
	}{
		// The chapter's example.
		{100, list(3, 3, 1), list(43, 43, 14)},
		// Of equal remainders the smaller index counts; a greater one comes before it.
		{10, list(1, 1, 1), list(4, 3, 3)}, {11, list(1, 1, 1), list(4, 4, 3)}, {12, list(1, 1, 1), list(4, 4, 4)}, {10, list(1, 2), list(3, 7)}, {10, list(2, 1), list(7, 3)}, {5, list(1, 2, 1), list(1, 3, 1)}, {1, list(1, 1), list(1, 0)}, {1, list(1, 2, 2), list(0, 1, 0)}, {2, list(1, 2, 2), list(0, 1, 1)}, {3, list(1, 2, 2), list(1, 1, 1)}, {1, list(1, 1, 1, 1, 1, 2), list(0, 0, 0, 0, 0, 1)}, {5, list(1, 1, 1, 1, 1, 1), list(1, 1, 1, 1, 1, 0)},
		// The remainder counts, not the share, nor the flats: of 7 pence 2 of 10 flats are 1.4, and 8 are 5.6; of 9 they are 1.8, and 7.2.
		{7, list(2, 8), list(1, 6)}, {9, list(8, 2), list(7, 2)}, {100, list(4, 2, 1), list(57, 29, 14)},
		// Who has no flats gets nothing; one alone gets all; no money.
		{7, list(0, 3), list(0, 7)}, {7, list(0, 3, 0, 3), list(0, 4, 0, 3)}, {0, list(5, 0), list(0, 0)}, {0, list(1), list(0)}, {20000000, list(1), list(20000000)}, {20000000, list(20000, 20000), list(10000000, 10000000)}, {20000000, list(20000, 20000, 20000), list(6666667, 6666667, 6666666)}, {19999999, list(20000, 1), list(19998999, 1000)},
	} {
		if l, e := market.Shares(x.money, x.flats); !slices.Equal(l, x.want) || e != api.OK {
			t.Errorf("Shares of %d, %v: %v, %v, not %v", x.money, x.flats, l, e, x.want)
		}
	}
}

// purse is money with the numbers of flats by which it is shared.
type purse struct {
	money int
	flats []int
}

func purses(many int, seed int64) []purse {
	r := rand.New(rand.NewSource(seed))
	var all []purse
	for len(all) < many {
		money, most := list(9, 200, api.MaxMarketMoney)[r.Intn(3)], list(3, 12, api.MaxMarketFlats)[r.Intn(3)]
		p := purse{money: r.Intn(money + 1)}
		for range 1 + r.Intn(api.MaxMarketShares) {
			p.flats = append(p.flats, r.Intn(most+1)*min(1, r.Intn(8)))
		}
		if slices.Max(p.flats) > 0 {
			all = append(all, p)
		}
	}
	return all
}

func TestP9_6_SharesAgreesWithTheDefinition(t *testing.T) {
	left := 0
	for _, p := range purses(3000, 17) {
		want := shared(p.money, p.flats)
		if l, e := market.Shares(p.money, p.flats); !slices.Equal(l, want) || e != api.OK {
			t.Fatalf("Shares of %d, %v: %v, %v, not %v", p.money, p.flats, l, e, want)
		}
		all, whole := 0, 0
		for _, n := range p.flats {
			all += n
		}
		for _, n := range p.flats {
			whole += p.money * n / all
		}
		if p.money-whole > 1 {
			left++
		}
	}
	if left < 500 {
		t.Errorf("only %d times several pence are left over", left)
	}
}
