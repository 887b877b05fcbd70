package market_test

import (
	"math/rand"
	"slices"
	"testing"

	"watercress/api"
	"watercress/bunch"
	"watercress/market"
)

// The properties are asked of what the calls return, not of the oracle's answers.

func leave(t *testing.T, m market.Market) []int {
	t.Helper()
	l, e := market.Leave(m)
	if e != api.OK {
		t.Fatalf("Leave of %v: %v", m, e)
	}
	return l
}

func grades(t *testing.T, m market.Market, n int) []int {
	t.Helper()
	l, e := market.Grades(m, n)
	if e != api.OK {
		t.Fatalf("Grades of %v, %d: %v", m, n, e)
	}
	return l
}

func dueOn(t *testing.T, m market.Market, n int) market.Range {
	t.Helper()
	r, e := market.Due(m, n)
	if e != api.OK || r.Lo > r.Hi {
		t.Fatalf("Due of %v, %d: %v, %v", m, n, r, e)
	}
	return r
}

func paid(t *testing.T, m market.Market, flats, grade int) int {
	t.Helper()
	n, e := market.Net(m, flats, grade)
	if e != api.OK || n < 0 {
		t.Fatalf("Net of %v, %d, %d: %d, %v", m, flats, grade, n, e)
	}
	return n
}

func loadedOn(t *testing.T, m market.Market, day int) market.Range {
	t.Helper()
	r, e := market.Loaded(m, day)
	if e != api.OK || r.Lo < 0 || r.Lo > r.Hi {
		t.Fatalf("Loaded of %v, %d: %v, %v", m, day, r, e)
	}
	return r
}

func missingOn(t *testing.T, m market.Market, day int) market.Range {
	t.Helper()
	r, e := market.Missing(m, day)
	if e != api.OK || r.Lo < 0 || r.Lo > r.Hi {
		t.Fatalf("Missing of %v, %d: %v, %v", m, day, r, e)
	}
	return r
}

// anyTruth is one of the day.
func anyTruth(r *rand.Rand, d bunch.Day) bunch.Truth {
	number := func(x bunch.Range) int { return x.Lo + r.Intn(x.Hi-x.Lo+1) }
	for {
		var tr bunch.Truth
		for _, x := range d.Women {
			tr.Feels = append(tr.Feels, number(x))
		}
		for _, x := range d.Lots {
			tr.Stems = append(tr.Stems, number(x.Stems))
		}
		if bunch.ProveTruth(d, tr) {
			return tr
		}
	}
}

func TestP9_7_TrueAccounts(t *testing.T) {
	r := rand.New(rand.NewSource(21))
	many := 0
	for range 800 {
		m := bareMarket(r)
		for day, d := range m.Days {
			y, e := bunch.Play(d, anyTruth(r, d))
			if e != api.OK {
				t.Fatalf("Play of %v: %v", d, e)
			}
			left := y.Flats
			for range r.Intn(3 - day) {
				some := r.Intn(left + 1)
				grade := r.Intn(len(m.Prices))
				m.Accounts = append(m.Accounts, account(day, some, r.Intn(grade+1), grade, paid(t, m, some, grade)))
				left -= some
			}
			grade := r.Intn(len(m.Prices))
			m.Accounts = append(m.Accounts, account(day, left, grade, grade+r.Intn(len(m.Prices)-grade), paid(t, m, left, grade)))
		}
		r.Shuffle(len(m.Accounts), func(i, j int) { m.Accounts[i], m.Accounts[j] = m.Accounts[j], m.Accounts[i] })
		if l := leave(t, m); len(l) > 0 {
			t.Fatalf("Leave of %v, whose accounts are true: %v", m, l)
		}
		if n, e := market.First(m); e != api.ErrNone || !market.ProveOut(m, nil) {
			t.Fatalf("First of %v, whose accounts are true: %d, %v", m, n, e)
		}
		for n, v := range verdicts(t, m) {
			if v != never {
				t.Fatalf("Blame of %v, %d, whose accounts are true: %d", m, n, v)
			}
		}
		if len(m.Accounts) > 3 {
			many++
		}
	}
	if many < 80 {
		t.Errorf("only %d markets have many accounts", many)
	}
}

// isPart reports whether the list has only elements of the other one.
func isPart(l, of []int) bool {
	return !slices.ContainsFunc(l, func(n int) bool { return !slices.Contains(of, n) })
}

func TestP9_8_MoreLeftOut(t *testing.T) {
	proved, refused := 0, 0
	for _, m := range markets(300, 22) {
		all := allLists(len(m.Accounts))
		for _, out := range all {
			if !market.ProveOut(m, out) {
				refused++
				continue
			}
			for _, more := range all {
				if isPart(out, more) && !market.ProveOut(m, more) {
					t.Fatalf("ProveOut of %v, %v, but not of %v", m, out, more)
				}
			}
			proved++
		}
		if !market.ProveOut(m, from(0, len(m.Accounts))) {
			t.Fatalf("ProveOut of %v, of all accounts", m)
		}
	}
	if proved < 500 || refused < 500 {
		t.Errorf("not enough of each kind: %d, %d", proved, refused)
	}
}

func TestP9_9_Money(t *testing.T) {
	r := rand.New(rand.NewSource(23))
	less, together := 0, 0
	for _, m := range markets(300, 23) {
		for range 10 {
			grade, most := r.Intn(len(m.Prices)), list(9, 100, 10000)[r.Intn(3)]
			a, b := r.Intn(most+1), r.Intn(most+1)
			one, other, both := paid(t, m, a, grade), paid(t, m, b, grade), paid(t, m, a+b, grade)
			if both < one || both < other {
				t.Fatalf("Net of %v, %d: %d of %d, %d of %d, but %d of both", m, grade, one, a, other, b, both)
			}
			switch one + other - both {
			case 0:
				together++
			case 1:
				less++
			default:
				t.Fatalf("Net of %v, %d: %d of %d, %d of %d, but %d of both", m, grade, one, a, other, b, both)
			}
			for worse := grade + 1; worse < len(m.Prices); worse++ {
				if n := paid(t, m, a, worse); n > one {
					t.Fatalf("Net of %v, %d: %d of the grade %d, %d of the grade %d", m, a, one, grade, n, worse)
				}
			}
		}
	}
	if less < 200 || together < 500 {
		t.Errorf("not enough of each kind: %d, %d", less, together)
	}
}

func TestP9_10_OneMoreAccount(t *testing.T) {
	r := rand.New(rand.NewSource(24))
	seen := map[int]int{}
	for _, m := range markets(2500, 24) {
		if len(m.Accounts) == api.MaxMarketAccounts {
			continue
		}
		what := anyAccount(r, m)
		if r.Intn(2) == 0 {
			// It may make up for flats that nobody had.
			day := r.Intn(len(m.Days))
			flats, _, _ := soldOf(m, day, nil)
			what = graded(r, m, day, max(0, loadedOn(t, m, day).Hi-flats))
		}
		more := withAccounts(m, slices.Insert(slices.Clone(m.Accounts), r.Intn(len(m.Accounts)+1), what)...)
		was, is := leave(t, m), leave(t, more)
		if len(is) > len(was)+1 {
			t.Fatalf("Leave of %v: %v; of %v: %v", m, was, more, is)
		}
		seen[min(1, max(-1, len(is)-len(was)))]++
	}
	if seen[-1] < 60 || seen[0] < 200 || seen[1] < 200 {
		t.Errorf("not enough of each kind: %v", seen)
	}
}

// narrower are all ranges within the range.
func narrower(r market.Range) []market.Range {
	var all []market.Range
	for low := r.Lo; low <= r.Hi; low++ {
		for high := low; high <= r.Hi; high++ {
			all = append(all, to(low, high))
		}
	}
	return all
}

func TestP9_11_Wider(t *testing.T) {
	fewer, wider := 0, 0
	for _, m := range markets(500, 25) {
		out := leave(t, m)
		for n, a := range m.Accounts {
			r := dueOn(t, m, n)
			for _, grade := range narrower(a.Grade) {
				narrow := copied(m)
				narrow.Accounts[n].Grade = grade
				was := dueOn(t, narrow, n)
				if r.Lo > was.Lo || r.Hi < was.Hi {
					t.Fatalf("Due of %v, %d: %v; with the Grade %v: %v", m, n, r, grade, was)
				}
				if was != r {
					wider++
				}
				more := leave(t, narrow)
				if len(out) > len(more) {
					t.Fatalf("Leave of %v: %v; with the Grade %v of %d: %v", m, out, grade, n, more)
				}
				if len(out) < len(more) {
					fewer++
				}
			}
		}
	}
	if fewer < 200 || wider < 500 {
		t.Errorf("not enough of each kind: %d, %d", fewer, wider)
	}
}

func TestP9_12_LeftOut(t *testing.T) {
	several := 0
	for _, m := range markets(1000, 26) {
		out := leave(t, m)
		if !market.ProveOut(m, out) {
			t.Fatalf("Leave of %v: %v, but these cannot be left out", m, out)
		}
		// Those that stay have grades that fit, and are of flats that may have been loaded.
		for n := range m.Accounts {
			if !slices.Contains(out, n) && len(grades(t, m, n)) == 0 {
				t.Fatalf("Leave of %v: %v, but no grade fits the account %d", m, out, n)
			}
		}
		for day := range m.Days {
			flats, left, kept := soldOf(m, day, out)
			if r := loadedOn(t, m, day); flats > r.Hi || left == 0 && kept > 0 && flats < r.Lo {
				t.Fatalf("Leave of %v: %v, but %d flats of the day %d stay", m, out, flats, day)
			}
		}
		// The lists that are shorter, or as long and lexicographically before it, come first.
		for _, l := range allLists(len(m.Accounts)) {
			if slices.Equal(l, out) {
				break
			}
			if market.ProveOut(m, l) {
				t.Fatalf("Leave of %v: %v, but %v can be left out", m, out, l)
			}
		}
		if len(out) > 1 {
			several++
		}
	}
	if several < 60 {
		t.Errorf("in only %d markets several accounts have to be left out", several)
	}
}

func TestP9_13_ToBlame(t *testing.T) {
	unfit, nobody := 0, 0
	seen := map[int]int{}
	for _, m := range markets(1000, 27) {
		out := leave(t, m)
		if len(out) == 0 {
			nobody++
		}
		for n, v := range verdicts(t, m) {
			seen[v]++
			is := slices.Contains(out, n)
			if len(out) == 0 && v != never || v == always && !is || v == never && is {
				t.Fatalf("Blame of %v, %d: %d, but the smallest set is %v", m, n, v, out)
			}
			if len(grades(t, m, n)) > 0 {
				continue
			}
			unfit++
			if v != always {
				t.Fatalf("Blame of %v, %d: %d, but no grade fits it", m, n, v)
			}
		}
	}
	if unfit < 150 || nobody < 200 || seen[always] < 200 || seen[never] < 200 || seen[perhaps] < 200 {
		t.Errorf("not enough of each kind: %d, %d, %v", unfit, nobody, seen)
	}
}

func TestP9_14_First(t *testing.T) {
	wrong, late := 0, 0
	for _, m := range markets(1000, 28) {
		many := len(m.Accounts)
		n, e := market.First(m)
		if e == api.ErrNone {
			if n != 0 || !market.ProveOut(m, nil) || len(leave(t, m)) > 0 {
				t.Fatalf("First of %v: %d, %v, but it has to leave out some", m, n, e)
			}
			continue
		}
		if e != api.OK || n < 0 || n >= many {
			t.Fatalf("First of %v: %d, %v", m, n, e)
		}
		if !market.ProveOut(m, from(n, many)) {
			t.Fatalf("First of %v: %d, but those before it cannot be true together", m, n)
		}
		if market.ProveOut(m, from(n+1, many)) {
			t.Fatalf("First of %v: %d, but it can be true together with those before it", m, n)
		}
		wrong++
		if n > 1 {
			late++
		}
	}
	if wrong < 200 || late < 60 {
		t.Errorf("only %d markets have a wrong account, %d a late one", wrong, late)
	}
}

func TestP9_15_Shares(t *testing.T) {
	equal, more := 0, 0
	for _, p := range purses(3000, 29) {
		shares, e := market.Shares(p.money, p.flats)
		if e != api.OK || len(shares) != len(p.flats) {
			t.Fatalf("Shares of %d, %v: %v, %v", p.money, p.flats, shares, e)
		}
		all, money := 0, 0
		for n := range p.flats {
			all += p.flats[n]
			money += shares[n]
		}
		if money != p.money {
			t.Fatalf("Shares of %d, %v: %v, which are %d together", p.money, p.flats, shares, money)
		}
		for n, flats := range p.flats {
			// Less than a penny from its part: both are multiplied by all flats.
			if d := shares[n]*all - p.money*flats; d <= -all || d >= all {
				t.Fatalf("Shares of %d, %v: %v, but the part of %d is another one", p.money, p.flats, shares, n)
			}
			for later := n + 1; later < len(p.flats); later++ {
				if p.flats[later] != flats {
					continue
				}
				switch shares[n] - shares[later] {
				case 0:
					equal++
				case 1:
					more++
				default:
					t.Fatalf("Shares of %d, %v: %v, but %d and %d have as many flats", p.money, p.flats, shares, n, later)
				}
			}
		}
	}
	if equal < 500 || more < 200 {
		t.Errorf("not enough of each kind: %d, %d", equal, more)
	}
}

// moved is the market with its accounts in another order: the account n of it is that of the number at n.
func moved(r *rand.Rand, m market.Market) (market.Market, []int) {
	numbers := r.Perm(len(m.Accounts))
	var l []market.Account
	for _, n := range numbers {
		l = append(l, m.Accounts[n])
	}
	return withAccounts(m, l...), numbers
}

func TestP9_16_Order(t *testing.T) {
	r := rand.New(rand.NewSource(30))
	out, others := 0, 0
	for _, m := range markets(800, 30) {
		other, numbers := moved(r, m)
		was, is := leave(t, m), leave(t, other)
		if len(was) != len(is) {
			t.Fatalf("Leave of %v: %v; of %v: %v", m, was, other, is)
		}
		if len(was) > 0 {
			out++
		}
		before, after := verdicts(t, m), verdicts(t, other)
		for at, n := range numbers {
			if before[n] != after[at] {
				t.Fatalf("Blame of %v: %v; of %v: %v", m, before, other, after)
			}
			if n != at {
				others++
			}
		}
	}
	if out < 200 || others < 500 {
		t.Errorf("only %d markets have accounts to leave out, %d accounts are elsewhere", out, others)
	}
}

func TestP9_17_Missing(t *testing.T) {
	cut, some, none := 0, 0, 0
	for _, m := range markets(1000, 31) {
		out := leave(t, m)
		for day := range m.Days {
			r, all := missingOn(t, m, day), loadedOn(t, m, day)
			flats, _, _ := soldOf(m, day, out)
			for n := r.Lo; n <= r.Hi; n++ {
				if !has(all, n+flats) {
					t.Fatalf("Missing of %v, %d: %v, but %d with %d are not loaded", m, day, r, n, flats)
				}
			}
			// No others are: each number of loaded flats misses some, unless more are sold.
			if r.Hi != all.Hi-flats || r.Lo != 0 && r.Lo != all.Lo-flats || r.Lo == 0 && flats < all.Lo {
				t.Fatalf("Missing of %v, %d: %v, of %v less %d", m, day, r, all, flats)
			}
			switch {
			case flats > all.Lo:
				cut++
			case r.Lo > 0:
				some++
			default:
				none++
			}
		}
	}
	if cut < 100 || some < 200 || none < 200 {
		t.Errorf("not enough of each kind: %d, %d, %d", cut, some, none)
	}
}

func TestP7_AnyOrder(t *testing.T) {
	r := rand.New(rand.NewSource(32))
	changed := 0
	for _, m := range markets(500, 32) {
		other, numbers := moved(r, copied(m))
		for _, d := range other.Days {
			r.Shuffle(len(d.Lots), func(i, j int) { d.Lots[i], d.Lots[j] = d.Lots[j], d.Lots[i] })
			r.Shuffle(len(d.Counts), func(i, j int) { d.Counts[i], d.Counts[j] = d.Counts[j], d.Counts[i] })
		}
		if !same(m, other) {
			changed++
		}
		for at, n := range numbers {
			if a, b := dueOn(t, m, n), dueOn(t, other, at); a != b {
				t.Fatalf("Due of %v, %d: %v; in another order: %v", m, n, a, b)
			}
			if a, b := grades(t, m, n), grades(t, other, at); !slices.Equal(a, b) {
				t.Fatalf("Grades of %v, %d: %v; in another order: %v", m, n, a, b)
			}
		}
		for day := range m.Days {
			if a, b := loadedOn(t, m, day), loadedOn(t, other, day); a != b {
				t.Fatalf("Loaded of %v, %d: %v; in another order: %v", m, day, a, b)
			}
			// In another order other accounts may be the smallest set; in this case other flats are missing.
			if a, b := missingOn(t, m, day), missingOn(t, other, day); a != b && len(leave(t, m)) == 0 {
				t.Fatalf("Missing of %v, %d: %v; in another order: %v", m, day, a, b)
			}
		}
		_, e := market.First(m)
		if _, f := market.First(other); e != f {
			t.Fatalf("First of %v: %v; in another order: %v", m, e, f)
		}
		for _, out := range allLists(len(m.Accounts)) {
			var elsewhere []int
			for at, n := range numbers {
				if slices.Contains(out, n) {
					elsewhere = append(elsewhere, at)
				}
			}
			if market.ProveOut(m, out) != market.ProveOut(other, elsewhere) {
				t.Fatalf("ProveOut of %v, %v; in another order", m, out)
			}
		}
	}
	if changed < 300 {
		t.Errorf("only %d markets are in another order", changed)
	}
}
