package market

import (
	"watercress/api"
	"watercress/lists"
)

// within reports whether the range is one, from low to high.
func (r Range) within(low, high int) bool {
	return low <= r.Lo && r.Lo <= r.Hi && r.Hi <= high
}

func (r Range) has(n int) bool { return r.Lo <= n && n <= r.Hi }

func isFlats(n int) bool { return 0 <= n && n <= api.MaxMarketFlats }

func isMoney(n int) bool { return 0 <= n && n <= api.MaxMarketMoney }

func (m Market) hasGrade(n int) bool { return 0 <= n && n < len(m.Prices) }

func (m Market) hasDay(n int) bool { return 0 <= n && n < len(m.Days) }

func (m Market) hasAccount(n int) bool { return 0 <= n && n < len(m.Accounts) }

func (m Market) tooLong() bool {
	return len(m.Prices) > api.MaxMarketGrades || len(m.Days) > api.MaxMarketDays || len(m.Accounts) > api.MaxMarketAccounts
}

// valid asks about all of the market but what is too long, and what the days are.
func (m Market) valid() bool {
	return len(m.Prices) > 0 && len(m.Days) > 0 && 0 <= m.Commission && m.Commission <= api.MaxMarketHundred &&
		lists.Each(m.Prices, m.isPrice) && lists.Each(m.Accounts, m.isAccount)
}

func (m Market) isPrice(grade, price int) bool {
	return 0 <= price && price <= api.MaxMarketPrice && (grade == 0 || price <= m.Prices[grade-1])
}

func (m Market) isAccount(_ int, a Account) bool {
	return m.hasDay(a.Day) && isFlats(a.Flats) && a.Grade.within(0, len(m.Prices)-1) && isMoney(a.Money)
}
