package warm_test

import (
	"math"
	"math/rand"
	"slices"
	"testing"

	"watercress/api"
	"watercress/warm"
)

// answer is what a call returns, whatever it is called: numbers, and the error.
type answer struct {
	name    string
	numbers []int
	e       api.Errno
}

// answers calls everything that has an error, with these arguments.
func answers(s warm.Stream, n, hour int, tr warm.Truth) []answer {
	var all []answer
	add := func(name string, e api.Errno, numbers ...int) { all = append(all, answer{name, numbers, e}) }
	add("CheckStream", warm.CheckStream(s))
	rows, e := warm.Play(s, tr)
	add("Play", e, slices.Concat(rows...)...)
	hours, e := warm.Bounds(s)
	var ends []int
	for _, r := range slices.Concat(hours...) {
		ends = append(ends, r.Lo, r.Hi)
	}
	add("Bounds", e, ends...)
	l, e := warm.Springs(s)
	add("Springs", e, l...)
	v, e := warm.Frozen(s, n, hour)
	add("Frozen", e, numbersBut(v)...)
	v, e = warm.Keep(s, n)
	add("Keep", e, numbersBut(v)...)
	v, e = warm.First(s)
	add("First", e, numbersBut(v)...)
	l, e = warm.Leave(s)
	add("Leave", e, l...)
	return all
}

// numbersBut has the number unless it is 0, so that with an error nothing may be in the list.
func numbersBut(n int) []int {
	if n == 0 {
		return nil
	}
	return []int{n}
}

// checkErrors asks for the errors that are named; with each error there must be nothing else.
func checkErrors(t *testing.T, all []answer, want map[string]api.Errno) {
	t.Helper()
	for _, a := range all {
		if e, ok := want[a.name]; ok && a.e != e {
			t.Errorf("%s: %v, not %v", a.name, a.e, e)
		}
		if a.e != api.OK && len(a.numbers) > 0 {
			t.Errorf("%s: %v together with %v", a.name, a.numbers, a.e)
		}
	}
}

func everyCall(e api.Errno) map[string]api.Errno {
	want := map[string]api.Errno{}
	for _, a := range answers(warm.Stream{}, 0, 0, warm.Truth{}) {
		want[a.name] = e
	}
	return want
}

func TestErrorsOfTheStream(t *testing.T) {
	for _, x := range []struct {
		what   string
		change func(s *warm.Stream)
		want   api.Errno
	}{
		{"six depths", func(s *warm.Stream) { s.Depths = []int{1, 1, 1, 1, 1, 1} }, api.ErrLimit},
		{"five airs", func(s *warm.Stream) { s.Air = make([]warm.Range, 5) }, api.ErrLimit},
		{"seven readings", func(s *warm.Stream) { s.Readings = make([]warm.Reading, 7) }, api.ErrLimit},
		{"too many depths, and a Rate that is not valid", func(s *warm.Stream) { s.Depths = make([]int, 6); s.Rate = -1 }, api.ErrLimit},
		{"too many airs, and no depths", func(s *warm.Stream) { s.Air = make([]warm.Range, 5); s.Depths = nil }, api.ErrLimit},
		{"too many readings, and a spring that is no range", func(s *warm.Stream) { s.Readings = make([]warm.Reading, 7); s.Spring = to(1, 0) }, api.ErrLimit},
		{"a spring that is no range", func(s *warm.Stream) { s.Spring = to(101, 100) }, api.ErrArg},
		{"a spring that is too wide", func(s *warm.Stream) { s.Spring = to(100, 121) }, api.ErrArg},
		{"a spring that is too cold", func(s *warm.Stream) { s.Spring = to(-301, -290) }, api.ErrArg},
		{"a spring that is too warm", func(s *warm.Stream) { s.Spring = to(290, 301) }, api.ErrArg},
		{"a spring as wide as ints are", func(s *warm.Stream) { s.Spring = to(math.MinInt, math.MaxInt) }, api.ErrArg},
		{"a Rate below 0", func(s *warm.Stream) { s.Rate = -1 }, api.ErrArg},
		{"a Rate above 100", func(s *warm.Stream) { s.Rate = 101 }, api.ErrArg},
		{"no depths", func(s *warm.Stream) { s.Depths, s.Readings = nil, nil }, api.ErrArg},
		{"a list of no depths", func(s *warm.Stream) { s.Depths, s.Readings = []int{}, nil }, api.ErrArg},
		{"the depth 0", func(s *warm.Stream) { s.Depths[1] = 0 }, api.ErrArg},
		{"a depth below 0", func(s *warm.Stream) { s.Depths[1] = -1 }, api.ErrArg},
		{"the depth 7", func(s *warm.Stream) { s.Depths[1] = 7 }, api.ErrArg},
		{"no airs", func(s *warm.Stream) { s.Air, s.Readings = nil, nil }, api.ErrArg},
		{"a list of no airs", func(s *warm.Stream) { s.Air, s.Readings = []warm.Range{}, nil }, api.ErrArg},
		{"an air that is no range", func(s *warm.Stream) { s.Air[1] = to(1, 0) }, api.ErrArg},
		{"an air that is too wide", func(s *warm.Stream) { s.Air[1] = to(-1, 20) }, api.ErrArg},
		{"an air that is too cold", func(s *warm.Stream) { s.Air[1] = to(-301, -301) }, api.ErrArg},
		{"an air that is too warm", func(s *warm.Stream) { s.Air[1] = to(300, 301) }, api.ErrArg},
		{"a reading of no bed", func(s *warm.Stream) { s.Readings[1].Bed = 2 }, api.ErrArg},
		{"a reading of a bed below 0", func(s *warm.Stream) { s.Readings[1].Bed = -1 }, api.ErrArg},
		{"a reading of no hour", func(s *warm.Stream) { s.Readings[1].Hour = 2 }, api.ErrArg},
		{"a reading of an hour below 0", func(s *warm.Stream) { s.Readings[1].Hour = -1 }, api.ErrArg},
		{"a reading that is too cold", func(s *warm.Stream) { s.Readings[1].Seen = -301 }, api.ErrArg},
		{"a reading that is too warm", func(s *warm.Stream) { s.Readings[1].Seen = 301 }, api.ErrArg},
		{"an Error below 0", func(s *warm.Stream) { s.Readings[1].Error = -1 }, api.ErrArg},
		{"an Error above 20", func(s *warm.Stream) { s.Readings[1].Error = 21 }, api.ErrArg},
	} {
		s := ofChapter(first(), second())
		x.change(&s)
		t.Run(x.what, func(t *testing.T) {
			// The bed, the hour and the truth are wrong too, which does not count before the stream.
			checkErrors(t, answers(s, 9, 9, truth(9)), everyCall(x.want))
			checkErrors(t, answers(s, 0, 0, truth(100, -40, 3)), everyCall(x.want))
			if warm.ProveTruth(s, truth(100, -40, 3)) {
				t.Error("proved of a stream that is not valid")
			}
		})
	}
}

func TestLimitsThatAreReached(t *testing.T) {
	for _, x := range []struct {
		what   string
		change func(s *warm.Stream)
	}{
		{"five depths, the least and the greatest", func(s *warm.Stream) { s.Depths = []int{1, 6, 1, 6, 1} }},
		{"four airs", func(s *warm.Stream) { s.Air = make([]warm.Range, 4) }},
		{"six readings", func(s *warm.Stream) { s.Readings = slices.Repeat([]warm.Reading{first()}, 6) }},
		{"the coldest spring", func(s *warm.Stream) { s.Spring = to(-300, -280) }},
		{"the warmest spring", func(s *warm.Stream) { s.Spring = to(280, 300) }},
		{"the coldest air", func(s *warm.Stream) { s.Air[0] = to(-300, -280) }},
		{"the warmest air", func(s *warm.Stream) { s.Air[0] = to(280, 300) }},
		{"the least Rate", func(s *warm.Stream) { s.Rate = 0 }},
		{"the greatest Rate", func(s *warm.Stream) { s.Rate = 100 }},
		{"the coldest reading, with the least Error", func(s *warm.Stream) { s.Readings = []warm.Reading{reading(1, 1, -300, 0)} }},
		{"the warmest reading, with the greatest Error", func(s *warm.Stream) { s.Readings = []warm.Reading{reading(0, 0, 300, 20)} }},
		{"one bed in one hour", func(s *warm.Stream) { *s = one(1, to(0, 0), to(0, 0)) }},
	} {
		s := ofChapter()
		x.change(&s)
		if e := warm.CheckStream(s); e != api.OK {
			t.Errorf("CheckStream with %s: %v", x.what, e)
		}
		if _, e := warm.Leave(s); e != api.OK {
			t.Errorf("Leave with %s: %v", x.what, e)
		}
	}
}

func TestErrRangeOfPlay(t *testing.T) {
	for _, tr := range []warm.Truth{
		{}, truth(100), truth(100, -40), truth(100, -40, 3, 3), truth(99, -40, 3), truth(105, -40, 3), truth(100, -41, 3), truth(100, -39, 3), truth(100, -40, -1), truth(100, -40, 11),
		truth(math.MinInt, -40, 3), truth(100, math.MaxInt, 3),
	} {
		for _, s := range []warm.Stream{ofChapter(), ofChapter(first(), second(), third())} {
			if l, e := warm.Play(s, tr); len(l) > 0 || e != api.ErrRange {
				t.Errorf("Play of %v: %v, %v", tr, l, e)
			}
			if warm.ProveTruth(s, tr) {
				t.Errorf("%v is proved", tr)
			}
		}
	}
}

func TestErrRangeComesBeforeErrFailAndErrShort(t *testing.T) {
	icy := atRate(100)
	icy.Readings = []warm.Reading{third(), reading(0, 1, 50, 0)}
	for _, s := range []warm.Stream{ofChapter(), ofChapter(first(), second(), third()), icy} {
		for _, n := range []int{-1, 2, math.MinInt, math.MaxInt} {
			checkErrors(t, answers(s, n, 0, truth(100, -40, 3)), map[string]api.Errno{"Frozen": api.ErrRange, "Keep": api.ErrRange, "Play": api.OK, "Leave": api.OK})
			if v, e := warm.Frozen(s, 0, n); v != 0 || e != api.ErrRange {
				t.Errorf("Frozen of the hour %d: %d, %v", n, v, e)
			}
		}
	}
}

func TestBedsAndHoursAreNotMixed(t *testing.T) {
	s := warm.Stream{Spring: to(5, 5), Depths: []int{1}, Air: []warm.Range{to(0, 0), to(0, 0), to(0, 0)}}
	g := warm.Stream{Spring: to(5, 5), Depths: []int{1, 1, 1}, Air: []warm.Range{to(0, 0)}}
	for _, x := range []struct {
		s       warm.Stream
		n, hour int
		want    api.Errno
	}{{s, 0, 2, api.OK}, {s, 2, 0, api.ErrRange}, {g, 2, 0, api.OK}, {g, 0, 2, api.ErrRange}} {
		if _, e := warm.Frozen(x.s, x.n, x.hour); e != x.want {
			t.Errorf("Frozen of %v, %d, %d: %v, not %v", x.s, x.n, x.hour, e, x.want)
		}
		x.s.Readings = []warm.Reading{reading(x.n, x.hour, 5, 0)}
		if ok := warm.CheckStream(x.s) == api.OK; ok != (x.want == api.OK) {
			t.Errorf("CheckStream of %v: %v", x.s, ok)
		}
	}
}

func TestErrFailShortAndNone(t *testing.T) {
	for _, x := range []struct {
		s    warm.Stream
		n    int
		want map[string]api.Errno
	}{
		{ofChapter(first(), second(), third()), 0, map[string]api.Errno{"CheckStream": api.OK, "Play": api.OK, "Bounds": api.ErrFail, "Springs": api.ErrFail, "Frozen": api.ErrFail, "Keep": api.OK, "First": api.OK, "Leave": api.OK}},
		{ofChapter(first(), second()), 0, map[string]api.Errno{"Bounds": api.OK, "Springs": api.OK, "Frozen": api.OK, "Keep": api.OK, "First": api.ErrNone, "Leave": api.OK}},
		{atRate(100), 1, map[string]api.Errno{"Bounds": api.OK, "Springs": api.OK, "Frozen": api.OK, "Keep": api.ErrShort, "First": api.ErrNone, "Leave": api.OK}},
	} {
		checkErrors(t, answers(x.s, x.n, 0, truth(100, -40, 3)), x.want)
	}
}

// wildNumber is near a limit, or far from all of them.
func wildNumber(r *rand.Rand) int {
	l := []int{math.MinInt, -301, -300, -21, -2, -1, 0, 1, 2, 3, 4, 5, 6, 7, 20, 21, 100, 101, 300, 301, math.MaxInt}
	return l[r.Intn(len(l))]
}

func wildRange(r *rand.Rand) warm.Range {
	if r.Intn(2) == 0 {
		return to(wildNumber(r), wildNumber(r))
	}
	low := r.Intn(8)*100 - 400
	return to(low, low+r.Intn(24)-1)
}

func wildStream(r *rand.Rand) warm.Stream {
	s := bareStream(r)
	for range r.Intn(3) {
		switch r.Intn(9) {
		case 0:
			s.Spring = wildRange(r)
		case 1:
			s.Rate = wildNumber(r)
		case 2:
			s.Depths = append(s.Depths, wildNumber(r))
		case 3:
			s.Depths = slices.Repeat(s.Depths, r.Intn(3))
		case 4:
			s.Air = append(s.Air, wildRange(r))
		case 5:
			s.Air = slices.Repeat(s.Air, r.Intn(3))
		case 6:
			s.Readings = append(s.Readings, reading(wildNumber(r), wildNumber(r), wildNumber(r), wildNumber(r)))
		case 7:
			s.Readings = append(s.Readings, reading(0, 0, wildNumber(r), wildNumber(r)))
		case 8:
			s.Readings = slices.Repeat([]warm.Reading{reading(r.Intn(3), r.Intn(3), r.Intn(40), 20)}, 5+r.Intn(3))
		}
	}
	return s
}

func rangeOfWarmths(r warm.Range) bool {
	return r.Lo >= -300 && r.Hi <= 300 && r.Lo <= r.Hi && r.Hi <= r.Lo+20
}

// checked says what CheckStream has to return, in the words of the chapter.
func checked(s warm.Stream) api.Errno {
	if len(s.Depths) > 5 || len(s.Air) > 4 || len(s.Readings) > 6 {
		return api.ErrLimit
	}
	ok := len(s.Depths) >= 1 && len(s.Air) >= 1 && rangeOfWarmths(s.Spring) && s.Rate >= 0 && s.Rate <= 100
	for _, depth := range s.Depths {
		ok = ok && depth >= 1 && depth <= 6
	}
	for _, air := range s.Air {
		ok = ok && rangeOfWarmths(air)
	}
	for _, x := range s.Readings {
		ok = ok && x.Bed >= 0 && x.Bed < len(s.Depths) && x.Hour >= 0 && x.Hour < len(s.Air) && x.Seen >= -300 && x.Seen <= 300 && x.Error >= 0 && x.Error <= 20
	}
	if !ok {
		return api.ErrArg
	}
	return api.OK
}

func TestP1_AnyArguments(t *testing.T) {
	r := rand.New(rand.NewSource(1))
	seen := map[api.Errno]int{}
	for range 4000 {
		s := wildStream(r)
		n, hour := wildNumber(r), wildNumber(r)
		tr := truth(wildNumber(r))
		for range r.Intn(6) {
			tr.Air = append(tr.Air, wildNumber(r))
		}
		all := answers(s, n, hour, tr)
		want := checked(s)
		seen[want]++
		if e := warm.CheckStream(s); e != want {
			t.Fatalf("CheckStream of %v: %v, not %v", s, e, want)
		}
		proved := warm.ProveTruth(s, tr)
		if want != api.OK {
			checkErrors(t, all, everyCall(want))
			if proved {
				t.Fatalf("%v, %v is proved", s, tr)
			}
		}
		checkErrors(t, all, nil)
		if t.Failed() {
			t.Fatalf("with %v, %d, %d, %v", s, n, hour, tr)
		}
	}
	if seen[api.OK] < 100 || seen[api.ErrArg] < 100 || seen[api.ErrLimit] < 100 {
		t.Errorf("not enough of each kind: %v", seen)
	}
}

func TestP1_TheLargestStream(t *testing.T) {
	s := warm.Stream{Spring: to(-10, 10), Rate: 100, Depths: []int{6, 6, 6, 6, 6}, Air: slices.Repeat([]warm.Range{to(-300, -280), to(-10, 10)}, 2)}
	for i := range 6 {
		s.Readings = append(s.Readings, reading(i%5, i%4, -300, 0))
	}
	if l, e := warm.Leave(s); !slices.Equal(l, []int{0, 1, 2, 3, 4, 5}) || e != api.OK {
		t.Errorf("Leave: %v, %v", l, e)
	}
	s.Readings = nil
	b, e := warm.Bounds(s)
	if e != api.OK || len(b) != 4 || len(b[3]) != 5 || b[1][0] != to(-10, 10) {
		t.Errorf("Bounds: %v, %v", b, e)
	}
	if n, e := warm.Keep(s, 4); n != 0 || e != api.ErrShort {
		t.Errorf("Keep: %d, %v", n, e)
	}
}

func TestR3_EmptyIsNil(t *testing.T) {
	s := one(2, to(5, 6), to(-3, 3))
	g := copied(s)
	g.Readings = []warm.Reading{}
	a, b := answers(s, 0, 0, truth(5, 1)), answers(g, 0, 0, truth(5, 1))
	for i := range a {
		if a[i].e != b[i].e || !slices.Equal(a[i].numbers, b[i].numbers) {
			t.Errorf("%s: %v, and %v of lists without elements", a[i].name, a[i], b[i])
		}
	}
	if !warm.ProveTruth(s, truth(5, 1)) || !warm.ProveTruth(g, truth(5, 1)) {
		t.Error("a stream without readings has each truth")
	}
}

func TestR4_ArgumentsAreNotWrittenTo(t *testing.T) {
	for _, s := range streams(80, 4) {
		was := copied(s)
		tr := choices(s)[0]
		kept := slices.Clone(tr.Air)
		before := answers(s, 0, 0, tr)
		warm.ProveTruth(s, tr)
		if !same(s, was) || !slices.Equal(tr.Air, kept) {
			t.Fatalf("%v became %v", was, s)
		}
		for i, a := range answers(s, 0, 0, tr) {
			if a.e != before[i].e || !slices.Equal(a.numbers, before[i].numbers) {
				t.Fatalf("%s of %v: %v, and then %v", a.name, s, before[i], a)
			}
		}
	}
}

func TestR4_ResultsAreInMemoryOfTheirOwn(t *testing.T) {
	// The rows of equal airs are equal, and still not the same memory.
	s := warm.Stream{Spring: to(10, 12), Rate: 50, Depths: []int{1, 2}, Air: []warm.Range{to(0, 2), to(0, 2), to(0, 2)}}
	rows, _ := warm.Play(s, truth(10, 1, 1, 1))
	rows[0][0] = 99
	for i := range rows {
		if _ = append(rows[i], 98); i > 0 && rows[i][0] == 99 {
			t.Errorf("Play: rows share memory: %v", rows)
		}
	}
	if again, _ := warm.Play(s, truth(10, 1, 1, 1)); again[0][0] == 99 || rows[1][0] != again[1][0] {
		t.Errorf("Play, after its result was written to: %v", again)
	}
	bounds, _ := warm.Bounds(s)
	bounds[0][0] = to(99, 99)
	if again, _ := warm.Bounds(s); again[0][0] == bounds[0][0] || bounds[1][0] != again[1][0] {
		t.Errorf("Bounds, after its result was written to: %v", again)
	}
	l, _ := warm.Springs(s)
	l[0] = 99
	if again, _ := warm.Springs(s); again[0] != 10 {
		t.Errorf("Springs, after its result was written to: %v", again)
	}
}

func TestExampleOfTheReadme(t *testing.T) {
	stream := warm.Stream{
		Spring:   warm.Range{Lo: 100, Hi: 104},
		Rate:     100,
		Depths:   []int{1, 2},
		Air:      []warm.Range{{Lo: -40, Hi: -30}},
		Readings: []warm.Reading{{Bed: 1, Hour: 0, Seen: -33, Error: 1}},
	}
	if b, e := warm.Bounds(stream); !sameRows(b, [][]warm.Range{{to(-34, -32), to(-34, -32)}}) || e != api.OK {
		t.Errorf("Bounds: %v, %v", b, e)
	}
	if v, e := warm.Frozen(stream, 0, 0); v != warm.Always || e != api.OK {
		t.Errorf("Frozen: %d, %v", v, e)
	}
	if n, e := warm.Keep(stream, 0); n != 2 || e != api.OK {
		t.Errorf("Keep: %d, %v", n, e)
	}
}
