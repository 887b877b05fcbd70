package plan_test

import (
	"math"
	"math/rand"
	"slices"
	"testing"

	"watercress/api"
	"watercress/grow"
	"watercress/plan"
)

// asked is what calls are asked beside the game.
type asked struct {
	weather, drawn []int
	plan, cuts     [][]int
}

// answer is what a call returns, whatever it is called: numbers, and the error.
type answer struct {
	name    string
	numbers []int
	e       api.Errno
}

// answers calls everything that has an error, with these arguments.
func answers(g plan.Game, x asked) []answer {
	var all []answer
	add := func(name string, e api.Errno, numbers ...int) { all = append(all, answer{name, numbers, e}) }
	add("CheckGame", plan.CheckGame(g))
	l, e := plan.Weathers(g)
	add("Weathers", e, flat(l)...)
	n, e := plan.Play(g, x.weather, x.plan)
	add("Play", e, unlessZero(n)...)
	n, e = plan.Best(g)
	add("Best", e, unlessZero(n)...)
	beds, n, e := plan.Move(g, x.drawn, x.cuts)
	add("Move", e, append(unlessZero(n), beds...)...)
	p, n, e := plan.Fixed(g)
	add("Fixed", e, append(unlessZero(n), flat(p)...)...)
	r, e := plan.Answer(g, x.plan)
	add("Answer", e, append(append(unlessZero(r.Yield), r.Weather...), oneIf(r.Holds)...)...)
	return all
}

// flat has each row, with its length, so that there is something of a row without elements too.
func flat(rows [][]int) []int {
	var all []int
	for _, row := range rows {
		all = append(append(all, len(row)), row...)
	}
	return all
}

// unlessZero has the number of a result that is not zero.
func unlessZero(n int) []int {
	if n == 0 {
		return nil
	}
	return list(n)
}

func oneIf(is bool) []int {
	if is {
		return list(1)
	}
	return nil
}

// checkErrors asks for the errors that are named; with each error there must be nothing else.
func checkErrors(t *testing.T, all []answer, want map[string]api.Errno) {
	t.Helper()
	for _, a := range all {
		if e, ok := want[a.name]; ok && a.e != e {
			t.Errorf("%s: %v, not %v", a.name, a.e, e)
		}
		if a.e != api.OK && len(a.numbers) > 0 {
			t.Errorf("%s: %v together with %v", a.name, a.numbers, a.e)
		}
	}
}

func everyCall(e api.Errno) map[string]api.Errno {
	want := map[string]api.Errno{}
	for _, a := range answers(plan.Game{}, asked{}) {
		want[a.name] = e
	}
	return want
}

// fine is of the chapter's game; all of it is in range, and holds.
func fine() asked {
	return asked{weather: cold(), drawn: list(3, 3, 2, 3, 4), plan: cuts(list(3, 5)), cuts: cuts(list(3))}
}

// nowhere has nothing that is in range.
func nowhere() asked {
	return asked{weather: list(99), drawn: list(-1), plan: cuts(list(9, 9), nil, nil), cuts: cuts(list(-9))}
}

func TestErrorsOfTheGame(t *testing.T) {
	look := grow.Look{Height: to(0, 99)}
	longer := func(g *plan.Game) {
		g.Season.Last = 6
		g.Season.Light, g.Season.Warm = append(g.Season.Light, 1), append(g.Season.Warm, to(1, 1))
	}
	for _, x := range []struct {
		what   string
		change func(g *plan.Game)
		want   api.Errno
	}{
		// The error of layer 3 comes first.
		{"eleven weeks", func(g *plan.Game) { g.Season.Last = 10 }, api.ErrLimit},
		{"four beds", func(g *plan.Game) { g.Season.Beds = make([]grow.Bed, 4) }, api.ErrLimit},
		{"six looks", func(g *plan.Game) { g.Season.Looks = make([]grow.Look, 6) }, api.ErrLimit},
		{"four beds, and a Bad below 0", func(g *plan.Game) { g.Season.Beds, g.Bad = make([]grow.Bed, 4), -1 }, api.ErrLimit},
		{"too many truths, and a Bad below 0", func(g *plan.Game) {
			g.Season.Warm, g.Bad = ranges(0, 9, 0, 9, 0, 9, 0, 9, 4, 4, 4, 4), -1
		}, api.ErrLimit},
		{"too many truths, though none of their weeks may be bad", func(g *plan.Game) {
			g.Season.Warm, g.Bad = ranges(0, 9, 0, 9, 0, 9, 0, 1, 0, 1, 4, 4), 0
		}, api.ErrLimit},
		{"a Last below 0", func(g *plan.Game) { g.Season.Last = -1 }, api.ErrArg},
		{"seven weeks, and the Ripe 0", func(g *plan.Game) { longer(g); g.Season.Ripe = 0 }, api.ErrArg},
		{"three beds, and a Flower below Ripe", func(g *plan.Game) { g.Season.Beds, g.Season.Flower = make([]grow.Bed, 3), 7 }, api.ErrArg},
		{"seven weeks, without a Light for the last one", func(g *plan.Game) { longer(g); g.Season.Light = g.Season.Light[:6] }, api.ErrArg},
		{"a Stub below 0", func(g *plan.Game) { g.Season.Stub = -1 }, api.ErrArg},
		{"four knives", func(g *plan.Game) { g.Season.Knives = 4 }, api.ErrArg},
		{"a Light above 9", func(g *plan.Game) { g.Season.Light[5] = 10 }, api.ErrArg},
		{"a Warm that is no range", func(g *plan.Game) { g.Season.Warm[2] = to(3, 2) }, api.ErrArg},
		{"a Warm as wide as ints are", func(g *plan.Game) { g.Season.Warm[2] = to(math.MinInt, math.MaxInt) }, api.ErrArg},
		{"no beds", func(g *plan.Game) { g.Season.Beds = nil }, api.ErrArg},
		{"a Cut after Last", func(g *plan.Game) { g.Season.Beds[0].Cut = to(6, 6) }, api.ErrArg},
		// Then what is too long.
		{"seven weeks", longer, api.ErrLimit},
		{"three beds", func(g *plan.Game) { g.Season.Beds = make([]grow.Bed, 3) }, api.ErrLimit},
		{"seven weeks, and a look", func(g *plan.Game) { longer(g); g.Season.Looks = []grow.Look{look} }, api.ErrLimit},
		{"three beds, and the Bad 7", func(g *plan.Game) { g.Season.Beds, g.Bad = make([]grow.Bed, 3), 7 }, api.ErrLimit},
		{"three beds, and a wide Cut", func(g *plan.Game) { g.Season.Beds = make([]grow.Bed, 3); g.Season.Beds[2].Cut.Hi = 1 }, api.ErrLimit},
		// Then what is not valid otherwise.
		{"a look that is right", func(g *plan.Game) { g.Season.Looks = []grow.Look{look} }, api.ErrArg},
		{"a wide Cut", func(g *plan.Game) { g.Season.Beds[0].Cut = to(0, 1) }, api.ErrArg},
		{"a second bed with a wide Cut", func(g *plan.Game) { g.Season.Beds = append(g.Season.Beds, grow.Bed{Cut: to(4, 5)}) }, api.ErrArg},
		{"a Bad below 0", func(g *plan.Game) { g.Bad = -1 }, api.ErrArg},
		{"the Bad 7", func(g *plan.Game) { g.Bad = 7 }, api.ErrArg},
		{"the least Bad", func(g *plan.Game) { g.Bad = math.MinInt }, api.ErrArg},
		{"the greatest Bad", func(g *plan.Game) { g.Bad = math.MaxInt }, api.ErrArg},
		{"a look, and too many weathers", func(g *plan.Game) {
			g.Season.Warm, g.Season.Looks, g.Bad = ranges(0, 3, 0, 3, 0, 4, 3, 3, 4, 4, 4, 4), []grow.Look{look}, 6
		}, api.ErrArg},
		// Then too many weathers.
		{"80 weathers", func(g *plan.Game) { g.Season.Warm, g.Bad = ranges(0, 3, 0, 3, 0, 4, 3, 3, 4, 4, 4, 4), 6 }, api.ErrLimit},
		{"65 weathers, of 225 truths", func(g *plan.Game) { g.Season.Warm, g.Bad = ranges(0, 2, 0, 2, 0, 4, 0, 4, 4, 4, 4, 4), 2 }, api.ErrLimit},
		{"81 weathers with two bad weeks that are apart", func(g *plan.Game) {
			g.Season.Warm, g.Bad, g.Apart = ranges(0, 8, 0, 0, 0, 8, 0, 0, 0, 0, 0, 0), 2, true
		}, api.ErrLimit},
	} {
		g := ofChapter(14)
		x.change(&g)
		t.Run(x.what, func(t *testing.T) {
			// What is asked is wrong too, which does not count before the game.
			checkErrors(t, answers(g, fine()), everyCall(x.want))
			checkErrors(t, answers(g, nowhere()), everyCall(x.want))
			for _, p := range [][][]int{fine().plan, nil, cuts(nil), cuts(nil, nil), cuts(nil, nil, nil)} {
				if plan.ProveFixed(g, p, -1) {
					t.Error("proved of a game that is not valid")
				}
			}
		})
	}
}

func TestLimitsThatAreReached(t *testing.T) {
	for _, x := range []struct {
		what   string
		change func(g *plan.Game)
		many   int
	}{
		{"the chapter's game", func(g *plan.Game) {}, 2},
		{"one week", func(g *plan.Game) {
			g.Season.Last, g.Season.Light, g.Season.Warm = 0, g.Season.Light[:1], g.Season.Warm[:1]
		}, 1},
		{"two beds", func(g *plan.Game) { g.Season.Beds = append(g.Season.Beds, grow.Bed{Flow: 9, Cut: to(5, 5)}) }, 2},
		{"a last cut in the last week", func(g *plan.Game) { g.Season.Beds[0].Cut = to(5, 5) }, 2},
		{"the Bad 0", func(g *plan.Game) { g.Bad = 0 }, 1},
		{"the Bad 6", func(g *plan.Game) { g.Bad = 6 }, 2},
		{"no knives", func(g *plan.Game) { g.Season.Knives = 0 }, 2},
		{"more knives than beds", func(g *plan.Game) { g.Season.Knives = 3 }, 2},
		{"a list of no looks", func(g *plan.Game) { g.Season.Looks = []grow.Look{} }, 2},
		{"64 weathers", func(g *plan.Game) { g.Season.Warm, g.Bad = ranges(0, 3, 0, 3, 0, 3, 3, 3, 4, 4, 4, 4), 6 }, 64},
		{"64 weathers of 6 weeks", func(g *plan.Game) { g.Season.Warm, g.Bad = slices.Repeat(ranges(3, 4), 6), 6 }, 64},
		{"80 truths, of which fewer are allowed", func(g *plan.Game) {
			g.Season.Warm, g.Bad, g.Apart = ranges(0, 3, 0, 3, 0, 4, 3, 3, 4, 4, 4, 4), 6, true
		}, 23},
		{"2000 truths, of which one is allowed", func(g *plan.Game) { g.Season.Warm, g.Bad = ranges(0, 9, 0, 9, 0, 9, 0, 1, 4, 4, 4, 4), 0 }, 1},
		{"2000 truths, of which 29 are allowed", func(g *plan.Game) { g.Season.Warm, g.Bad = ranges(0, 9, 0, 9, 0, 9, 0, 1, 4, 4, 4, 4), 1 }, 29},
		{"64 weathers, of 216 truths", func(g *plan.Game) { g.Season.Warm, g.Bad = ranges(0, 2, 0, 2, 0, 3, 0, 5, 4, 4, 4, 4), 2 }, 64},
	} {
		g := ofChapter(99)
		x.change(&g)
		checkErrors(t, answers(g, asked{}), map[string]api.Errno{"CheckGame": api.OK, "Weathers": api.OK, "Best": api.OK, "Fixed": api.OK})
		if l, _ := plan.Weathers(g); len(l) != x.many || t.Failed() {
			t.Fatalf("with %s: %d weathers, not %d", x.what, len(l), x.many)
		}
	}
}

func TestErrRangeOfWeathers(t *testing.T) {
	apart := skies(sunny(4, 99, 1, one(), 1, 2, 1, 2, 1, 2), 2, true)
	for _, x := range []struct {
		g       plan.Game
		weather []int
		want    api.Errno
	}{
		{ofChapter(14), nil, api.ErrRange}, {ofChapter(14), list(), api.ErrRange}, {ofChapter(14), cold()[:5], api.ErrRange}, {ofChapter(14), append(cold(), 4), api.ErrRange}, {ofChapter(14), list(3, 3, 1, 3, 4, 4), api.ErrRange}, {ofChapter(14), list(3, 3, 4, 3, 4, 4), api.ErrRange}, {ofChapter(14), list(2, 3, 2, 3, 4, 4), api.ErrRange}, {ofChapter(14), list(3, 3, 2, 3, 4, 5), api.ErrRange}, {ofChapter(14), list(3, 3, math.MinInt, 3, 4, 4), api.ErrRange}, {ofChapter(14), list(3, 3, 2, 3, 4, math.MaxInt), api.ErrRange}, {ofChapter(14), slices.Repeat(list(3), 100000), api.ErrRange}, {ofChapter(14), cold(), api.OK},
		// A bad week too many, or next to another one.
		{skies(ofChapter(14), 0, false), cold(), api.ErrRange}, {apart, list(1, 2, 1), api.OK}, {apart, list(1, 1, 2), api.ErrRange}, {apart, list(2, 1, 1), api.ErrRange}, {apart, list(1, 1, 1), api.ErrRange}, {skies(apart, 1, true), list(1, 2, 1), api.ErrRange}, {skies(apart, 2, false), list(1, 1, 2), api.OK}, {skies(apart, 2, false), list(1, 1, 1), api.ErrRange}, {skies(apart, 3, false), list(1, 1, 1), api.OK},
	} {
		p := cuts(nil)
		if x.g.Season.Last == 5 {
			p = cuts(list(3, 5))
		}
		checkErrors(t, answers(x.g, asked{weather: x.weather, drawn: list(3), plan: p, cuts: noCuts(x.g)}), map[string]api.Errno{"Play": x.want, "Answer": api.OK})
		if t.Failed() {
			t.Fatalf("with %v, %v", x.g, x.weather)
		}
	}
}

func TestErrRangeOfPlans(t *testing.T) {
	two := but(ofChapter(14), func(g *plan.Game) { g.Season.Beds = append(g.Season.Beds, grow.Bed{Flow: 1}) })
	for _, x := range []struct {
		g    plan.Game
		plan [][]int
		want api.Errno
	}{
		{ofChapter(14), nil, api.ErrRange}, {ofChapter(14), [][]int{}, api.ErrRange}, {ofChapter(14), cuts(nil, nil), api.ErrRange}, {ofChapter(14), cuts(list(5, 3)), api.ErrRange}, {ofChapter(14), cuts(list(3, 3)), api.ErrRange}, {ofChapter(14), cuts(list(6)), api.ErrRange}, {ofChapter(14), cuts(list(-1, 3)), api.ErrRange}, {ofChapter(14), cuts(list(math.MinInt)), api.ErrRange}, {ofChapter(14), cuts(list(3, math.MaxInt)), api.ErrRange}, {ofChapter(14), make([][]int, 100000), api.ErrRange}, {ofChapter(14), cuts(list(3, 5)), api.OK}, {two, cuts(list(3, 5)), api.ErrRange}, {two, cuts(list(3, 5), list(1, 0)), api.ErrRange}, {two, cuts(list(3, 5), nil), api.OK},
		// A plan that does not hold is one.
		{ofChapter(14), cuts(nil), api.ErrFail}, {ofChapter(14), cuts(list(0, 1, 2, 3, 4, 5)), api.ErrFail}, {two, cuts(list(3, 5), list(5)), api.ErrFail},
	} {
		answered := x.want
		if x.want == api.ErrFail {
			answered = api.OK
		}
		checkErrors(t, answers(x.g, asked{weather: cold(), drawn: list(3), plan: x.plan, cuts: noCuts(x.g)}), map[string]api.Errno{"Play": x.want, "Answer": answered, "Move": api.OK})
		// The weather is asked first, which makes no difference to the error.
		checkErrors(t, answers(x.g, asked{weather: list(0), plan: x.plan}), map[string]api.Errno{"Play": api.ErrRange, "Answer": answered, "Move": api.ErrRange})
		if t.Failed() || plan.ProveFixed(x.g, x.plan, 0) != (x.want == api.OK) {
			t.Fatalf("with %v, %v", x.g, x.plan)
		}
	}
}

func TestErrorsOfMove(t *testing.T) {
	chapter, loose := ofChapter(14), ofChapter(99)
	apart := skies(sunny(4, 99, 1, one(), 1, 2, 1, 2, 1, 2), 2, true)
	both := sunny(4, 9, 1, list(9, 3), 0, 0, 3, 4, 3, 4)
	for _, x := range []struct {
		g     plan.Game
		drawn []int
		cuts  [][]int
		want  api.Errno
	}{
		// What was drawn: one number at least, and one for each week at most, with which an allowed weather can begin.
		{chapter, nil, cuts(nil), api.ErrRange}, {chapter, list(), cuts(nil), api.ErrRange}, {chapter, append(cold(), 4), cuts(list(3)), api.ErrRange}, {chapter, list(2), cuts(nil), api.ErrRange}, {chapter, list(3, 4), cuts(nil), api.ErrRange}, {chapter, list(3, 3, 1), cuts(nil), api.ErrRange}, {chapter, list(math.MaxInt), cuts(nil), api.ErrRange}, {chapter, list(3, math.MinInt), cuts(nil), api.ErrRange}, {chapter, slices.Repeat(list(3), 100000), cuts(nil), api.ErrRange}, {chapter, list(3), cuts(nil), api.OK}, {chapter, cold(), cuts(list(3)), api.OK},
		{skies(chapter, 0, false), list(3, 3, 2), cuts(nil), api.ErrRange}, {skies(chapter, 0, false), list(3, 3, 3), cuts(nil), api.OK}, {apart, list(1, 1), cuts(nil), api.ErrRange}, {apart, list(1, 2, 1), cuts(nil), api.OK}, {apart, list(2, 1, 1), cuts(nil), api.ErrRange}, {skies(apart, 1, true), list(1, 2, 1), cuts(nil), api.ErrRange}, {skies(apart, 1, true), list(1, 2), cuts(nil), api.OK},
		// The cuts: a plan, all before the last week that was drawn.
		{chapter, list(3, 3), nil, api.ErrRange}, {chapter, list(3, 3), cuts(nil, nil), api.ErrRange}, {chapter, cold(), cuts(list(3, 3)), api.ErrRange}, {chapter, cold(), cuts(list(3, 2)), api.ErrRange}, {chapter, cold(), cuts(list(-1)), api.ErrRange}, {chapter, cold(), cuts(list(6)), api.ErrRange}, {chapter, cold(), cuts(list(3, 5)), api.ErrRange}, {chapter, list(3, 3, 2, 3), cuts(list(3)), api.ErrRange}, {chapter, list(3, 3, 2, 3), cuts(list(4)), api.ErrRange}, {chapter, list(3, 3, 2, 3, 4), cuts(list(3)), api.OK}, {chapter, list(3), cuts(list(0)), api.ErrRange}, {both, list(0, 4, 4), cuts(nil, list(2)), api.ErrRange}, {both, list(0, 4, 4), cuts(list(2), nil), api.ErrRange}, {both, list(0, 4, 4), cuts(nil, list(1)), api.OK},
		// Beds that could not be cut were cut, or too many.
		{chapter, list(3, 3, 2, 3), cuts(list(2)), api.ErrFail}, {chapter, list(3, 3, 3, 3), cuts(list(2)), api.OK}, {chapter, list(3, 3), cuts(list(0)), api.ErrFail}, {loose, cold(), cuts(list(2, 3)), api.ErrFail}, {loose, cold(), cuts(list(3, 4)), api.ErrFail}, {chapter, cold(), cuts(list(4)), api.OK}, {both, list(0, 4, 4), cuts(list(1), list(1)), api.ErrFail}, {but(both, func(g *plan.Game) { g.Season.Knives = 2 }), list(0, 4, 4), cuts(list(1), list(1)), api.OK}, {but(both, func(g *plan.Game) { g.Season.Knives = 0 }), list(0, 4, 4), cuts(list(1), nil), api.ErrFail}, {cutIn(both, 1, 0), list(0, 4, 4), cuts(list(1), nil), api.ErrFail}, {cutIn(both, 1, 0), list(0, 4, 4), cuts(list(0), nil), api.ErrFail},
		// A bed has run to flower: before the last week that was drawn, or in it, though it was cut then.
		{chapter, warm(), cuts(nil), api.ErrFail}, {chapter, warm()[:5], cuts(nil), api.ErrFail}, {chapter, cold()[:5], cuts(nil), api.OK}, {chapter, cold(), cuts(nil), api.ErrFail}, {chapter, warm(), cuts(list(4)), api.ErrFail}, {ofChapter(10), warm()[:4], cuts(nil), api.ErrFail}, {stubOf(sunny(1, 8, 1, one(), 0, 0, 3, 4), 9), list(0), cuts(nil), api.ErrFail},
		// He cannot be sure to win: since the beginning, or because he has waited, or cut the wrong bed.
		{but(chapter, func(g *plan.Game) { g.Season.Knives = 0 }), list(3), cuts(nil), api.ErrShort}, {inTurn(), list(0, 3, 3), cuts(nil, nil), api.ErrShort}, {inTurn(), list(0, 3), cuts(nil, nil), api.OK}, {cool(), list(0), cuts(nil), api.ErrShort}, {cool(), list(0, 2), cuts(nil), api.ErrShort}, {cool(), list(0, 1), cuts(nil), api.OK}, {cool(), list(0, 2, 3), cuts(nil), api.ErrShort}, {cool(), list(0, 2, 3, 3), cuts(nil), api.ErrFail},
		{sunny(4, 8, 1, list(9, 2), 0, 0, 3, 3, 3, 3, 3, 3, 3, 3), list(0, 3, 3), cuts(list(1), nil), api.OK}, {sunny(3, 8, 1, two(), 0, 0, 3, 3, 3, 3, 3, 3, 3, 3), list(0, 3, 3, 3), cuts(list(1, 2), nil), api.ErrFail}, {sunny(3, 8, 1, two(), 0, 0, 3, 3, 3, 3, 3, 3, 3, 3), list(0, 3, 3), cuts(list(1), nil), api.OK},
	} {
		checkErrors(t, answers(x.g, asked{drawn: x.drawn, cuts: x.cuts}), map[string]api.Errno{"CheckGame": api.OK, "Move": x.want})
		if t.Failed() {
			t.Fatalf("with %v, %v, %v", x.g, x.drawn, x.cuts)
		}
	}
}

func TestErrRangeComesBeforeErrFailAndErrShort(t *testing.T) {
	blunt := but(ofChapter(14), func(g *plan.Game) { g.Season.Knives = 0 })
	for _, x := range []struct {
		ask  asked
		want map[string]api.Errno
	}{
		{fine(), map[string]api.Errno{"Play": api.ErrFail, "Move": api.ErrFail, "Answer": api.OK}},
		{nowhere(), map[string]api.Errno{"Play": api.ErrRange, "Move": api.ErrRange, "Answer": api.ErrRange}},
		{asked{drawn: list(3, 3), plan: cuts(nil), weather: cold(), cuts: cuts(nil)}, map[string]api.Errno{"Play": api.ErrFail, "Move": api.ErrShort, "Answer": api.OK}},
		{asked{drawn: list(3, 3), cuts: cuts(list(1))}, map[string]api.Errno{"Move": api.ErrRange}},
		{asked{drawn: list(3, 3, 3), cuts: cuts(list(1))}, map[string]api.Errno{"Move": api.ErrFail}},
	} {
		x.want["Best"], x.want["Fixed"], x.want["Weathers"] = api.ErrShort, api.ErrShort, api.OK
		checkErrors(t, answers(blunt, x.ask), x.want)
		if t.Failed() {
			t.Fatalf("with %v", x.ask)
		}
	}
}

// wildNumber is near a limit, or far from all of them.
func wildNumber(r *rand.Rand) int {
	l := list(math.MinInt, -2, -1, 0, 1, 2, 3, 4, 5, 6, 7, 8, 9, 10, 99, 100, math.MaxInt)
	return l[r.Intn(len(l))]
}

func wildGame(r *rand.Rand) plan.Game {
	g := anyGame(r)
	s := &g.Season
	for range r.Intn(3) {
		switch r.Intn(10) {
		case 0:
			g.Bad = wildNumber(r)
		case 1:
			*[]*int{&s.Last, &s.Stub, &s.Ripe, &s.Flower, &s.Knives}[r.Intn(5)] = wildNumber(r)
		case 2:
			s.Warm[r.Intn(len(s.Warm))] = to(wildNumber(r), wildNumber(r))
		case 3:
			for i := range s.Warm {
				s.Warm[i].Hi += r.Intn(3)
			}
			g.Bad = 6
		case 4:
			s.Last++
			s.Light, s.Warm = append(s.Light, 3), append(s.Warm, to(2, 2))
		case 5:
			s.Beds = append(s.Beds, grow.Bed{Flow: wildNumber(r), Cut: to(wildNumber(r), wildNumber(r))})
		case 6:
			s.Beds = append(s.Beds, s.Beds...)
		case 7:
			s.Beds[0].Cut.Hi += r.Intn(2)
		case 8:
			s.Looks = append(s.Looks, grow.Look{Bed: r.Intn(2), Week: r.Intn(2), Height: to(0, 99)})
		case 9:
			s.Light[0] = wildNumber(r)
		}
	}
	return g
}

// wildList is often one of the game's numbers, with some that are not.
func wildList(r *rand.Rand, own []int) []int {
	l := slices.Clone(own[:r.Intn(len(own)+1)])
	if r.Intn(3) == 0 {
		l = slices.Clone(own)
	}
	for range max(0, r.Intn(6)-4) {
		l = append(l, wildNumber(r))
	}
	if len(l) > 0 && r.Intn(4) == 0 {
		l[r.Intn(len(l))] = wildNumber(r)
	}
	return l
}

func wildPlan(r *rand.Rand, g plan.Game) [][]int {
	p := noCuts(g)
	if r.Intn(6) == 0 {
		p = append(p, nil)
	}
	for bed := range p {
		if r.Intn(2) == 0 {
			p[bed] = wildList(r, list(r.Intn(3), 3, 5)[:1+r.Intn(3)])
		}
	}
	return p
}

func wildAsked(r *rand.Rand, g plan.Game) asked {
	var low, high []int
	for _, week := range g.Season.Warm {
		low, high = append(low, week.Lo), append(high, week.Hi)
	}
	own := slices.Clone(high)
	if r.Intn(3) == 0 {
		own[r.Intn(len(own))] = low[r.Intn(len(own))]
	}
	return asked{weather: wildList(r, own), drawn: wildList(r, own), plan: wildPlan(r, g), cuts: wildPlan(r, g)}
}

// checked says what CheckGame has to return, in the words of the chapter.
func checked(g plan.Game) api.Errno {
	if e := grow.CheckSeason(g.Season); e != api.OK {
		return e
	}
	if g.Season.Last > 5 || len(g.Season.Beds) > 2 {
		return api.ErrLimit
	}
	ok := len(g.Season.Looks) == 0 && g.Bad >= 0 && g.Bad <= 6
	for _, b := range g.Season.Beds {
		ok = ok && b.Cut.Lo == b.Cut.Hi
	}
	switch {
	case !ok:
		return api.ErrArg
	case len(weathers(g)) > 64:
		return api.ErrLimit
	}
	return api.OK
}

func isPlan(g plan.Game, p [][]int) bool {
	if len(p) != len(g.Season.Beds) {
		return false
	}
	for _, weeks := range p {
		for i, week := range weeks {
			if week < 0 || week > g.Season.Last || i > 0 && week <= weeks[i-1] {
				return false
			}
		}
	}
	return true
}

// errorsOf says what the calls have to return that ask more than the game, if this is valid.
func errorsOf(x table, ask asked) map[string]api.Errno {
	want := map[string]api.Errno{"Play": api.OK, "Move": api.OK, "Answer": api.OK}
	isOne := slices.ContainsFunc(x.weathers, func(l []int) bool { return slices.Equal(l, ask.weather) })
	switch {
	case !isOne || !isPlan(x.Game, ask.plan):
		want["Play"] = api.ErrRange
	case !holds(x.Game, ask.weather, ask.plan):
		want["Play"] = api.ErrFail
	}
	if !isPlan(x.Game, ask.plan) {
		want["Answer"] = api.ErrRange
	}
	last := len(ask.drawn) - 1
	begins := slices.ContainsFunc(x.weathers, func(l []int) bool {
		return last >= 0 && last < len(l) && slices.Equal(l[:last+1], ask.drawn)
	})
	late := slices.ContainsFunc(ask.cuts, func(l []int) bool {
		return slices.ContainsFunc(l, func(week int) bool { return week >= last })
	})
	switch {
	case !begins || !isPlan(x.Game, ask.cuts) || late:
		want["Move"] = api.ErrRange
	case !holds(x.Game, ask.drawn, ask.cuts):
		want["Move"] = api.ErrFail
	default:
		if _, n := x.move(ask.drawn, ask.cuts); n < 0 {
			want["Move"] = api.ErrShort
		}
	}
	return want
}

func TestP1_AnyArguments(t *testing.T) {
	r := rand.New(rand.NewSource(1))
	seen := map[string]map[api.Errno]int{"CheckGame": {}, "Play": {}, "Move": {}, "Answer": {}}
	for range 9000 {
		g := wildGame(r)
		x := wildAsked(r, g)
		e := checked(g)
		seen["CheckGame"][e]++
		want := everyCall(e)
		if e == api.OK {
			want = errorsOf(table{g, weathers(g)}, x)
			want["CheckGame"], want["Weathers"] = api.OK, api.OK
			for name := range want {
				if seen[name] != nil {
					seen[name][want[name]]++
				}
			}
		}
		checkErrors(t, answers(g, x), want)
		proved := plan.ProveFixed(g, x.plan, wildNumber(r))
		if t.Failed() || proved && (e != api.OK || want["Answer"] != api.OK) {
			t.Fatalf("with %v, %v: proved %v", g, x, proved)
		}
	}
	for name, errors := range map[string][]api.Errno{"CheckGame": {api.OK, api.ErrArg, api.ErrLimit}, "Play": {api.OK, api.ErrRange, api.ErrFail}, "Move": {api.OK, api.ErrRange, api.ErrFail, api.ErrShort}, "Answer": {api.OK, api.ErrRange}} {
		for _, e := range errors {
			if seen[name][e] < 50 {
				t.Errorf("not enough of each kind: %s, %v", name, seen[name])
			}
		}
	}
}

func TestP1_TheLargestGame(t *testing.T) {
	// Each cut brings what has grown since the last one: all that grows after the week 0, in each bed.
	week := ranges(3, 4)
	s := grow.Season{Last: 5, Stub: 9, Ripe: 1, Flower: 99, Knives: 3, Light: slices.Repeat(list(9), 6), Warm: slices.Repeat(week, 6), Beds: []grow.Bed{{Flow: 9}, {Flow: 9}}}
	g := plan.Game{Season: s, Bad: 6}
	if l, e := plan.Weathers(g); len(l) != 64 || e != api.OK {
		t.Errorf("%d weathers, %v", len(l), e)
	}
	if n, e := plan.Best(g); n != 30 || e != api.OK {
		t.Errorf("Best: %d, %v", n, e)
	}
	p, n, e := plan.Fixed(g)
	if n != 30 || e != api.OK || !plan.ProveFixed(g, p, 30) || plan.ProveFixed(g, p, 31) {
		t.Errorf("Fixed: %v, %d, %v", p, n, e)
	}
	if r, e := plan.Answer(g, p); !sameReply(r, plan.Reply{Weather: slices.Repeat(list(3), 6), Holds: true, Yield: 30}) || e != api.OK {
		t.Errorf("Answer: %v, %v", r, e)
	}
	if l, n, e := plan.Move(g, slices.Repeat(list(4), 6), cuts(nil, nil)); !slices.Equal(l, list(0, 1)) || n != 40 || e != api.OK {
		t.Errorf("Move: %v, %d, %v", l, n, e)
	}
	// The tallest cress, of three beds less than layer 3 allows.
	tall := sunny(46, 46, 1, one(), 9, 9, 9, 9, 9, 9, 9, 9, 9, 9, 9, 9)
	if n, e := plan.Best(tall); n != 45 || e != api.OK {
		t.Errorf("Best of the tallest cress: %d, %v", n, e)
	}
}

func TestR3_EmptyIsNil(t *testing.T) {
	g := ofChapter(14)
	h := but(g, func(g *plan.Game) { g.Season.Looks = []grow.Look{} })
	nils := asked{weather: cold(), drawn: list(3, 3, 2), plan: cuts(list(3, 5)), cuts: cuts(nil)}
	empty := asked{weather: cold(), drawn: list(3, 3, 2), plan: cuts(list(3, 5)), cuts: cuts(list())}
	a, b := answers(g, nils), answers(h, empty)
	for i := range a {
		if a[i].e != b[i].e || !slices.Equal(a[i].numbers, b[i].numbers) || a[i].e != api.OK {
			t.Errorf("%s: %v, and %v of lists without elements", a[i].name, a[i], b[i])
		}
	}
	loose := ofChapter(99)
	if !plan.ProveFixed(loose, cuts(nil), 0) || !plan.ProveFixed(loose, cuts(list()), 0) || plan.ProveFixed(loose, nil, 0) || plan.ProveFixed(loose, [][]int{}, 0) {
		t.Error("nil and a list without elements are not the same")
	}
}

func TestR4_ArgumentsAreNotWrittenTo(t *testing.T) {
	for _, x := range games(200, 4) {
		g, weather := x.Game, x.weathers[len(x.weathers)-1]
		all := plans(g)
		p := copiedRows(all[len(all)/2])
		ask := asked{weather: weather, drawn: weather, plan: p, cuts: noCuts(g)}
		was, row, rows := copied(g), slices.Clone(weather), copiedRows(p)
		before := answers(g, ask)
		plan.ProveFixed(g, p, 1)
		if !same(g, was) || !slices.Equal(weather, row) || !sameRows(p, rows) {
			t.Fatalf("%v became %v, or %v or %v was written to", was, g, weather, p)
		}
		for i, a := range answers(g, ask) {
			if a.e != before[i].e || !slices.Equal(a.numbers, before[i].numbers) {
				t.Fatalf("%s of %v: %v, and then %v", a.name, g, before[i], a)
			}
		}
	}
}

func TestR4_ListsWithRoomAreNotWrittenTo(t *testing.T) {
	// Behind each list there is memory that belongs to somebody else.
	g, ask := ofChapter(14), fine()
	lights, warms, beds := append(g.Season.Light, 99), append(g.Season.Warm, to(99, 99)), append(g.Season.Beds, grow.Bed{Flow: 99})
	weather, drawn, weeks, more := append(ask.weather, 99), append(ask.drawn, 99), append(ask.plan[0], 99), append(ask.cuts[0], 99)
	g.Season.Light, g.Season.Warm, g.Season.Beds = lights[:6], warms[:6], beds[:1]
	ask.weather, ask.drawn, ask.plan[0], ask.cuts[0] = weather[:6], drawn[:5], weeks[:2], more[:1]
	checkErrors(t, answers(g, ask), everyCall(api.OK))
	if !plan.ProveFixed(g, ask.plan, 16) {
		t.Error("not proved")
	}
	if lights[6] != 99 || warms[6] != to(99, 99) || beds[1].Flow != 99 || weather[6] != 99 || drawn[5] != 99 || weeks[2] != 99 || more[1] != 99 {
		t.Errorf("%v, %v, %v, %v, %v, %v or %v was written to", lights, warms, beds, weather, drawn, weeks, more)
	}
}

func TestR4_ResultsAreInMemoryOfTheirOwn(t *testing.T) {
	// Two beds that are alike are cut in the same weeks, and still not in the same memory.
	g := sunny(4, 5, 2, two(), 0, 0, 3, 4, 3, 4, 3, 4)
	for _, call := range []func() [][]int{
		func() [][]int { l, _ := plan.Weathers(g); return l },
		func() [][]int { l, _, _ := plan.Fixed(g); return l },
		func() [][]int { l, _, _ := plan.Move(g, list(0, 3, 3), cuts(list(1), list(1))); return cuts(l) },
		func() [][]int { r, _ := plan.Answer(g, cuts(list(1, 2, 3), list(1, 2, 3))); return cuts(r.Weather) },
	} {
		rows := call()
		was := copiedRows(rows)
		if len(rows) == 0 || len(rows[0]) == 0 {
			t.Fatalf("nothing to write to: %v", rows)
		}
		rows[0][0] = 99
		_ = append(rows[0], 98)
		for i, row := range rows[1:] {
			if !slices.Equal(row, was[i+1]) {
				t.Errorf("rows share memory: %v, not %v", rows, was)
			}
		}
		if again := call(); !sameRows(again, was) {
			t.Errorf("%v; after it was written to: %v", was, again)
		}
	}
	row, p := list(0, 3, 3, 3), cuts(list(1, 2, 3), list(1, 2, 3))
	if r, e := plan.Answer(g, p); !slices.Equal(r.Weather, row) || !r.Holds || e != api.OK {
		t.Errorf("Answer: %v, %v", r, e)
	}
}

func TestExampleOfTheReadme(t *testing.T) {
	game := plan.Game{
		Season: grow.Season{
			Last: 5, Stub: 2, Ripe: 8, Flower: 10, Knives: 1,
			Light: []int{3, 3, 3, 4, 4, 4},
			Warm:  []grow.Range{{Lo: 3, Hi: 3}, {Lo: 3, Hi: 3}, {Lo: 2, Hi: 3}, {Lo: 3, Hi: 3}, {Lo: 4, Hi: 4}, {Lo: 4, Hi: 4}},
			Beds:  []grow.Bed{{Flow: 4, Cut: grow.Range{Lo: 0, Hi: 0}}},
		},
		Bad: 1,
	}
	if l, e := plan.Weathers(game); !sameRows(l, cuts(cold(), warm())) || e != api.OK {
		t.Errorf("Weathers: %v, %v", l, e)
	}
	if n, e := plan.Best(game); n != 13 || e != api.OK {
		t.Errorf("Best: %d, %v", n, e)
	}
	if l, n, e := plan.Move(game, []int{3, 3, 3}, [][]int{nil}); !slices.Equal(l, list(0)) || n != 13 || e != api.OK {
		t.Errorf("Move: %v, %d, %v", l, n, e)
	}
	if l, n, e := plan.Move(game, []int{3, 3, 2}, [][]int{nil}); len(l) > 0 || n != 16 || e != api.OK {
		t.Errorf("Move: %v, %d, %v", l, n, e)
	}
	if p, n, e := plan.Fixed(game); len(p) > 0 || n != 0 || e != api.ErrShort {
		t.Errorf("Fixed: %v, %d, %v", p, n, e)
	}
	if r, e := plan.Answer(game, [][]int{{3, 5}}); !sameReply(r, plan.Reply{Weather: warm()}) || e != api.OK {
		t.Errorf("Answer: %v, %v", r, e)
	}
	if n, e := plan.Play(game, []int{3, 3, 2, 3, 4, 4}, [][]int{{3, 5}}); n != 16 || e != api.OK {
		t.Errorf("Play: %d, %v", n, e)
	}
}
