package clean_test

import (
	"math/rand"
	"slices"
	"testing"

	"watercress/api"
	"watercress/clean"
)

// ofChapter is the yard of the chapter's examples, with claims.
func ofChapter(claims ...clean.Claim) clean.Yard {
	y := yard(5, 2, bed(2, 0, 1), bed(2, 1, 3), bed(1, 2, 2), bed(2, 2, 4))
	y.Claims = claims
	return y
}

// The claims of the chapter's examples: no schedule agrees with the first one.
func first() clean.Claim  { return claim(1, 1, 2) }
func second() clean.Claim { return claim(0, 0, 0) }

// fourLists are the schedules of the chapter's yard.
func fourLists() [][]int {
	return [][]int{{0, 3, 2, 3}, {0, 3, 2, 4}, {1, 3, 2, 3}, {1, 3, 2, 4}}
}

func contains(all [][]int, l []int) bool {
	return slices.ContainsFunc(all, func(x []int) bool { return slices.Equal(x, l) })
}

func TestP4_1_ShowOfTheChapter(t *testing.T) {
	if l, e := clean.Show(ofChapter()); !contains(fourLists(), l) || e != api.OK {
		t.Errorf("Show: %v, %v", l, e)
	}
	if l, e := clean.Show(ofChapter(second(), claim(3, 4, 5))); !slices.Equal(l, list(0, 3, 2, 4)) || e != api.OK {
		t.Errorf("Show with claims: %v, %v", l, e)
	}
	if l, e := clean.Show(ofChapter(first())); len(l) > 0 || e != api.ErrFail {
		t.Errorf("Show with a claim that is false: %v, %v", l, e)
	}
}

func TestP4_1_ProveScheduleOfTheChapter(t *testing.T) {
	y := ofChapter()
	for _, l := range choices(y) {
		if clean.ProveSchedule(y, l) != contains(fourLists(), l) {
			t.Errorf("ProveSchedule of %v", l)
		}
	}
	for _, x := range []struct {
		y    clean.Yard
		l    []int
		want bool
	}{
		{ofChapter(second()), list(0, 3, 2, 4), true}, {ofChapter(second()), list(1, 3, 2, 4), false}, {ofChapter(second(), first()), list(0, 3, 2, 4), false},
		{withHands(ofChapter(), 1), list(0, 3, 2, 4), false}, {withHands(ofChapter(), 3), list(0, 3, 2, 4), true},
		// A week that is not of Begin, and a list that is too long or too short.
		{y, list(2, 3, 2, 4), false}, {y, list(0, 4, 2, 4), false}, {y, list(0, 3, 2, 5), false}, {y, list(-1, 3, 2, 4), false}, {y, list(0, 3, 2), false}, {y, list(0, 3, 2, 4, 0), false}, {y, list(0, 3, 2, 4, 0, 0, 0), false}, {y, nil, false},
		{clean.Yard{}, nil, false},
	} {
		if clean.ProveSchedule(x.y, x.l) != x.want {
			t.Errorf("ProveSchedule of %v, %v is not %v", x.y, x.l, x.want)
		}
	}
}

func TestP4_1_ProveScheduleAsksForOneWeekOfEachBed(t *testing.T) {
	// The week 0, which the last bed has, must not be left out, nor be added.
	y := yard(1, 1, bed(1, 1, 1), bed(1, 0, 0))
	for _, l := range [][]int{nil, {1}, {1, 0, 0}, {0, 1}} {
		if clean.ProveSchedule(y, l) {
			t.Errorf("ProveSchedule of %v", l)
		}
	}
	if !clean.ProveSchedule(y, list(1, 0)) {
		t.Error("ProveSchedule of the schedule")
	}
}

func TestP4_1_EachCleaningEndsByTheLastWeek(t *testing.T) {
	for long := 1; long <= 3; long++ {
		y := yard(4, 1, bed(long, 0, 4))
		for week := range 5 {
			if clean.ProveSchedule(y, list(week)) != (week+long <= 5) {
				t.Errorf("ProveSchedule of %v, %d", y, week)
			}
		}
		if l, e := clean.Weeks(y, 0); !slices.Equal(l, list(0, 1, 2, 3, 4)[:6-long]) || e != api.OK {
			t.Errorf("Weeks of %v: %v, %v", y, l, e)
		}
	}
}

func TestP4_1_NeighboursTakeTurns(t *testing.T) {
	// The bed 1 is empty in the weeks 3 and 4, whatever hands there are.
	for week, want := range []bool{true, true, false, false, false, true, true} {
		for n := range 2 {
			y := yard(7, 3, bed(2, 3, 3), bed(2, 0, 6))
			l := list(3, week)
			if n == 1 {
				slices.Reverse(y.Beds)
				slices.Reverse(l)
			}
			if clean.ProveSchedule(y, l) != want {
				t.Errorf("ProveSchedule of %v, %v is not %v", y, l, want)
			}
		}
	}
	// Beds that are not neighbours may be empty together.
	if y := yard(0, 2, bed(1, 0, 0), bed(1, 0, 0)); clean.ProveSchedule(y, list(0, 0)) {
		t.Error("neighbours are empty together")
	}
	if y := yard(1, 2, bed(1, 0, 0), bed(1, 1, 1), bed(1, 0, 0)); !clean.ProveSchedule(y, list(0, 1, 0)) {
		t.Error("beds that are not neighbours are not empty together")
	}
}

func TestP4_1_HandsInEachWeek(t *testing.T) {
	// Three beds are empty in the week 2, two in the weeks 1 and 3.
	y := yard(4, 1, bed(2, 1, 1), bed(1, 0, 0), bed(3, 1, 1), bed(1, 4, 4), bed(2, 2, 2))
	for hands := 1; hands <= 3; hands++ {
		want := hands == 3
		if clean.ProveSchedule(withHands(y, hands), list(1, 0, 1, 4, 2)) != want {
			t.Errorf("ProveSchedule with %d hands is not %v", hands, want)
		}
		l, e := clean.Show(withHands(y, hands))
		if want && (!slices.Equal(l, list(1, 0, 1, 4, 2)) || e != api.OK) || !want && (len(l) > 0 || e != api.ErrShort) {
			t.Errorf("Show with %d hands: %v, %v", hands, l, e)
		}
	}
}

func TestP4_1_YardWithoutBeds(t *testing.T) {
	y := yard(3, 1)
	if l, e := clean.Show(y); len(l) > 0 || e != api.OK || !clean.ProveSchedule(y, l) || !clean.ProveSchedule(y, nil) || !clean.ProveSchedule(y, list()) {
		t.Errorf("Show: %v, %v", l, e)
	}
	if clean.ProveSchedule(y, list(0)) {
		t.Error("ProveSchedule of a list for one bed")
	}
	if n, e := clean.Fewest(y); n != 1 || e != api.OK {
		t.Errorf("Fewest: %d, %v", n, e)
	}
	if l, e := clean.Proof(y); len(l) > 0 || e != api.ErrNone || clean.Prove(y, nil) {
		t.Errorf("Proof: %v, %v", l, e)
	}
	if n, e := clean.First(y); n != 0 || e != api.ErrNone {
		t.Errorf("First: %d, %v", n, e)
	}
	if l, e := clean.Leave(y); len(l) > 0 || e != api.OK {
		t.Errorf("Leave: %v, %v", l, e)
	}
}

func TestP4_1_ShowAndProveScheduleAgreeWithTheDefinitions(t *testing.T) {
	seen := map[api.Errno]int{}
	r := rand.New(rand.NewSource(11))
	for _, y := range yards(700, 11) {
		if e := clean.CheckYard(y); e != api.OK {
			t.Fatalf("CheckYard of %v: %v", y, e)
		}
		all := own(y)
		want := wantedError(y)
		seen[want]++
		l, e := clean.Show(y)
		if e != want || e == api.OK && !contains(all, l) || e != api.OK && len(l) > 0 {
			t.Fatalf("Show of %v: %v, %v", y, l, e)
		}
		for _, l := range choices(y) {
			if clean.ProveSchedule(y, l) != contains(all, l) {
				t.Fatalf("ProveSchedule of %v, %v", y, l)
			}
			if len(l) == 0 {
				continue
			}
			// One week that is perhaps not of its Begin.
			l[r.Intn(len(l))] = r.Intn(12) - 1
			if clean.ProveSchedule(y, l) != contains(all, l) {
				t.Fatalf("ProveSchedule of %v, %v", y, l)
			}
		}
	}
	for _, e := range []api.Errno{api.OK, api.ErrShort, api.ErrFail} {
		if seen[e] < 50 {
			t.Errorf("not enough of each kind: %v", seen)
		}
	}
}

// wantedError is that of Show.
func wantedError(y clean.Yard) api.Errno {
	switch {
	case len(schedules(y)) == 0:
		return api.ErrShort
	case len(own(y)) == 0:
		return api.ErrFail
	}
	return api.OK
}

func TestP4_2_WeeksAndEmptyOfTheChapter(t *testing.T) {
	for n, want := range [][]int{{0, 1}, {3}, {2}, {3, 4}} {
		if l, e := clean.Weeks(ofChapter(), n); !slices.Equal(l, want) || e != api.OK {
			t.Errorf("Weeks of the bed %d: %v, %v", n, l, e)
		}
	}
	for _, x := range []struct{ bed, week, want int }{
		{1, 4, clean.Always}, {0, 1, clean.Always}, {3, 4, clean.Always}, {3, 2, clean.Never},
		{0, 0, clean.Perhaps}, {0, 2, clean.Perhaps}, {0, 3, clean.Never}, {1, 2, clean.Never}, {1, 3, clean.Always}, {1, 5, clean.Never}, {2, 1, clean.Never}, {2, 2, clean.Always}, {2, 3, clean.Never}, {3, 3, clean.Perhaps}, {3, 5, clean.Perhaps},
	} {
		if v, e := clean.Empty(ofChapter(), x.bed, x.week); v != x.want || e != api.OK {
			t.Errorf("Empty of the bed %d in the week %d: %d, %v", x.bed, x.week, v, e)
		}
	}
}

func TestP4_2_NumbersOfTheKinds(t *testing.T) {
	if clean.Always != 1 || clean.Never != 2 || clean.Perhaps != 3 {
		t.Errorf("%d, %d, %d", clean.Always, clean.Never, clean.Perhaps)
	}
}

func TestP4_2_ClaimsTellOfOtherBeds(t *testing.T) {
	// That the bed 0 began late leaves no turn to the bed 1 but the one before it.
	y := yard(3, 1, bed(2, 0, 2), bed(2, 0, 2))
	y.Claims = []clean.Claim{claim(0, 2, 3)}
	if l, e := clean.Weeks(y, 1); !slices.Equal(l, list(0)) || e != api.OK {
		t.Errorf("Weeks: %v, %v", l, e)
	}
	for week, want := range list(clean.Always, clean.Always, clean.Never, clean.Never) {
		if v, e := clean.Empty(y, 1, week); v != want || e != api.OK {
			t.Errorf("Empty in the week %d: %d, %v", week, v, e)
		}
	}
}

func TestP4_2_WeeksAndEmptyAgreeWithTheDefinitions(t *testing.T) {
	seen := map[int]int{}
	for _, y := range yards(1200, 12) {
		all, want := own(y), wantedError(y)
		for n := range y.Beds {
			var weeks []int
			for week := 0; week <= y.Last; week++ {
				if slices.ContainsFunc(all, func(l []int) bool { return l[n] == week }) {
					weeks = append(weeks, week)
				}
				verdict := 0
				if want == api.OK {
					verdict = empty(y, all, n, week)
				}
				seen[verdict]++
				if v, e := clean.Empty(y, n, week); v != verdict || e != want {
					t.Fatalf("Empty of %v, %d, %d: %d, %v, not %d, %v", y, n, week, v, e, verdict, want)
				}
			}
			if l, e := clean.Weeks(y, n); !slices.Equal(l, weeks) || e != want {
				t.Fatalf("Weeks of %v, %d: %v, %v, not %v, %v", y, n, l, e, weeks, want)
			}
		}
	}
	for _, v := range list(0, clean.Always, clean.Never, clean.Perhaps) {
		if seen[v] < 400 {
			t.Errorf("not enough of each kind: %v", seen)
		}
	}
}

// empty is the verdict about these schedules.
func empty(y clean.Yard, all [][]int, n, week int) int {
	many := 0
	for _, l := range all {
		if isEmpty(y, l, n, week) {
			many++
		}
	}
	switch many {
	case len(all):
		return clean.Always
	case 0:
		return clean.Never
	}
	return clean.Perhaps
}

func TestP4_3_FewestOfTheChapter(t *testing.T) {
	for hands := 1; hands <= 3; hands++ {
		// Neither the hands that there are nor claims that are false count.
		for _, y := range []clean.Yard{ofChapter(), ofChapter(first()), ofChapter(first(), second(), claim(0, 1, 1))} {
			if n, e := clean.Fewest(withHands(y, hands)); n != 2 || e != api.OK {
				t.Errorf("Fewest of %v with %d hands: %d, %v", y, hands, n, e)
			}
		}
	}
}

func TestP4_3_FewestFromOneToThree(t *testing.T) {
	at := func(week int) clean.Bed { return bed(1, week, week) }
	for _, x := range []struct {
		y    clean.Yard
		want int
		e    api.Errno
	}{
		{yard(9, 3, at(0), at(1), at(2), at(3), at(4), at(5)), 1, api.OK}, {yard(9, 1, at(5), at(0), at(5), at(1)), 2, api.OK}, {yard(9, 1, at(5), at(0), at(5), at(1), at(5)), 3, api.OK},
		{yard(1, 3, at(0), at(0)), 0, api.ErrShort}, {yard(1, 3, bed(2, 1, 1)), 0, api.ErrShort}, {yard(1, 3, bed(2, 0, 1), at(0)), 0, api.ErrShort},
		{yard(2, 3, bed(2, 0, 1), bed(1, 0, 2), bed(2, 0, 1)), 2, api.OK}, {yard(4, 3, bed(2, 0, 3), bed(1, 0, 4), bed(2, 0, 3)), 1, api.OK},
	} {
		if n, e := clean.Fewest(x.y); n != x.want || e != x.e {
			t.Errorf("Fewest of %v: %d, %v", x.y, n, e)
		}
	}
}

func TestP4_3_FewestAgreesWithTheDefinition(t *testing.T) {
	seen := map[int]int{}
	for _, y := range yards(1500, 13) {
		want, e := 0, api.ErrShort
		for hands := 3; hands >= 1; hands-- {
			if len(schedules(withHands(y, hands))) > 0 {
				want, e = hands, api.OK
			}
		}
		seen[want]++
		if n, f := clean.Fewest(y); n != want || f != e {
			t.Fatalf("Fewest of %v: %d, %v, not %d, %v", y, n, f, want, e)
		}
	}
	for n := range 4 {
		if seen[n] < 10 {
			t.Errorf("not enough of each kind: %v", seen)
		}
	}
}

func TestP4_4_ProofOfTheChapter(t *testing.T) {
	if l, e := clean.Proof(withHands(ofChapter(), 1)); !slices.Equal(l, list(1, 2, 3)) || e != api.OK {
		t.Errorf("Proof with 1 hand: %v, %v", l, e)
	}
	for _, y := range []clean.Yard{ofChapter(), ofChapter(first()), withHands(ofChapter(), 3)} {
		if l, e := clean.Proof(y); len(l) > 0 || e != api.ErrNone {
			t.Errorf("Proof of %v: %v, %v", y, l, e)
		}
	}
}

func TestP4_4_BedsOfAProofKeepTheirNumbers(t *testing.T) {
	// The beds 0 and 2 would be neighbours without the bed 1; they are none.
	y := yard(1, 2, bed(1, 0, 0), bed(1, 0, 1), bed(1, 0, 0), bed(1, 1, 1))
	if clean.Prove(y, list(0, 2)) || !clean.ProveSchedule(y, list(0, 1, 0, 1)) {
		t.Error("the beds 0 and 2 are taken for neighbours")
	}
	y.Beds[3] = bed(1, 0, 0)
	if l, e := clean.Proof(y); !slices.Equal(l, list(2, 3)) || e != api.OK {
		t.Errorf("Proof: %v, %v", l, e)
	}
}

func TestP4_4_ProofOfSeveral(t *testing.T) {
	late := bed(2, 4, 4)
	at := bed(1, 0, 0)
	for _, x := range []struct {
		y    clean.Yard
		want []int
	}{
		{yard(4, 3, at, at, late), list(2)}, {yard(4, 3, late, late), list(0)}, {yard(4, 3, bed(1, 0, 4), late, at, late), list(1)},
		{yard(4, 1, at, bed(1, 1, 1), at, at), list(0, 2)}, {yard(4, 3, at, bed(1, 1, 1), at, at), list(2, 3)}, {yard(4, 3, at, at, at), list(0, 1)},
		{yard(4, 2, at, bed(1, 1, 1), at, bed(1, 1, 1), at), list(0, 2, 4)}, {yard(1, 1, bed(1, 0, 1), bed(1, 1, 1), bed(1, 0, 1), at), list(0, 1, 2)},
	} {
		if l, e := clean.Proof(x.y); !slices.Equal(l, x.want) || e != api.OK {
			t.Errorf("Proof of %v: %v, %v, not %v", x.y, l, e, x.want)
		}
	}
}

func TestP4_4_ProveOfListsThatAreNone(t *testing.T) {
	y := withHands(ofChapter(), 1)
	for _, x := range []struct {
		l    []int
		want bool
	}{
		{list(1, 2, 3), true}, {list(0, 1, 2, 3), true}, {list(0, 1, 2), false}, {list(2, 3), false}, {nil, false}, {list(), false},
		{list(3, 2, 1), false}, {list(1, 3, 2), false}, {list(1, 2, 3, 3), false}, {list(1, 1, 2, 3), false}, {list(1, 2, 3, 4), false}, {list(-1, 1, 2, 3), false}, {list(0, 0, 1, 1, 2, 2, 3, 3), false},
	} {
		if clean.Prove(y, x.l) != x.want {
			t.Errorf("Prove of %v is not %v", x.l, x.want)
		}
	}
	if clean.Prove(clean.Yard{}, nil) || clean.Prove(yard(0, 4, bed(1, 0, 0), bed(1, 0, 0)), list(0, 1)) {
		t.Error("proved of a yard that is not valid")
	}
	// Claims are not asked.
	if clean.Prove(ofChapter(first()), list(0, 1, 2, 3)) || !clean.Prove(withHands(ofChapter(second()), 1), list(1, 2, 3)) {
		t.Error("claims count for a proof")
	}
}

func TestP4_4_ProofAndProveAgreeWithTheDefinitions(t *testing.T) {
	seen := map[int]int{}
	for _, y := range yards(1000, 14) {
		var want []int
		e := api.ErrNone
		for _, l := range allLists(len(y.Beds)) {
			is := isProof(y, l)
			if clean.Prove(y, l) != is {
				t.Fatalf("Prove of %v, %v is not %v", y, l, is)
			}
			if is && e != api.OK {
				want, e = l, api.OK
			}
		}
		seen[len(want)]++
		if l, f := clean.Proof(y); !slices.Equal(l, want) || f != e {
			t.Fatalf("Proof of %v: %v, %v, not %v, %v", y, l, f, want, e)
		}
	}
	for n := range 4 {
		if seen[n] < 10 {
			t.Errorf("not enough proofs of each length: %v", seen)
		}
	}
}

func TestP4_5_FirstAndLeaveOfTheChapter(t *testing.T) {
	y := ofChapter(first(), second())
	if n, e := clean.First(y); n != 0 || e != api.OK {
		t.Errorf("First: %d, %v", n, e)
	}
	if l, e := clean.Leave(y); !slices.Equal(l, list(0)) || e != api.OK {
		t.Errorf("Leave: %v, %v", l, e)
	}
}

func TestP4_5_NothingIsLeftOutOfAScheduleOfTheYard(t *testing.T) {
	for _, y := range []clean.Yard{ofChapter(), ofChapter(second()), ofChapter(second(), second(), second(), second(), second()), ofChapter(claim(0, 0, 5), claim(3, 4, 4), second())} {
		if n, e := clean.First(y); n != 0 || e != api.ErrNone {
			t.Errorf("First of %v: %d, %v", y, n, e)
		}
		if l, e := clean.Leave(y); len(l) > 0 || e != api.OK {
			t.Errorf("Leave of %v: %v, %v", y, l, e)
		}
	}
}

func TestP4_5_FirstOfSeveralSmallestSets(t *testing.T) {
	other := claim(0, 1, 1)
	for _, x := range []struct {
		claims []clean.Claim
		first  int
		leave  []int
	}{
		{[]clean.Claim{second(), first()}, 1, list(1)}, {[]clean.Claim{second(), other}, 1, list(0)}, {[]clean.Claim{other, second()}, 1, list(0)},
		{[]clean.Claim{second(), other, claim(0, 1, 2)}, 1, list(0)}, {[]clean.Claim{second(), other, second()}, 1, list(1)},
		{[]clean.Claim{second(), claim(3, 3, 3), other, claim(3, 4, 4)}, 2, list(0, 1)}, {[]clean.Claim{claim(3, 5, 5), claim(2, 0, 1), claim(1, 3, 3)}, 0, list(0, 1)},
		{[]clean.Claim{claim(1, 3, 3), second(), claim(2, 3, 5), claim(0, 0, 1), first()}, 2, list(2, 4)}, {[]clean.Claim{first(), first(), first(), first(), first()}, 0, list(0, 1, 2, 3, 4)},
	} {
		y := ofChapter(x.claims...)
		n, e := clean.First(y)
		l, f := clean.Leave(y)
		if n != x.first || e != api.OK || !slices.Equal(l, x.leave) || f != api.OK {
			t.Errorf("First, Leave of %v: %d, %v; %v, %v", y, n, e, l, f)
		}
	}
}

func TestP4_5_ClaimsThatAreRightAloneMayBeWrongTogether(t *testing.T) {
	// Each bed can begin first, but not both.
	y := yard(5, 2, bed(2, 0, 4), bed(3, 1, 2))
	y.Claims = []clean.Claim{claim(0, 0, 3), claim(1, 1, 1)}
	n, e := clean.First(y)
	l, f := clean.Leave(y)
	if n != 1 || e != api.OK || !slices.Equal(l, list(0)) || f != api.OK {
		t.Errorf("First, Leave: %d, %v; %v, %v", n, e, l, f)
	}
}

func TestP4_5_FirstAndLeaveAgreeWithTheDefinitions(t *testing.T) {
	firsts, lengths := map[int]int{}, map[int]int{}
	for _, y := range goodYards(800, 15) {
		want, e := 0, api.ErrNone
		for n := len(y.Claims) - 1; n >= 0; n-- {
			with := copied(y)
			with.Claims = y.Claims[:n+1]
			if len(own(with)) == 0 {
				want, e = n, api.OK
			}
		}
		if e == api.OK {
			firsts[want]++
		}
		if n, f := clean.First(y); n != want || f != e {
			t.Fatalf("First of %v: %d, %v, not %d, %v", y, n, f, want, e)
		}
		var out []int
		for _, l := range allLists(len(y.Claims)) {
			if len(schedulesBut(y, l)) > 0 {
				out = l
				break
			}
		}
		lengths[len(out)]++
		if l, f := clean.Leave(y); !slices.Equal(l, out) || f != api.OK {
			t.Fatalf("Leave of %v: %v, %v, not %v", y, l, f, out)
		}
	}
	for n := range 4 {
		if firsts[n] < 10 || lengths[n] < 10 {
			t.Errorf("not enough of each kind: %v, %v", firsts, lengths)
		}
	}
}
