package lists_test

import (
	"slices"
	"testing"

	"watercress/lists"
)

func TestEach(t *testing.T) {
	below := func(i, n int) bool { return i < n }
	for _, x := range []struct {
		list []int
		want bool
	}{{nil, true}, {[]int{}, true}, {[]int{1, 2}, true}, {[]int{0, 2}, false}, {[]int{1, 1}, false}} {
		if lists.Each(x.list, below) != x.want {
			t.Errorf("Each of %v is not %v", x.list, x.want)
		}
	}
	if !lists.Each([]string{"a"}, func(i int, s string) bool { return i == 0 && s == "a" }) {
		t.Error("Each of a list of strings")
	}
}

func TestLeast(t *testing.T) {
	if lists.Least(3) != 3 || lists.Least(3, 5, -2, 4) != -2 || lists.Least(-3, 5) != -3 {
		t.Error("Least is not the minimum")
	}
}

func TestRising(t *testing.T) {
	for _, x := range []struct {
		many int
		want [][]int
	}{
		{-1, nil},
		{0, [][]int{{}}},
		{1, [][]int{{}, {0}}},
		{3, [][]int{{}, {0}, {1}, {2}, {0, 1}, {0, 2}, {1, 2}, {0, 1, 2}}},
	} {
		if all := slices.Collect(lists.Rising(x.many)); !slices.EqualFunc(all, x.want, slices.Equal) {
			t.Errorf("Rising of %d: %v", x.many, all)
		}
	}
}

func TestRisingIsComplete(t *testing.T) {
	all := slices.Collect(lists.Rising(6))
	if len(all) != 64 {
		t.Fatalf("%d lists", len(all))
	}
	for i, l := range all {
		if i == 0 {
			continue
		}
		was := all[i-1]
		if len(l) < len(was) || len(l) == len(was) && slices.Compare(l, was) <= 0 {
			t.Errorf("%v after %v", l, was)
		}
		for j := 1; j < len(l); j++ {
			if l[j] <= l[j-1] || l[j] >= 6 {
				t.Errorf("%v does not rise", l)
			}
		}
	}
}

func TestRisingMayBeLeft(t *testing.T) {
	many := 0
	for l := range lists.Rising(5) {
		many++
		if slices.Equal(l, []int{1, 3}) {
			break
		}
	}
	if many != 12 {
		t.Errorf("left after %d lists", many)
	}
}

func TestRisingListsAreInMemoryOfTheirOwn(t *testing.T) {
	for l := range lists.Rising(4) {
		for i := range l {
			l[i] = 99
		}
	}
	all := slices.Collect(lists.Rising(3))
	all[4][1] = 99
	if !slices.Equal(all[7], []int{0, 1, 2}) || !slices.Equal(all[5], []int{0, 2}) {
		t.Errorf("the lists share memory: %v", all)
	}
}

// span is a range of some layer.
type span struct{ low, high int }

func (s span) limits() (int, int) { return s.low, s.high }

func TestChoices(t *testing.T) {
	for _, x := range []struct {
		ranges []span
		want   [][]int
	}{
		{nil, [][]int{{}}},
		{[]span{{5, 5}}, [][]int{{5}}},
		{[]span{{-1, 1}}, [][]int{{-1}, {0}, {1}}},
		{[]span{{1, 2}, {7, 7}, {3, 5}}, [][]int{{1, 7, 3}, {1, 7, 4}, {1, 7, 5}, {2, 7, 3}, {2, 7, 4}, {2, 7, 5}}},
		{[]span{{1, 2}, {4, 3}}, nil},
	} {
		if all := slices.Collect(lists.Choices(x.ranges, span.limits)); !slices.EqualFunc(all, x.want, slices.Equal) {
			t.Errorf("Choices of %v: %v", x.ranges, all)
		}
	}
}

func TestChoicesMayBeLeft(t *testing.T) {
	many := 0
	for l := range lists.Choices([]span{{0, 9}, {0, 9}, {0, 9}}, span.limits) {
		many++
		if slices.Equal(l, []int{1, 2, 3}) {
			break
		}
	}
	if many != 124 {
		t.Errorf("left after %d lists", many)
	}
}

func TestChoicesAreInMemoryOfTheirOwn(t *testing.T) {
	ranges := []span{{0, 1}, {0, 1}}
	for l := range lists.Choices(ranges, span.limits) {
		l[0] = 99
	}
	all := slices.Collect(lists.Choices(ranges, span.limits))
	all[0][0] = 99
	if !slices.Equal(all[1], []int{0, 1}) || !slices.Equal(ranges, []span{{0, 1}, {0, 1}}) {
		t.Errorf("the lists share memory: %v", all)
	}
}
