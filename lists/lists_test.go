package lists_test

import (
	"slices"
	"testing"

	"watercress/lists"
)

func TestEach(t *testing.T) {
	below := func(i, n int) bool { return i < n }
	for _, x := range []struct {
		list []int
		want bool
	}{{nil, true}, {[]int{}, true}, {[]int{1, 2}, true}, {[]int{0, 2}, false}, {[]int{1, 1}, false}} {
		if lists.Each(x.list, below) != x.want {
			t.Errorf("Each of %v is not %v", x.list, x.want)
		}
	}
	if !lists.Each([]string{"a"}, func(i int, s string) bool { return i == 0 && s == "a" }) {
		t.Error("Each of a list of strings")
	}
}

func TestLeast(t *testing.T) {
	if lists.Least(3) != 3 || lists.Least(3, 5, -2, 4) != -2 || lists.Least(-3, 5) != -3 {
		t.Error("Least is not the minimum")
	}
}

func TestRising(t *testing.T) {
	for _, x := range []struct {
		many int
		want [][]int
	}{
		{-1, nil},
		{0, [][]int{{}}},
		{1, [][]int{{}, {0}}},
		{3, [][]int{{}, {0}, {1}, {2}, {0, 1}, {0, 2}, {1, 2}, {0, 1, 2}}},
	} {
		if all := slices.Collect(lists.Rising(x.many)); !slices.EqualFunc(all, x.want, slices.Equal) {
			t.Errorf("Rising of %d: %v", x.many, all)
		}
	}
}

func TestRisingIsComplete(t *testing.T) {
	all := slices.Collect(lists.Rising(6))
	if len(all) != 64 {
		t.Fatalf("%d lists", len(all))
	}
	for i, l := range all {
		if i == 0 {
			continue
		}
		was := all[i-1]
		if len(l) < len(was) || len(l) == len(was) && slices.Compare(l, was) <= 0 {
			t.Errorf("%v after %v", l, was)
		}
		for j := 1; j < len(l); j++ {
			if l[j] <= l[j-1] || l[j] >= 6 {
				t.Errorf("%v does not rise", l)
			}
		}
	}
}

func TestRisingMayBeLeft(t *testing.T) {
	many := 0
	for l := range lists.Rising(5) {
		many++
		if slices.Equal(l, []int{1, 3}) {
			break
		}
	}
	if many != 12 {
		t.Errorf("left after %d lists", many)
	}
}

func TestRisingListsAreInMemoryOfTheirOwn(t *testing.T) {
	for l := range lists.Rising(4) {
		for i := range l {
			l[i] = 99
		}
	}
	all := slices.Collect(lists.Rising(3))
	all[4][1] = 99
	if !slices.Equal(all[7], []int{0, 1, 2}) || !slices.Equal(all[5], []int{0, 2}) {
		t.Errorf("the lists share memory: %v", all)
	}
}
