package warm_test

import (
	"math/rand"
	"slices"
	"testing"

	"watercress/api"
	"watercress/warm"
)

func play(t *testing.T, s warm.Stream, tr warm.Truth) [][]int {
	t.Helper()
	l, e := warm.Play(s, tr)
	if e != api.OK || len(l) != len(s.Air) {
		t.Fatalf("Play of %v, %v: %v, %v", s, tr, l, e)
	}
	for _, row := range l {
		if len(row) != len(s.Depths) {
			t.Fatalf("Play of %v, %v: %v", s, tr, l)
		}
	}
	return l
}

func noneWider(inner, outer [][]warm.Range) bool {
	return slices.EqualFunc(inner, outer, func(a, b []warm.Range) bool {
		return slices.EqualFunc(a, b, func(x, y warm.Range) bool { return y.Lo <= x.Lo && x.Hi <= y.Hi })
	})
}

func allIn(inner, outer []int) bool {
	for _, n := range inner {
		if !slices.Contains(outer, n) {
			return false
		}
	}
	return true
}

// comesIn is the warmth of the water that comes into the bed, with the warmths of the hour.
func comesIn(tr warm.Truth, row []int, n int) int {
	if n == 0 {
		return tr.Spring
	}
	return row[n-1]
}

func between(n, a, b int) bool { return min(a, b) <= n && n <= max(a, b) }

func far(a, b int) int { return max(a-b, b-a) }

func TestP2_5_InEachTruth(t *testing.T) {
	for _, s := range streams(150, 15) {
		b, e := warm.Bounds(s)
		if e != api.OK {
			continue
		}
		springs, _ := warm.Springs(s)
		reached := map[[3]int]bool{} // by hour, bed and end
		for _, tr := range choices(s) {
			if !warm.ProveTruth(s, tr) {
				continue
			}
			if !slices.Contains(springs, tr.Spring) {
				t.Fatalf("Springs of %v: %v, without that of %v", s, springs, tr)
			}
			for hour, row := range play(t, s, tr) {
				for n, w := range row {
					if !has(b[hour][n], w) {
						t.Fatalf("Bounds of %v: %v of %v is not in %v", s, row, tr, b[hour])
					}
					reached[[3]int{hour, n, 0}] = reached[[3]int{hour, n, 0}] || w == b[hour][n].Lo
					reached[[3]int{hour, n, 1}] = reached[[3]int{hour, n, 1}] || w == b[hour][n].Hi
					if v, _ := warm.Frozen(s, n, hour); v == warm.Always && w > 0 || v == warm.Never && w <= 0 {
						t.Fatalf("Frozen of %v, %d, %d: %d, but it has %d", s, n, hour, v, w)
					}
				}
			}
		}
		for at, is := range reached {
			if !is {
				t.Fatalf("Bounds of %v: the end %v of %v is not reached", s, at, b)
			}
		}
		if l, e := warm.Leave(s); len(l) > 0 || e != api.OK {
			t.Fatalf("Leave of %v, which has a truth: %v, %v", s, l, e)
		}
	}
}

func TestP2_6_Warmer(t *testing.T) {
	for _, s := range streams(80, 16) {
		for _, tr := range choices(s) {
			was := play(t, s, tr)
			for i := -1; i < len(s.Air); i++ {
				warmer := warm.Truth{Spring: tr.Spring, Air: slices.Clone(tr.Air)}
				if i < 0 {
					warmer.Spring++
				} else {
					warmer.Air[i]++
				}
				if e := warm.CheckStream(s); e != api.OK || !fitsIn(s, warmer) {
					continue
				}
				for hour, row := range play(t, s, warmer) {
					for n, w := range row {
						if w < was[hour][n] {
							t.Fatalf("Play of %v, %v: %v, and %v of %v, which is warmer", s, tr, was, row, warmer)
						}
					}
				}
			}
		}
	}
}

func fitsIn(s warm.Stream, tr warm.Truth) bool {
	ok := has(s.Spring, tr.Spring)
	for i, r := range s.Air {
		ok = ok && has(r, tr.Air[i])
	}
	return ok
}

func TestP2_6_ByALongWay(t *testing.T) {
	r := rand.New(rand.NewSource(26))
	for range 3000 {
		rate, depth := r.Intn(101), 1+r.Intn(6)
		spring, air := r.Intn(601)-300, r.Intn(601)-300
		for i := range 2 {
			warmerSpring, warmerAir := spring, air
			if i == 0 {
				warmerSpring = min(300, spring+r.Intn(30))
			} else {
				warmerAir = min(300, air+r.Intn(30))
			}
			s := one(depth, to(spring, spring), to(air, air))
			g := one(depth, to(warmerSpring, warmerSpring), to(warmerAir, warmerAir))
			s.Rate, g.Rate = rate, rate
			was, is := play(t, s, truth(spring, air)), play(t, g, truth(warmerSpring, warmerAir))
			if is[0][0] < was[0][0] {
				t.Fatalf("Play of %v: %v; of %v, which is warmer: %v", s, was, g, is)
			}
		}
	}
}

func TestP2_7_Between(t *testing.T) {
	for _, s := range streams(100, 17) {
		for _, tr := range choices(s) {
			for hour, row := range play(t, s, tr) {
				for n, w := range row {
					if in := comesIn(tr, row, n); !between(w, in, tr.Air[hour]) {
						t.Fatalf("Play of %v, %v: the bed %d has %d from %d", s, tr, n, w, in)
					}
				}
			}
		}
	}
}

func TestP2_7_NothingFreezesAbove0(t *testing.T) {
	for _, s := range streams(150, 27) {
		s.Readings = nil
		s.Spring = to(1, 1+s.Spring.Hi-s.Spring.Lo)
		for i, r := range s.Air {
			s.Air[i] = to(1, 1+r.Hi-r.Lo)
		}
		for n := range s.Depths {
			for hour := range s.Air {
				if v, e := warm.Frozen(s, n, hour); v != warm.Never || e != api.OK {
					t.Fatalf("Frozen of %v, %d, %d: %d, %v", s, n, hour, v, e)
				}
			}
			if depth, e := warm.Keep(s, n); depth != 1 || e != api.OK {
				t.Fatalf("Keep of %v, %d: %d, %v", s, n, depth, e)
			}
		}
	}
}

func TestP2_8_Deeper(t *testing.T) {
	for _, s := range streams(100, 18) {
		for n, depth := range s.Depths {
			if depth == api.MaxWarmDepth {
				continue
			}
			g := copied(s)
			g.Depths[n]++
			for _, tr := range choices(s) {
				was, is := play(t, s, tr), play(t, g, tr)
				for hour, row := range is {
					if in := comesIn(tr, row, n); in != comesIn(tr, was[hour], n) || far(row[n], in) > far(was[hour][n], in) {
						t.Fatalf("Play of %v, %v: %v, and %v with a deeper bed %d", s, tr, was[hour], row, n)
					}
				}
			}
		}
	}
}

func TestP2_8_ASmallerRate(t *testing.T) {
	for _, s := range streams(100, 28) {
		g := copied(s)
		g.Rate = s.Rate / 2
		none := copied(s)
		none.Rate = 0
		for _, tr := range choices(s) {
			was, is := play(t, s, tr), play(t, g, tr)
			for hour, row := range play(t, none, tr) {
				if far(is[hour][0], tr.Spring) > far(was[hour][0], tr.Spring) {
					t.Fatalf("Play of %v, %v: %v, and %v with a smaller Rate", s, tr, was[hour], is[hour])
				}
				for _, w := range row {
					if w != tr.Spring {
						t.Fatalf("Play of %v, %v: %v with the Rate 0", s, tr, row)
					}
				}
			}
		}
	}
}

func TestP2_9_OneMoreReading(t *testing.T) {
	for _, s := range streams(300, 19) {
		if len(s.Readings) == 0 {
			continue
		}
		g := copied(s)
		g.Readings = g.Readings[:len(g.Readings)-1]
		few, _ := warm.Leave(g)
		more, _ := warm.Leave(s)
		if len(more) < len(few) || len(more) > len(few)+1 {
			t.Fatalf("Leave of %v: %v, and %v without the last reading", s, more, few)
		}
		narrow, e := warm.Bounds(s)
		if e != api.OK {
			continue
		}
		wide, f := warm.Bounds(g)
		if f != api.OK || !noneWider(narrow, wide) {
			t.Fatalf("Bounds of %v: %v, and %v without the last reading", s, narrow, wide)
		}
		now, _ := warm.Springs(s)
		if was, _ := warm.Springs(g); !allIn(now, was) {
			t.Fatalf("Springs of %v: %v, and %v without the last reading", s, now, was)
		}
		for n := range s.Depths {
			for hour := range s.Air {
				was, _ := warm.Frozen(g, n, hour)
				if is, _ := warm.Frozen(s, n, hour); was != warm.Perhaps && is != was {
					t.Fatalf("Frozen of %v, %d, %d: %d, and %d without the last reading", s, n, hour, is, was)
				}
			}
		}
	}
}

// widened are streams with one range that is wider by 1, or one Error that is greater by 1.
func widened(s warm.Stream) []warm.Stream {
	var all []warm.Stream
	add := func(change func(g *warm.Stream)) {
		g := copied(s)
		change(&g)
		if warm.CheckStream(g) == api.OK {
			all = append(all, g)
		}
	}
	add(func(g *warm.Stream) { g.Spring.Lo-- })
	add(func(g *warm.Stream) { g.Spring.Hi++ })
	for i := range s.Air {
		add(func(g *warm.Stream) { g.Air[i].Lo-- })
		add(func(g *warm.Stream) { g.Air[i].Hi++ })
	}
	for i := range s.Readings {
		add(func(g *warm.Stream) { g.Readings[i].Error++ })
	}
	return all
}

func TestP2_10_Wider(t *testing.T) {
	for _, s := range streams(150, 20) {
		narrow, e := warm.Bounds(s)
		springs, _ := warm.Springs(s)
		left, _ := warm.Leave(s)
		for _, g := range widened(s) {
			wide, f := warm.Bounds(g)
			if e == api.OK && (f != api.OK || !noneWider(narrow, wide)) {
				t.Fatalf("Bounds of %v: %v; of %v: %v, %v", s, narrow, g, wide, f)
			}
			if l, _ := warm.Springs(g); !allIn(springs, l) {
				t.Fatalf("Springs of %v: %v; of %v: %v", s, springs, g, l)
			}
			if l, _ := warm.Leave(g); len(l) > len(left) {
				t.Fatalf("Leave of %v: %v; of %v: %v", s, left, g, l)
			}
		}
	}
}

func TestP2_11_First(t *testing.T) {
	wrong, late := 0, 0
	for _, s := range streams(300, 21) {
		n, e := warm.First(s)
		if len(truths(s)) > 0 {
			if n != 0 || e != api.ErrNone {
				t.Fatalf("First of %v, which has a truth: %d, %v", s, n, e)
			}
			continue
		}
		wrong++
		if e != api.OK || n < 0 || n >= len(s.Readings) {
			t.Fatalf("First of %v: %d, %v", s, n, e)
		}
		if n > 1 {
			late++
		}
		before, with := copied(s), copied(s)
		before.Readings, with.Readings = s.Readings[:n], s.Readings[:n+1]
		if len(truths(before)) == 0 || len(truths(with)) > 0 {
			t.Fatalf("First of %v: %d", s, n)
		}
		if _, e := warm.Bounds(before); e != api.OK {
			t.Fatalf("Bounds of %v with the readings before the first wrong one: %v", s, e)
		}
		if _, e := warm.Bounds(with); e != api.ErrFail {
			t.Fatalf("Bounds of %v with the first wrong reading: %v", s, e)
		}
	}
	if wrong < 50 || late < 20 {
		t.Errorf("only %d streams have a wrong reading, in %d a late one", wrong, late)
	}
}

func TestP2_12_LeftOut(t *testing.T) {
	several := 0
	for _, s := range streams(300, 22) {
		l, e := warm.Leave(s)
		if e != api.OK {
			t.Fatalf("Leave of %v: %v", s, e)
		}
		for _, shorter := range allLists(len(s.Readings)) {
			if slices.Equal(shorter, l) {
				break
			}
			if _, e := warm.Bounds(without(s, shorter)); e != api.ErrFail || len(truthsBut(s, shorter)) > 0 {
				t.Fatalf("Leave of %v: %v, but it has a truth without %v", s, l, shorter)
			}
		}
		if _, e := warm.Bounds(without(s, l)); e != api.OK || len(truthsBut(s, l)) == 0 {
			t.Fatalf("Leave of %v: %v, but it has no truth without these", s, l)
		}
		if len(l) > 1 {
			several++
		}
	}
	if several < 20 {
		t.Errorf("in only %d streams several readings have to be left out", several)
	}
}

func TestP2_13_Kept(t *testing.T) {
	seen := map[int]int{}
	for _, s := range streams(250, 23) {
		for n := range s.Depths {
			want := 0
			for depth := api.MaxWarmDepth; depth > 0; depth-- {
				if keeps(s, n, depth) {
					want = depth
				}
			}
			seen[want]++
			depth, e := warm.Keep(s, n)
			if depth != want || want > 0 && e != api.OK || want == 0 && e != api.ErrShort {
				t.Fatalf("Keep of %v, %d: %d, %v, not %d", s, n, depth, e, want)
			}
			if want == 0 {
				continue
			}
			g := copied(s)
			g.Depths[n], g.Readings = depth, nil
			for hour := range g.Air {
				if v, e := warm.Frozen(g, n, hour); v != warm.Never || e != api.OK {
					t.Fatalf("Frozen of %v, %d, %d: %d, %v", g, n, hour, v, e)
				}
			}
		}
	}
	for _, depth := range []int{0, 1, 2, 3} {
		if seen[depth] < 5 {
			t.Errorf("only %d beds are kept by the depth %d", seen[depth], depth)
		}
	}
}

func TestP2_13_ADepthMayBeTooGreat(t *testing.T) {
	// The spring is frozen, and the air thaws it only where it is shallow.
	s := one(6, to(-10, -10), to(30, 30))
	if v, e := warm.Frozen(s, 0, 0); v != warm.Always || e != api.OK {
		t.Errorf("Frozen: %d, %v", v, e)
	}
	if n, e := warm.Keep(s, 0); n != 1 || e != api.OK {
		t.Errorf("Keep: %d, %v", n, e)
	}
}

func TestP2_14_HourByHour(t *testing.T) {
	r := rand.New(rand.NewSource(34))
	for _, s := range streams(150, 24) {
		s.Readings = nil
		was, e := warm.Bounds(s)
		for hour := range s.Air {
			g := copied(s)
			for i := range g.Air {
				if i != hour {
					low := r.Intn(500) - 250
					g.Air[i] = to(low, low+r.Intn(21))
				}
			}
			if is, f := warm.Bounds(g); e != api.OK || f != api.OK || !slices.Equal(is[hour], was[hour]) {
				t.Fatalf("Bounds of %v, %d: %v, and %v with the airs %v", s, hour, was, is, g.Air)
			}
		}
	}
}

func TestP2_15_Mirror(t *testing.T) {
	mirrored := func(r warm.Range) warm.Range { return to(-r.Hi, -r.Lo) }
	for _, s := range streams(300, 25) {
		g := copied(s)
		g.Spring = mirrored(s.Spring)
		for i, r := range s.Air {
			g.Air[i] = mirrored(r)
		}
		for i := range g.Readings {
			g.Readings[i].Seen *= -1
		}
		was, e := warm.Bounds(s)
		is, f := warm.Bounds(g)
		for _, row := range is {
			for i := range row {
				row[i] = mirrored(row[i])
			}
		}
		if !sameRows(was, is) || e != f {
			t.Fatalf("Bounds of %v: %v, %v; mirrored twice: %v, %v", s, was, e, is, f)
		}
		out, _ := warm.Leave(s)
		if l, e := warm.Leave(g); !slices.Equal(l, out) || e != api.OK {
			t.Fatalf("Leave of %v: %v; mirrored: %v, %v", s, out, l, e)
		}
	}
}

func TestP7_AnyOrderOfReadings(t *testing.T) {
	r := rand.New(rand.NewSource(37))
	for _, s := range streams(200, 37) {
		g := copied(s)
		r.Shuffle(len(g.Readings), func(i, j int) { g.Readings[i], g.Readings[j] = g.Readings[j], g.Readings[i] })
		was, e := warm.Bounds(s)
		is, f := warm.Bounds(g)
		if !sameRows(was, is) || e != f {
			t.Fatalf("Bounds of %v: %v, %v; in another order: %v, %v", s, was, e, is, f)
		}
		springs, _ := warm.Springs(s)
		if l, _ := warm.Springs(g); !slices.Equal(l, springs) {
			t.Fatalf("Springs of %v: %v; in another order: %v", s, springs, l)
		}
		out, _ := warm.Leave(s)
		if l, _ := warm.Leave(g); len(l) != len(out) {
			t.Fatalf("Leave of %v: %v; in another order: %v", s, out, l)
		}
	}
}
