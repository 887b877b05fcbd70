package bed

import "watercress/api"

// within reports whether the range is one, from low to high.
func (r Range) within(low, high int) bool {
	return low <= r.Lo && r.Lo <= r.Hi && r.Hi <= high
}

func (r Range) has(n int) bool { return r.Lo <= n && n <= r.Hi }

func (r Range) size() int { return r.Hi - r.Lo + 1 }

func isNotch(n int) bool { return 0 <= n && n <= api.MaxBedNotch }

func (f Farm) hasBed(n int) bool { return 0 <= n && n < len(f.Beds) }

func (f Farm) tooLong() bool {
	return len(f.Beds) > api.MaxBedBeds || len(f.Springs) > api.MaxBedSprings || len(f.Looks) > api.MaxBedLooks
}

// valid asks about all of the farm but its numbers of elements and of truths.
func (f Farm) valid() bool {
	return len(f.Beds) > 0 && each(f.Beds, f.validBed) && each(f.Springs, f.validSpring) && each(f.Looks, f.validLook)
}

func (f Farm) validBed(i int, b Bed) bool {
	return isNotch(b.Need) && isNotch(b.Notch) && (b.Down == -1 || b.Down > i && f.hasBed(b.Down))
}

func (f Farm) validSpring(_ int, s Spring) bool {
	return f.hasBed(s.Bed) && s.Flow.within(0, api.MaxBedFlow)
}

func (f Farm) validLook(_ int, l Look) bool {
	return f.hasBed(l.Bed) && l.Water.within(0, api.MaxBedWater)
}

// sizes returns the number of truths before any look.
func (f Farm) sizes() int {
	n := 1
	for _, s := range f.Springs {
		n *= s.Flow.size()
	}
	return n
}

// fits reports whether the list has one number of Flow for each spring.
func (f Farm) fits(flows []int) bool {
	return len(flows) == len(f.Springs) && each(flows, func(i, n int) bool { return f.Springs[i].Flow.has(n) })
}
