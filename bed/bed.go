// Package bed is layer 1: the water of cress beds, fed by springs through boards (see doc/01-bed.md).
package bed

import (
	"slices"

	"watercress/api"
)

// Range has all whole numbers from Lo to Hi.
type Range struct{ Lo, Hi int }

// Spring feeds a bed with a flow that is known within a range.
type Spring struct {
	Bed  int
	Flow Range
}

// Bed needs some water, keeps as much as the notch of its board allows, and lets the rest go to the bed Down, or off the farm if Down is -1.
type Bed struct{ Need, Notch, Down int }

// Look reports what a bed keeps, or what goes on from it.
type Look struct {
	Bed   int
	Over  bool
	Water Range
}

// Farm has beds, springs that feed them, and looks at them.
type Farm struct {
	Springs []Spring
	Beds    []Bed
	Looks   []Look
}

// Flow is the water of a bed in a truth.
type Flow struct{ In, Kept, Over int }

// Bound is the water of a bed in all truths of the farm.
type Bound struct{ In, Kept, Over Range }

// Whether a bed is fed.
const (
	Always  = 1
	Never   = 2
	Perhaps = 3
)

// CheckFarm returns the error of the farm, or OK.
func CheckFarm(f Farm) api.Errno {
	switch {
	case f.tooLong():
		return api.ErrLimit
	case !f.valid():
		return api.ErrArg
	case f.sizes() > api.MaxBedTruths:
		return api.ErrLimit
	}
	return api.OK
}

// Play returns the water of each bed in the truth, whatever the looks say.
func Play(f Farm, flows []int) ([]Flow, api.Errno) {
	if e := CheckFarm(f); e != api.OK {
		return nil, e
	}
	if !f.fits(flows) {
		return nil, api.ErrRange
	}
	all := start(f).play(flows)
	return slices.Clone(all[:len(f.Beds)]), api.OK
}

// Bounds returns for each bed the bounds of its water in all truths of the farm.
func Bounds(f Farm) ([]Bound, api.Errno) {
	w, e := open(f, true)
	if e != api.OK {
		return nil, e
	}
	in, kept, over := quantity{Flow.in}, quantity{Flow.kept}, quantity{Flow.over}
	var bounds []Bound
	for bed := range len(f.Beds) {
		had := w.had(bed)
		bounds = append(bounds, Bound{In: in.bounds(had), Kept: kept.bounds(had), Over: over.bounds(had)})
	}
	return bounds, api.OK
}

// Fed returns whether the bed is fed Always, Never or Perhaps.
func Fed(f Farm, bed int) (int, api.Errno) {
	w, e := open(f, f.hasBed(bed))
	if e != api.OK {
		return 0, e
	}
	fed, dry := false, false
	for flow := range w.had(bed) {
		if flow.Kept >= f.Beds[bed].Need {
			fed = true
		} else {
			dry = true
		}
	}
	switch {
	case !dry:
		return Always, api.OK
	case !fed:
		return Never, api.OK
	}
	return Perhaps, api.OK
}

// Fewest returns the fewest boards to be moved so that each bed is fed in each truth of the farm.
func Fewest(f Farm) ([]int, api.Errno) {
	w, e := open(f, true)
	if e != api.OK {
		return nil, e
	}
	for list := range lists(len(f.Beds)) {
		if w.moved(list).feedsAll() {
			return list, api.OK
		}
	}
	return nil, api.ErrShort
}

// Cut returns the first bed that is a cut in some truth of the farm, and such a truth: no boards suffice because of it.
func Cut(f Farm) (bed int, flows []int, e api.Errno) {
	w, e := open(f, true)
	if e != api.OK {
		return 0, nil, e
	}
	for n := range len(f.Beds) {
		short := func(flows []int) bool { return f.isCut(n, flows) }
		if i := slices.IndexFunc(w.truths, short); i >= 0 {
			return n, w.truths[i], api.OK
		}
	}
	return 0, nil, api.ErrNone
}

// Forgotten returns all beds that are fed always, but would not be if the board of the bed stood at this notch.
func Forgotten(f Farm, bed, notch int) ([]int, api.Errno) {
	w, e := open(f, f.hasBed(bed) && isNotch(notch))
	if e != api.OK {
		return nil, e
	}
	other := w.set(bed, notch)
	var dry [api.MaxBedBeds]bool
	for _, flows := range w.truths {
		now, then := w.play(flows), other.play(flows)
		if now == then {
			continue
		}
		for i := range len(f.Beds) {
			dry[i] = dry[i] || !f.isFed(then, i)
		}
	}
	var list []int
	for i := range len(f.Beds) {
		if dry[i] && w.feeds(i) {
			list = append(list, i)
		}
	}
	return list, api.OK
}

// First returns the first look that contradicts those before it.
func First(f Farm) (int, api.Errno) {
	if e := CheckFarm(f); e != api.OK {
		return 0, e
	}
	for n := range f.Looks {
		if !f.withLooks(n + 1).hasTruth() {
			return n, api.OK
		}
	}
	return 0, api.ErrNone
}

// Leave returns the smallest set of looks without which the farm has a truth.
func Leave(f Farm) ([]int, api.Errno) {
	if e := CheckFarm(f); e != api.OK {
		return nil, e
	}
	w := start(f)
	var smallest []int
search:
	for list := range lists(len(f.Looks)) {
		for flows := range f.choices() {
			if f.rightBut(list, w.play(flows)) {
				smallest = list
				break search
			}
		}
	}
	return smallest, api.OK
}

// ProveTruth reports whether the farm is valid and the flows are a truth of it.
func ProveTruth(f Farm, flows []int) bool {
	return CheckFarm(f) == api.OK && f.fits(flows) && f.rightBut(nil, start(f).play(flows))
}

// ProveCut reports whether the farm is valid, the flows are a truth of it, and the bed is a cut in it.
func ProveCut(f Farm, bed int, flows []int) bool {
	return ProveTruth(f, flows) && f.hasBed(bed) && f.isCut(bed, flows)
}
