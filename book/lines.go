package book

import (
	"slices"
	"strconv"
	"strings"

	"watercress/api"
	"watercress/bed"
	"watercress/bunch"
	"watercress/grow"
	"watercress/lists"
)

// word is how many numbers a word of a line has after it, and what it does with them.
type word struct {
	numbers int
	do      func(*draft, []int)
}

// words returns all words with which a line can begin.
func words() map[string]word {
	return map[string]word{
		"bed":     {2, (*draft).addBed},
		"board":   {2, (*draft).setNotch},
		"spring":  {3, (*draft).addSpring},
		"flow":    {3, (*draft).setFlow},
		"dry":     {1, (*draft).removeSpring},
		"look":    {4, (*draft).addLook},
		"strike":  {1, (*draft).removeLook},
		"last":    {3, (*draft).setLasts},
		"cut":     {2, (*draft).addCut},
		"spare":   {2, (*draft).removeCut},
		"woman":   {2, (*draft).addWoman},
		"feel":    {3, (*draft).setFeel},
		"lot":     {3, (*draft).addLot},
		"stems":   {3, (*draft).setStems},
		"drop":    {1, (*draft).removeLot},
		"count":   {4, (*draft).addCount},
		"void":    {1, (*draft).removeCount},
		"account": {4, (*draft).addAccount},
		"recall":  {1, (*draft).removeAccount},
	}
}

// number is a number as it is written in a line.
type number string

func (n number) valid() bool {
	return 1 <= len(n) && len(n) <= 5 && lists.Each([]byte(n), n.isDigit)
}

// isDigit reports whether this can be the digit with the index: a zero comes first only if it is all of the number.
func (n number) isDigit(i int, c byte) bool {
	return '0' <= c && c <= '9' && (i > 0 || c != '0' || len(n) == 1)
}

// draft is a state that is being changed by a line.
type draft struct{ State }

// must ends the line with the error, unless all conditions hold.
func must(e api.Errno, conditions ...bool) {
	if slices.Contains(conditions, false) {
		panic(e)
	}
}

// run executes the lines one after the other, and returns the state after them, with the error of each line.
func (s State) run(lines []string) (after State, errors []api.Errno) {
	for _, line := range lines {
		next, e := s.execute(line)
		s, errors = next, append(errors, e)
	}
	return s, errors
}

// execute returns the state after the line, or, with the error of the line, the state as it was.
func (s State) execute(line string) (after State, e api.Errno) {
	d := draft{s.clone()}
	defer func() {
		switch thrown := recover().(type) {
		case nil:
			after = d.State
		case api.Errno:
			after, e = s, thrown
		default:
			// Nothing else is thrown; if it were, the line would not be one that can be executed.
			after, e = s, api.ErrForm
		}
	}()
	d.change(line)
	d.stand()
	return
}

// change does what the line says.
func (d *draft) change(line string) {
	parts := strings.Split(line, " ")
	w, known := words()[parts[0]]
	must(api.ErrForm, known, len(parts) == w.numbers+1)
	var numbers []int
	for _, part := range parts[1:] {
		must(api.ErrForm, number(part).valid())
		n, _ := strconv.Atoi(part)
		numbers = append(numbers, n)
	}
	w.do(d, numbers)
}

// stand ends the line if the state after it does not stand. All that a line can write is valid for the layers, so that these have no other errors.
func (d *draft) stand() {
	_, e := bed.Bounds(d.Farm)
	must(api.ErrFalse, e == api.OK)
	must(api.ErrFail, grow.ProvePlan(d.season(), d.Cuts))
	must(api.ErrLimit, bunch.CheckDay(d.Day) == api.OK)
	_, e = bunch.Bounds(d.Day)
	must(api.ErrFalse, e == api.OK)
}
