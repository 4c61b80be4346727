package tally

import "aguador/api"

// asked is what a call is told: tallies, and a kind, rates, or where the first one is cut.
type asked struct {
	tallies  []api.Tally
	kind     int
	rates    api.Rates
	at, foil int
}

// question is what must hold before a call answers, and the error if it does not.
type question struct {
	holds func(x asked) bool
	err   api.Errno
}

// What a tally can be asked, in the order in which the chapter names the errors.
const (
	askMany = iota
	askTallies
	askRates
	askKind
	askStock
	askFoil
	askRoom
	askCount
)

func questions() [askCount]question {
	return [...]question{
		askMany:    {func(x asked) bool { return len(x.tallies) <= api.MaxTallies }, api.ErrArg},
		askTallies: {func(x asked) bool { return areValid(x.tallies) }, api.ErrTally},
		askRates:   {func(x asked) bool { return validRates(x.rates) }, api.ErrRates},
		askKind:    {func(x asked) bool { return areKinds(x.kind) }, api.ErrNotch},
		askStock:   {func(x asked) bool { return within(span(0, len(x.tallies[0].Stock)), x.at) }, api.ErrCut},
		askFoil:    {func(x asked) bool { return within(span(0, len(x.tallies[0].Foil)), x.foil) }, api.ErrCut},
		askRoom:    {func(x asked) bool { return isRoom(x.tallies) }, api.ErrFull},
	}
}

// isRoom reports whether the notches of all tallies have room on one, in both halves.
func isRoom(l []api.Tally) bool {
	stock, foil := 0, 0
	for _, x := range l {
		stock += len(x.Stock)
		foil += len(x.Foil)
	}
	return max(stock, foil) <= api.MaxNotches
}

// beginAll returns the pairs at work, or the first error of the questions that a call asks; whether the tallies are few and valid is always asked first, because the other questions rely on it.
func beginAll(x asked, more ...int) ([]pair, api.Errno) {
	all := questions()
	for _, i := range append([]int{askMany, askTallies}, more...) {
		if q := all[i]; !q.holds(x) {
			return nil, q.err
		}
	}
	var l []pair
	for _, t := range x.tallies {
		l = append(l, paired(t))
	}
	return l, api.OK
}

// begin does the same for a single tally.
func begin(t api.Tally, x asked, more ...int) (pair, api.Errno) {
	x.tallies = []api.Tally{t}
	l, e := beginAll(x, more...)
	if e != api.OK {
		return pair{}, e
	}
	return l[0], api.OK
}
