package town

import "aguador/api"

// asked is what a call is told beside the supply: Ids of a fountain and of a street among it.
type asked struct {
	week, fount, street int
	shares              []int
	jars                []api.Jar
}

// question is what must hold before a call answers, and the error if it does not.
type question struct {
	holds func(w well, x asked) bool
	err   api.Errno
}

// What a supply can be asked, in the order in which the chapter names the errors.
const (
	askSupply = iota
	askWeek
	askShares
	askFount
	askStreet
	askTruth
	askJars
	askRoom
	askCount
)

func questions() [askCount]question {
	return [...]question{
		askSupply: {func(w well, _ asked) bool { return valid(w.Supply) }, api.ErrSupply},
		askWeek:   {func(w well, x asked) bool { return within(span(0, w.weeks()-1), x.week) }, api.ErrTime},
		askShares: {func(w well, x asked) bool { return areShares(w.Supply, x.shares) }, api.ErrShares},
		askFount:  {func(w well, x asked) bool { return fountAt(w.Supply, x.fount) >= 0 }, api.ErrFount},
		askStreet: {func(w well, x asked) bool { return streetAt(w.Supply, x.street) >= 0 }, api.ErrStreet},
		askTruth:  {func(w well, _ asked) bool { return w.hasTruth() }, api.ErrBad},
		askJars:   {func(_ well, x asked) bool { return len(x.jars) <= api.MaxCount }, api.ErrArg},
		askRoom:   {func(w well, _ asked) bool { return len(w.Streets) < api.MaxStreets }, api.ErrFull},
	}
}

// begin returns the supply at work, or the first error of the questions that a call asks; whether the supply is valid is always asked first, because the other questions rely on it.
func begin(s api.Supply, x asked, more ...int) (well, api.Errno) {
	w := well{s}
	all := questions()
	if q := all[askSupply]; !q.holds(w, x) {
		return well{}, q.err
	}
	for _, i := range more {
		if q := all[i]; !q.holds(w, x) {
			return well{}, q.err
		}
	}
	return w, api.OK
}
