package queue

import "aguador/api"

// asked is what a call is told beside the dawn.
type asked struct{ comers, order, minutes, numbers []int }

// question is what must hold before a call answers, and the error if it does not.
type question struct {
	holds func(f fountain, x asked) bool
	err   api.Errno
}

// What a dawn can be asked, in the order in which the chapter names the errors.
const (
	askDawn = iota
	askComers
	askOrder
	askTruth
	askMinutes
	askApart
	askNumbers
	askCount
)

func questions() [askCount]question {
	return [...]question{
		askDawn:    {func(f fountain, _ asked) bool { return valid(f.Dawn) }, api.ErrDawn},
		askComers:  {func(f fountain, x asked) bool { return areComers(f.Dawn, x.comers...) }, api.ErrNone},
		askOrder:   {func(f fountain, x asked) bool { return areAll(f.Dawn, x.order) }, api.ErrOrder},
		askTruth:   {func(f fountain, _ asked) bool { return f.can() }, api.ErrBad},
		askMinutes: {func(f fountain, x asked) bool { return canFill(f, x.minutes) }, api.ErrMinutes},
		askApart:   {func(_ fountain, x asked) bool { return x.comers[0] != x.comers[1] }, api.ErrArg},
		askNumbers: {func(f fountain, x asked) bool { return areNotes(f.Dawn, x.numbers) }, api.ErrBegun},
	}
}

// begin returns the fountain at work, or the first error of the questions that a call asks; whether the dawn is valid is always asked first, because the other questions rely on it.
func begin(d api.Dawn, x asked, more ...int) (fountain, api.Errno) {
	f := fountain{d}
	all := questions()
	if q := all[askDawn]; !q.holds(f, x) {
		return fountain{}, q.err
	}
	for _, i := range more {
		if q := all[i]; !q.holds(f, x) {
			return fountain{}, q.err
		}
	}
	return f, api.OK
}
