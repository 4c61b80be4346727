package mix

import "aguador/api"

// asked is what a call is told beside the mixed water.
type asked struct {
	vessels, after, acts, fountains, numbers []int
	act                                      api.Act
}

// question is what must hold before a call answers, and the error if it does not.
type question struct {
	holds func(b table, x asked) bool
	err   api.Errno
}

// What mixed water can be asked, in the order in which the chapter names the errors.
const (
	askMix = iota
	askVessels
	askNumbers
	askOther
	askRoom
	askAct
	askTastes
	askDone
	askLast
	askCount
)

func questions() [askCount]question {
	return [...]question{
		askMix:     {func(b table, _ asked) bool { return valid(b.Mix) }, api.ErrMix},
		askVessels: {func(b table, x asked) bool { return areVessels(b.Mix, x.vessels...) }, api.ErrNone},
		askNumbers: {areNumbers, api.ErrArg},
		askOther:   {func(_ table, x asked) bool { return x.fountains[0] != x.fountains[1] }, api.ErrArg},
		askRoom:    {func(b table, _ asked) bool { return len(b.Acts) < api.MaxActs }, api.ErrFull},
		askAct:     {func(b table, x asked) bool { return canDo(b.Mix, x.act, b.holds[len(b.Acts)]) }, api.ErrAct},
		askTastes:  {func(b table, x asked) bool { return areTastes(b.Mix, x.numbers) }, api.ErrTaste},
		askDone:    {func(b table, _ asked) bool { return len(b.Acts) > 0 }, api.ErrNone},
		askLast:    {func(b table, _ asked) bool { return !b.isTastedLast() }, api.ErrTaste},
	}
}

// areNumbers reports whether all that is asked is a time, an act or a fountain.
func areNumbers(b table, x asked) bool {
	return within(span(0, len(b.Acts)), x.after...) && within(span(1, len(b.Acts)), x.acts...) && areFountains(b.Mix, x.fountains...)
}

// begin returns the table at work, or the first error of the questions that a call asks; whether the mixed water is valid is always asked first, because the other questions rely on it.
func begin(m api.Mix, x asked, more ...int) (table, api.Errno) {
	all := questions()
	if q := all[askMix]; !q.holds(table{Mix: m}, x) {
		return table{}, q.err
	}
	b := laid(m)
	for _, i := range more {
		if q := all[i]; !q.holds(b, x) {
			return table{}, q.err
		}
	}
	return b, api.OK
}
