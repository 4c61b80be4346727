package jar

import "aguador/api"

// asked is what a call is told beside the jar.
type asked struct {
	days, weeks, later, pints, ids []int
}

// question is what must hold before a call answers, and the error if it does not.
type question struct {
	holds func(h house, x asked) bool
	err   api.Errno
}

// What a jar can be asked, in the order in which the chapter names the errors.
const (
	askJar = iota
	askDays
	askWeeks
	askLater
	askPints
	askSights
	askBrings
	askIds
	askCount
)

func questions() [askCount]question {
	return [...]question{
		askJar:    {func(h house, _ asked) bool { return valid(h.Jar) }, api.ErrJar},
		askDays:   {func(h house, x asked) bool { return areDays(h.Jar, x.days...) }, api.ErrDay},
		askWeeks:  {func(h house, x asked) bool { return areWeeks(h.Jar, x.weeks...) }, api.ErrDay},
		askLater:  {func(h house, x asked) bool { return areLater(h.Jar, x.later) }, api.ErrDay},
		askPints:  {func(_ house, x asked) bool { return within(span(1, api.MaxJar), x.pints...) }, api.ErrPints},
		askSights: {func(h house, _ asked) bool { return len(h.Sights) < api.MaxSights }, api.ErrFull},
		askBrings: {func(h house, _ asked) bool { return len(h.Brings) < api.MaxBrings }, api.ErrFull},
		askIds:    {func(h house, x asked) bool { return areSights(h.Jar, x.ids) }, api.ErrSight},
	}
}

// begin returns the house at work, or the first error of the questions that a call asks; whether the jar is valid is always asked first, because the other questions rely on it.
func begin(j api.Jar, x asked, more ...int) (house, api.Errno) {
	all := questions()
	if q := all[askJar]; !q.holds(house{Jar: j}, x) {
		return house{}, q.err
	}
	h := kept(j)
	for _, i := range more {
		if q := all[i]; !q.holds(h, x) {
			return house{}, q.err
		}
	}
	return h, api.OK
}
