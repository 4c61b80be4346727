package spring

import "aguador/api"

// asked is what a call is told beside the spring.
type asked struct {
	week, bucket int
	reading      api.Reading
}

// question is what must hold before a call answers, and the error if it does not.
type question struct {
	holds func(w work, x asked) bool
	err   api.Errno
}

// What a spring can be asked, in the order in which P1.1 names the errors.
const (
	askSpring = iota
	askWeek
	askBucket
	askReading
	askTruth
	askCount
)

func questions() [askCount]question {
	return [...]question{
		askSpring:  {func(w work, _ asked) bool { return valid(w.Spring) }, api.ErrSpring},
		askWeek:    {func(w work, x asked) bool { return isWeek(w.Spring, x.week) }, api.ErrWeek},
		askBucket:  {func(_ work, x asked) bool { return within(span(1, api.MaxBucket), x.bucket) }, api.ErrBucket},
		askReading: {func(w work, x asked) bool { return validReading(w.Spring, x.reading) }, api.ErrReading},
		askTruth:   {func(w work, _ asked) bool { return w.can() }, api.ErrBad},
	}
}

// begin returns the spring at work, or the first error of the questions that a call asks; whether the spring is valid is always asked first, because the other questions rely on it.
func begin(s api.Spring, x asked, more ...int) (work, api.Errno) {
	w := work{s}
	all := questions()
	if q := all[askSpring]; !q.holds(w, x) {
		return work{}, q.err
	}
	for _, i := range more {
		if q := all[i]; !q.holds(w, x) {
			return work{}, q.err
		}
	}
	return w, api.OK
}
