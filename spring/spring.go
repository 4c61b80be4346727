// Package spring is layer 1: see shared/doc/01-spring.md.
package spring

import (
	"slices"

	"aguador/api"
)

// Check returns the error of a spring (P1.1).
func Check(s api.Spring) api.Errno {
	_, e := begin(s, asked{})
	return e
}

// Can reports whether there is a truth (P1.2).
func Can(s api.Spring) (bool, api.Errno) {
	w, e := begin(s, asked{})
	if e != api.OK {
		return false, e
	}
	return w.can(), api.OK
}

// Rains returns which rain there can have been (P1.2).
func Rains(s api.Spring) ([]int, api.Errno) {
	w, e := begin(s, asked{}, askTruth)
	if e != api.OK {
		return nil, e
	}
	var l []int
	for rain := range w.rains() {
		l = append(l, rain)
	}
	return l, api.OK
}

// Gives returns what the spring gives in a week (P1.2).
func Gives(s api.Spring, week int) (api.Span, api.Errno) {
	w, e := begin(s, asked{week: week}, askWeek, askTruth)
	if e != api.OK {
		return api.Span{}, e
	}
	return w.gives(week), api.OK
}

// Known reports whether this is enough (P1.2).
func Known(s api.Spring, week, need int) (uint8, api.Errno) {
	x, e := Gives(s, week)
	switch {
	case e != api.OK:
		return 0, e
	case x.Lo >= need:
		return api.KnownYes, api.OK
	case x.Hi < need:
		return api.KnownNo, api.OK
	}
	return api.KnownOpen, api.OK
}

// Fails returns the first week in which it may be too little (P1.3).
func Fails(s api.Spring, need int) (int, api.Errno) { return short(s, least, need) }

// Surely returns the first week in which it is too little (P1.3).
func Surely(s api.Spring, need int) (int, api.Errno) { return short(s, most, need) }

// short returns the first week of which one end is less than the need.
func short(s api.Spring, end func(api.Span) int, need int) (int, api.Errno) {
	w, e := begin(s, asked{}, askTruth)
	if e != api.OK {
		return 0, e
	}
	gives := w.gives
	for week := range w.Weeks {
		if end(gives(week)) < need {
			return week, api.OK
		}
	}
	return 0, api.ErrNone
}

// Poor returns the truth that gives least (P1.4).
func Poor(s api.Spring) (rain int, l []int, e api.Errno) {
	return extreme(s, least, func(a, b truth) bool { return a.sum < b.sum })
}

// Rich returns the truth that gives most (P1.4).
func Rich(s api.Spring) (rain int, l []int, e api.Errno) {
	return extreme(s, most, func(a, b truth) bool { return a.sum > b.sum })
}

// extreme returns the first truth by an order. Truths stand by their rains, so that of several the one with the least rain is first.
func extreme(s api.Spring, end func(api.Span) int, before func(a, b truth) bool) (int, []int, api.Errno) {
	w, e := begin(s, asked{}, askTruth)
	if e != api.OK {
		return 0, nil, e
	}
	t := first(w.truths(end), before)
	return t.rain, t.gives, api.OK
}

// Fill returns how long a bucket takes (P1.5).
func Fill(s api.Spring, week, bucket int) (api.Span, api.Errno) {
	w, e := begin(s, asked{week: week, bucket: bucket}, askWeek, askBucket, askTruth)
	if e != api.OK {
		return api.Span{}, e
	}
	x := w.gives(week)
	if x.Lo == 0 {
		return api.Span{}, api.ErrNone
	}
	return span(hour*bucket/x.Hi, dividedUp(hour*bucket, x.Lo)), api.OK
}

// Look returns the week that would tell most (P1.6).
func Look(s api.Spring) (week, left int, e api.Errno) {
	w, e := begin(s, asked{}, askTruth)
	if e != api.OK {
		return 0, 0, e
	}
	c := first(w.choices(), func(a, b choice) bool { return a.left < b.left })
	return c.week, c.left, api.OK
}

// Read returns what a reading tells alone (P1.7).
func Read(s api.Spring, x api.Reading) (api.Span, api.Errno) {
	w, e := begin(s, asked{reading: x}, askReading)
	if e != api.OK {
		return api.Span{}, e
	}
	gives := w.told(x)
	if gives.Lo > gives.Hi {
		return api.Span{}, api.ErrNone
	}
	return gives, api.OK
}

// Rests returns the readings on which a week rests (P1.7).
func Rests(s api.Spring, week int) ([]int, api.Errno) {
	w, e := begin(s, asked{week: week}, askWeek, askTruth)
	if e != api.OK {
		return nil, e
	}
	var l []int
	with := w.gives(week)
	for _, x := range w.Readings {
		if w.without(x.Number).gives(week) != with {
			l = append(l, x.Number)
		}
	}
	return l, api.OK
}

// Wrong returns the readings that must be false (P1.8).
func Wrong(s api.Spring) ([]int, api.Errno) {
	w, e := begin(s, asked{})
	if e != api.OK {
		return nil, e
	}
	bare := s
	bare.Readings = nil
	if !(work{bare}).can() {
		return nil, api.ErrNone
	}
	for many := range api.MaxMore + 1 {
		if l, ok := w.struck(many); ok {
			return l, api.OK
		}
	}
	return nil, api.ErrMany
}

// struck returns the first list of so many readings without which there is a truth. Readings stand by their Numbers, so that lists are tried in their order.
func (w work) struck(many int) ([]int, bool) {
	var l []int
	var choose func(from int) bool
	choose = func(from int) bool {
		if len(l) == many {
			return w.without(l...).can()
		}
		for i := from; i < len(w.Readings); i++ {
			l = append(l, w.Readings[i].Number)
			if choose(i + 1) {
				return true
			}
			l = l[:len(l)-1]
		}
		return false
	}
	ok := choose(0)
	return l, ok
}

// Add returns a spring with a reading more (P1.9).
func Add(s api.Spring, x api.Reading) (api.Spring, api.Errno) {
	if e := Check(s); e != api.OK {
		return api.Spring{}, e
	}
	if len(s.Readings) == api.MaxReadings {
		return api.Spring{}, api.ErrFull
	}
	at := 0
	for at < len(s.Readings) && s.Readings[at].Number < x.Number {
		at++
	}
	s = copied(s)
	s.Readings = slices.Insert(s.Readings, at, x)
	if Check(s) != api.OK {
		return api.Spring{}, api.ErrReading
	}
	return s, api.OK
}

// Write returns a spring with a line more (P1.9).
func Write(s api.Spring, x api.Line) (api.Spring, api.Errno) {
	if e := Check(s); e != api.OK {
		return api.Spring{}, e
	}
	if len(s.Book) == api.MaxLines {
		return api.Spring{}, api.ErrFull
	}
	s = copied(s)
	s.Book = append(s.Book, x)
	if Check(s) != api.OK {
		return api.Spring{}, api.ErrLine
	}
	return s, api.OK
}

// Strike returns a spring without readings (P1.9).
func Strike(s api.Spring, numbers []int) (api.Spring, api.Errno) {
	w, e := begin(s, asked{})
	if e != api.OK {
		return api.Spring{}, e
	}
	before := 0
	for _, n := range numbers {
		isNumber := func(x api.Reading) bool { return x.Number == n }
		if n <= before || !slices.ContainsFunc(w.Readings, isNumber) {
			return api.Spring{}, api.ErrReading
		}
		before = n
	}
	return w.without(numbers...).Spring, api.OK
}
