package spring_test

import (
	"slices"

	"aguador/api"
	"aguador/spring"
)

func span(lo, hi int) api.Span { return api.Span{Lo: lo, Hi: hi} }

func ints(l ...int) []int { return l }

func reading(number, week, bucket, lo, hi int) api.Reading {
	return api.Reading{Number: number, Week: week, Bucket: bucket, Songs: span(lo, hi)}
}

// chapter is the spring of the chapter's examples, with more readings.
func chapter(more ...api.Reading) api.Spring {
	return api.Spring{
		Weeks: 4, Most: 40, Fall: 8, Song: span(60, 70), Winter: span(3, 5),
		Book: []api.Line{
			{Rain: span(0, 3), Week: 2, Gives: span(5, 12)},
			{Rain: span(4, 9), Week: 2, Gives: span(10, 25)},
		},
		Readings: append([]api.Reading{reading(1, 0, 10, 18, 20)}, more...),
	}
}

// minute has songs of a minute, at most ten pints an hour, no rain and no book.
func minute(weeks, fall int, l ...api.Reading) api.Spring {
	return api.Spring{Weeks: weeks, Most: 10, Fall: fall, Song: span(60, 60), Readings: l}
}

// bookless has two lines that cannot both be right.
func bookless(l ...api.Reading) api.Spring {
	s := minute(1, 0, l...)
	s.Book = []api.Line{{Rain: span(0, 20), Gives: span(5, 5)}, {Rain: span(0, 20), Gives: span(6, 6)}}
	return s
}

func same(a, b api.Spring) bool {
	return a.Weeks == b.Weeks && a.Most == b.Most && a.Fall == b.Fall && a.Song == b.Song && a.Winter == b.Winter &&
		slices.Equal(a.Book, b.Book) && slices.Equal(a.Readings, b.Readings)
}

// told is all results of a call.
type told struct {
	e      api.Errno
	n      []int
	x      api.Span
	spring api.Spring
}

func (a told) equal(b told) bool {
	return a.e == b.e && a.x == b.x && slices.Equal(a.n, b.n) && same(a.spring, b.spring)
}

// call is one of the functions, and what is asked of it.
type call struct {
	name string
	run  func(s api.Spring) told
}

// calls has each function of the chapter, with these arguments.
func calls(week, bucket, need int, x api.Reading, line api.Line, numbers []int) []call {
	return []call{
		{"Check", func(s api.Spring) told { return told{e: spring.Check(s)} }},
		{"Can", func(s api.Spring) told {
			is, e := spring.Can(s)
			if is {
				return told{e: e, n: ints(1)}
			}
			return told{e: e}
		}},
		{"Rains", func(s api.Spring) told { l, e := spring.Rains(s); return told{e: e, n: l} }},
		{"Gives", func(s api.Spring) told { x, e := spring.Gives(s, week); return told{e: e, x: x} }},
		{"Known", func(s api.Spring) told { k, e := spring.Known(s, week, need); return told{e: e, n: ints(int(k))} }},
		{"Fails", func(s api.Spring) told { w, e := spring.Fails(s, need); return told{e: e, n: ints(w)} }},
		{"Surely", func(s api.Spring) told { w, e := spring.Surely(s, need); return told{e: e, n: ints(w)} }},
		{"Poor", func(s api.Spring) told { r, l, e := spring.Poor(s); return told{e: e, n: append(ints(r), l...)} }},
		{"Rich", func(s api.Spring) told { r, l, e := spring.Rich(s); return told{e: e, n: append(ints(r), l...)} }},
		{"Fill", func(s api.Spring) told { x, e := spring.Fill(s, week, bucket); return told{e: e, x: x} }},
		{"Look", func(s api.Spring) told { w, n, e := spring.Look(s); return told{e: e, n: ints(w, n)} }},
		{"Read", func(s api.Spring) told { g, e := spring.Read(s, x); return told{e: e, x: g} }},
		{"Rests", func(s api.Spring) told { l, e := spring.Rests(s, week); return told{e: e, n: l} }},
		{"Wrong", func(s api.Spring) told { l, e := spring.Wrong(s); return told{e: e, n: l} }},
		{"Add", func(s api.Spring) told { y, e := spring.Add(s, x); return told{e: e, spring: y} }},
		{"Write", func(s api.Spring) told { y, e := spring.Write(s, line); return told{e: e, spring: y} }},
		{"Strike", func(s api.Spring) told { y, e := spring.Strike(s, numbers); return told{e: e, spring: y} }},
	}
}

// isZero reports whether all that is told beside the error is zero.
func (a told) isZero() bool {
	for _, n := range a.n {
		if n != 0 {
			return false
		}
	}
	return a.x == api.Span{} && same(a.spring, api.Spring{})
}
