package warden

import (
	"maps"
	"slices"

	"aguador/api"
)

// thrown is an error on its way to where it is caught: that by which a deed is denied, or that of what is no line, or no file.
type thrown api.Errno

func throwIf(is bool, e api.Errno) {
	if is {
		panic(thrown(e))
	}
}

// must returns what a function returned, unless this is an error.
func must[T any](x T, e api.Errno) T {
	throwIf(e != api.OK, e)
	return x
}

// caught does something, and returns the error that is thrown meanwhile. Whatever else is thrown is a mistake of the program, which must not pass for an error of what it was told.
func caught(do func()) (e api.Errno) {
	defer func() {
		switch z := recover().(type) {
		case nil:
		case thrown:
			e = api.Errno(z)
		default:
			panic(z)
		}
	}()
	do()
	return api.OK
}

// first returns the index of the first thing that is so; if there is none it throws an error.
func first[T any](l []T, e api.Errno, is func(x T) bool) int {
	at := slices.IndexFunc(l, is)
	throwIf(at < 0, e)
	return at
}

// put returns a list with a thing more, before all that are behind it.
func put[T any](l []T, x T, isBehind func(y T) bool) []T {
	at := slices.IndexFunc(l, isBehind)
	if at < 0 {
		at = len(l)
	}
	return slices.Insert(l, at, x)
}

// day is a post at work, with the values of the orders of which it is known that they hold, by their Numbers, and what is said of the deed that is done.
type day struct {
	api.Post
	held map[int]int
	says string
}

// do does a deed, unless it is denied, and returns by which error it is. The deed is done to a copy, of which nothing is left then.
func (d *day) do(x api.Deed) api.Errno {
	before := d.Post
	d.Post = copied(before)
	d.says = "ok"
	e := caught(func() { verbs()[x.Verb].do(d, x.Args) })
	if e != api.OK {
		d.Post = before
	}
	return e
}

// answer does a deed, and returns its answer. What is denied changes nothing, so that no order can be told of.
func (d *day) answer(x api.Deed) string {
	if e := d.do(x); e != api.OK {
		return written("no", int(e))
	}
	return d.says + d.news()
}

// news tells of each order that holds only now, and of each one that held only before, in the order of their Numbers.
func (d *day) news() string {
	now, calm := holding(d.Orders, d.holds), d.held
	told := map[int]string{}
	for number, value := range now {
		if _, was := calm[number]; was {
			delete(calm, number)
			continue
		}
		told[number] = written(" warn", number, value)
	}
	for number := range calm {
		told[number] = written(" calm", number)
	}
	d.held = now
	s := ""
	for _, number := range slices.Sorted(maps.Keys(told)) {
		s += told[number]
	}
	return s
}
