package spring_test

import (
	"math"
	"slices"
	"testing"

	"aguador/api"
	"aguador/spring"
)

// evens has n readings with the Numbers 2, 4 and so on.
func evens(n int) (l []api.Reading) {
	for i := range n {
		l = append(l, reading(2*i+2, 0, 1, 0, 99))
	}
	return l
}

// P1.9: a reading is put in its place.
func TestAdd(t *testing.T) {
	for i, x := range []struct {
		s    api.Spring
		x    api.Reading
		want []api.Reading
		e    api.Errno
	}{
		{minute(1, 0), reading(5, 0, 40, 0, 1), []api.Reading{reading(5, 0, 40, 0, 1)}, api.OK},
		{minute(1, 0, evens(2)...), reading(1, 0, 1, 1, 1), []api.Reading{reading(1, 0, 1, 1, 1), evens(2)[0], evens(2)[1]}, api.OK},
		{minute(1, 0, evens(2)...), reading(3, 0, 1, 1, 1), []api.Reading{evens(2)[0], reading(3, 0, 1, 1, 1), evens(2)[1]}, api.OK},
		{minute(1, 0, evens(11)...), reading(9999, 0, 1, 7, 7), append(evens(11), reading(9999, 0, 1, 7, 7)), api.OK},
		{minute(1, 0, evens(12)...), reading(9999, 0, 1, 7, 7), nil, api.ErrFull},
		{minute(1, 0, evens(12)...), api.Reading{}, nil, api.ErrFull},
		{minute(1, 0, evens(2)...), reading(2, 0, 1, 1, 1), nil, api.ErrReading},
		{minute(1, 0, evens(2)...), reading(4, 0, 1, 1, 1), nil, api.ErrReading},
		{minute(1, 0), reading(0, 0, 1, 1, 1), nil, api.ErrReading}, {minute(1, 0), reading(10000, 0, 1, 1, 1), nil, api.ErrReading},
		{minute(1, 0), reading(math.MinInt, 0, 1, 1, 1), nil, api.ErrReading}, {minute(1, 0), reading(math.MaxInt, 0, 1, 1, 1), nil, api.ErrReading},
		{minute(1, 0), reading(1, 1, 1, 1, 1), nil, api.ErrReading}, {minute(1, 0), reading(1, 0, 41, 1, 1), nil, api.ErrReading},
		{minute(1, 0), reading(1, 0, 1, 0, 0), nil, api.ErrReading},
	} {
		want := api.Spring{}
		if x.e == api.OK {
			want = x.s
			want.Readings = x.want
		}
		if y, e := spring.Add(x.s, x.x); !same(y, want) || e != x.e {
			t.Error(i, y, e)
		}
	}
	if y, e := spring.Add(hasNone(), reading(2, 0, 1, 1, 1)); len(y.Readings) != 3 || len(y.Book) != 2 || e != api.OK {
		t.Error(y, e)
	}
}

// P1.9: a line is the last one.
func TestWrite(t *testing.T) {
	full, seven := minute(4, 0), minute(4, 0)
	full.Book, seven.Book = make([]api.Line, 8), make([]api.Line, 7)
	for i, x := range []struct {
		s api.Spring
		x api.Line
		e api.Errno
	}{
		{chapter(), api.Line{Rain: span(0, 20), Week: 3, Gives: span(0, 100)}, api.OK}, {minute(4, 0), api.Line{}, api.OK},
		{seven, api.Line{Week: 2}, api.OK}, {bookless(), api.Line{}, api.OK}, {hasNone(), api.Line{}, api.OK},
		{full, api.Line{}, api.ErrFull}, {full, api.Line{Week: -1}, api.ErrFull},
		{chapter(), api.Line{Week: 4}, api.ErrLine}, {chapter(), api.Line{Week: -1}, api.ErrLine}, {chapter(), api.Line{Week: math.MaxInt}, api.ErrLine},
		{chapter(), api.Line{Rain: span(0, 21)}, api.ErrLine}, {chapter(), api.Line{Rain: span(-1, 0)}, api.ErrLine}, {chapter(), api.Line{Rain: span(2, 1)}, api.ErrLine},
		{chapter(), api.Line{Gives: span(0, 101)}, api.ErrLine}, {chapter(), api.Line{Gives: span(-1, 0)}, api.ErrLine}, {chapter(), api.Line{Gives: span(2, 1)}, api.ErrLine},
	} {
		want := api.Spring{}
		if x.e == api.OK {
			want = x.s
			want.Book = append(slices.Clone(x.s.Book), x.x)
		}
		if y, e := spring.Write(x.s, x.x); !same(y, want) || e != x.e {
			t.Error(i, y, e)
		}
	}
}

// P1.9: only Numbers of readings, in increasing order, no one twice.
func TestStrike(t *testing.T) {
	for i, x := range []struct {
		numbers []int
		want    []api.Reading
		e       api.Errno
	}{
		{nil, evens(4), api.OK}, {ints(), evens(4), api.OK}, {ints(2), evens(4)[1:], api.OK}, {ints(8), evens(3), api.OK},
		{ints(4, 6), []api.Reading{evens(4)[0], evens(4)[3]}, api.OK}, {ints(2, 4, 6, 8), nil, api.OK},
		{ints(4, 2), nil, api.ErrReading}, {ints(2, 2), nil, api.ErrReading}, {ints(3), nil, api.ErrReading},
		{ints(0), nil, api.ErrReading}, {ints(2, 10), nil, api.ErrReading}, {ints(2, 4, 6, 8, 10), nil, api.ErrReading},
		{ints(math.MinInt), nil, api.ErrReading}, {ints(2, math.MaxInt), nil, api.ErrReading},
	} {
		s := minute(1, 0, evens(4)...)
		want := api.Spring{}
		if x.e == api.OK {
			want = s
			want.Readings = x.want
		}
		if y, e := spring.Strike(s, x.numbers); !same(y, want) || e != x.e {
			t.Error(i, y, e)
		}
	}
	if y, e := spring.Strike(hasNone(), ints(3)); !same(y, chapter()) || e != api.OK {
		t.Error(y, e)
	}
}

// roomy is the chapter's spring with memory behind the ends of its lists, which must stay as it is.
func roomy() api.Spring {
	s := chapter(reading(5, 1, 10, 18, 22))
	s.Book = append(make([]api.Line, 0, 8), s.Book...)
	s.Readings = append(make([]api.Reading, 0, 12), s.Readings...)
	return s
}

// whole shows the memory of the lists up to its end.
func whole(s api.Spring) api.Spring {
	s.Book, s.Readings = s.Book[:cap(s.Book)], s.Readings[:cap(s.Readings)]
	return s
}

// R3: no argument is written to, nothing is remembered, and no result shares memory with an argument.
func TestValues(t *testing.T) {
	s, numbers := roomy(), append(make([]int, 0, 8), 1)
	for _, c := range calls(1, 5, 26, reading(3, 3, 10, 18, 99), api.Line{Week: 3, Gives: span(0, 50)}, numbers) {
		a := c.run(s)
		b := c.run(s)
		if !a.equal(b) || a.e != api.OK {
			t.Error(c.name, a, b)
		}
		if !same(whole(s), whole(roomy())) || !slices.Equal(numbers[:8], ints(1, 0, 0, 0, 0, 0, 0, 0)) {
			t.Error(c.name, whole(s), numbers[:8])
		}
		for _, y := range []told{a, b} {
			z := whole(y.spring)
			for i := range z.Book {
				z.Book[i].Week = 77
			}
			for i := range z.Readings {
				z.Readings[i].Week = 77
			}
			for i := range y.n {
				y.n[i] = 77
			}
			if !same(whole(s), whole(roomy())) {
				t.Error(c.name, "shares memory")
			}
		}
		if d := c.run(s); !d.equal(c.run(roomy())) {
			t.Error(c.name, "remembers", d)
		}
	}
}

// R3: one result shares no memory with another one.
func TestResultsApart(t *testing.T) {
	s := roomy()
	a, _ := spring.Strike(s, nil)
	b, _ := spring.Strike(s, nil)
	a.Book[0].Week, a.Readings[0].Week = 3, 3
	if !same(b, roomy()) {
		t.Error(b)
	}
}

// R4: a nil list and an empty one are the same.
func TestNilAndEmpty(t *testing.T) {
	a, b := minute(3, 2), minute(3, 2)
	a.Book, a.Readings = nil, nil
	b.Book, b.Readings = []api.Line{}, []api.Reading{}
	x, line := reading(3, 2, 1, 10, 12), api.Line{Week: 1, Gives: span(0, 8)}
	with, without := calls(1, 5, 3, x, line, nil), calls(1, 5, 3, x, line, []int{})
	for i := range with {
		if y, z := with[i].run(a), without[i].run(b); !y.equal(z) {
			t.Error(with[i].name, y, z)
		}
	}
}

// R5, R6, R7: whatever the arguments are, each call ends, and does not panic.
func TestAnyValue(t *testing.T) {
	d := &dice{state: 3}
	odd := ints(math.MinInt, math.MinInt+1, -1, 0, 1, 2, 3, 10, 20, 99, 100, 600, 9999, math.MaxInt-1, math.MaxInt)
	some := func() int { return odd[d.upTo(0, len(odd)-1)] }
	for range 20000 {
		s := chapter(reading(5, 1, 10, 18, 22))
		for _, p := range []*int{&s.Weeks, &s.Most, &s.Fall, &s.Song.Lo, &s.Song.Hi, &s.Winter.Lo, &s.Winter.Hi, &s.Book[0].Week, &s.Book[1].Rain.Hi, &s.Book[1].Gives.Lo, &s.Readings[0].Number, &s.Readings[0].Bucket, &s.Readings[1].Songs.Lo, &s.Readings[1].Songs.Hi} {
			if d.upTo(0, 9) == 0 {
				*p = some()
			}
		}
		x := reading(some(), some(), some(), some(), some())
		line := api.Line{Rain: span(some(), some()), Week: some(), Gives: span(some(), some())}
		for _, c := range calls(some(), some(), some(), x, line, ints(some(), some())) {
			y := c.run(s)
			if (y.e == api.ErrSpring) != (spring.Check(s) == api.ErrSpring) {
				t.Fatal(c.name, s, y)
			}
			if y.e != api.OK && !y.isZero() {
				t.Fatal(c.name, s, y)
			}
		}
	}
}
