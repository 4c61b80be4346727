package spring_test

import (
	"math"
	"slices"
	"testing"

	"aguador/api"
	"aguador/spring"
)

// hasNone is the chapter's spring with a reading that must be false.
func hasNone() api.Spring { return chapter(reading(3, 1, 10, 9, 10)) }

// P1.1: what is valid, up to each limit and beyond it.
func TestCheck(t *testing.T) {
	many := func(n int) (l []api.Reading) {
		for i := range n {
			l = append(l, reading(i+1, 0, 1, 0, 9))
		}
		return l
	}
	huge, low := math.MaxInt, math.MinInt
	for i, x := range []struct {
		change func(s *api.Spring)
		e      api.Errno
	}{
		{func(s *api.Spring) {}, api.OK},
		{func(s *api.Spring) { s.Book, s.Readings = nil, nil }, api.OK},
		{func(s *api.Spring) { s.Book, s.Readings = []api.Line{}, []api.Reading{} }, api.OK},
		{func(s *api.Spring) { s.Weeks = 10 }, api.OK},
		{func(s *api.Spring) { s.Weeks = 3 }, api.OK},
		{func(s *api.Spring) { s.Weeks = 11 }, api.ErrSpring},
		{func(s *api.Spring) { s.Weeks = 0 }, api.ErrSpring},
		{func(s *api.Spring) { s.Weeks, s.Book, s.Readings = 0, nil, nil }, api.ErrSpring},
		{func(s *api.Spring) { s.Weeks = huge }, api.ErrSpring},
		{func(s *api.Spring) { s.Weeks = low }, api.ErrSpring},
		{func(s *api.Spring) { s.Most = 0 }, api.OK},
		{func(s *api.Spring) { s.Most = 100 }, api.OK},
		{func(s *api.Spring) { s.Most = 101 }, api.ErrSpring},
		{func(s *api.Spring) { s.Most = -1 }, api.ErrSpring},
		{func(s *api.Spring) { s.Most = huge }, api.ErrSpring},
		{func(s *api.Spring) { s.Fall = 0 }, api.OK},
		{func(s *api.Spring) { s.Fall = 100 }, api.OK},
		{func(s *api.Spring) { s.Fall = 101 }, api.ErrSpring},
		{func(s *api.Spring) { s.Fall = -1 }, api.ErrSpring},
		{func(s *api.Spring) { s.Fall = low }, api.ErrSpring},
		{func(s *api.Spring) { s.Song = span(1, 600) }, api.OK},
		{func(s *api.Spring) { s.Song = span(0, 60) }, api.ErrSpring},
		{func(s *api.Spring) { s.Song = span(60, 601) }, api.ErrSpring},
		{func(s *api.Spring) { s.Song = span(61, 60) }, api.ErrSpring},
		{func(s *api.Spring) { s.Song = span(60, huge) }, api.ErrSpring},
		{func(s *api.Spring) { s.Winter = span(0, 20) }, api.OK},
		{func(s *api.Spring) { s.Winter = span(-1, 20) }, api.ErrSpring},
		{func(s *api.Spring) { s.Winter = span(0, 21) }, api.ErrSpring},
		{func(s *api.Spring) { s.Winter = span(5, 4) }, api.ErrSpring},
		{func(s *api.Spring) { s.Winter = span(low, huge) }, api.ErrSpring},
		{func(s *api.Spring) { s.Book = make([]api.Line, 8) }, api.OK},
		{func(s *api.Spring) { s.Book = make([]api.Line, 9) }, api.ErrSpring},
		{func(s *api.Spring) { s.Book[0] = api.Line{Rain: span(0, 20), Week: 3, Gives: span(0, 100)} }, api.OK},
		{func(s *api.Spring) { s.Book[1].Rain = span(-1, 4) }, api.ErrSpring},
		{func(s *api.Spring) { s.Book[1].Rain = span(4, 21) }, api.ErrSpring},
		{func(s *api.Spring) { s.Book[1].Rain = span(5, 4) }, api.ErrSpring},
		{func(s *api.Spring) { s.Book[1].Week = -1 }, api.ErrSpring},
		{func(s *api.Spring) { s.Book[1].Week = 4 }, api.ErrSpring},
		{func(s *api.Spring) { s.Book[1].Week = huge }, api.ErrSpring},
		{func(s *api.Spring) { s.Book[1].Gives = span(-1, 4) }, api.ErrSpring},
		{func(s *api.Spring) { s.Book[1].Gives = span(4, 101) }, api.ErrSpring},
		{func(s *api.Spring) { s.Book[1].Gives = span(5, 4) }, api.ErrSpring},
		{func(s *api.Spring) { s.Readings = many(12) }, api.OK},
		{func(s *api.Spring) { s.Readings = many(13) }, api.ErrSpring},
		{func(s *api.Spring) { s.Readings[0] = reading(9999, 3, 40, 0, 99) }, api.OK},
		{func(s *api.Spring) { s.Readings[0] = reading(1, 0, 1, 99, 99) }, api.OK},
		{func(s *api.Spring) { s.Readings[0] = reading(1, 0, 1, 0, 1) }, api.OK},
		{func(s *api.Spring) { s.Readings[0].Number = 0 }, api.ErrSpring},
		{func(s *api.Spring) { s.Readings[0].Number = 10000 }, api.ErrSpring},
		{func(s *api.Spring) { s.Readings[0].Number = low }, api.ErrSpring},
		{func(s *api.Spring) { s.Readings[0].Week = 4 }, api.ErrSpring},
		{func(s *api.Spring) { s.Readings[0].Week = -1 }, api.ErrSpring},
		{func(s *api.Spring) { s.Readings[0].Bucket = 0 }, api.ErrSpring},
		{func(s *api.Spring) { s.Readings[0].Bucket = 41 }, api.ErrSpring},
		{func(s *api.Spring) { s.Readings[0].Bucket = huge }, api.ErrSpring},
		{func(s *api.Spring) { s.Readings[0].Songs = span(0, 0) }, api.ErrSpring},
		{func(s *api.Spring) { s.Readings[0].Songs = span(-1, 1) }, api.ErrSpring},
		{func(s *api.Spring) { s.Readings[0].Songs = span(1, 100) }, api.ErrSpring},
		{func(s *api.Spring) { s.Readings[0].Songs = span(2, 1) }, api.ErrSpring},
		{func(s *api.Spring) { s.Readings = append(many(2), reading(2, 0, 1, 0, 9)) }, api.ErrSpring},
		{func(s *api.Spring) { s.Readings = append(many(2), reading(1, 0, 1, 0, 9)) }, api.ErrSpring},
		{func(s *api.Spring) { s.Readings = append(many(2), reading(3, 4, 1, 0, 9)) }, api.ErrSpring},
	} {
		s := chapter()
		x.change(&s)
		if e := spring.Check(s); e != x.e {
			t.Error(i, e)
		}
		if x.e == api.OK {
			continue
		}
		for _, c := range calls(-1, 0, 0, api.Reading{}, api.Line{Week: -1}, ints(0)) {
			if y := c.run(s); y.e != api.ErrSpring || !y.isZero() {
				t.Error(i, c.name, y)
			}
		}
	}
}

// P1.1, R1, R2: of several errors the one that is named first, and nothing beside it.
func TestErrors(t *testing.T) {
	odd, torn := hasNone(), bookless()
	huge, low := math.MaxInt, math.MinInt
	for _, week := range ints(-1, 4, huge, low) {
		for _, s := range []api.Spring{chapter(), odd, torn} {
			for _, c := range calls(week, 0, 0, api.Reading{}, api.Line{}, nil) {
				if y := c.run(s); slices.Contains([]string{"Gives", "Known", "Fill", "Rests"}, c.name) && (y.e != api.ErrWeek || !y.isZero()) {
					t.Error(c.name, week, y)
				}
			}
		}
	}
	for _, bucket := range ints(-1, 0, 41, huge, low) {
		for _, s := range []api.Spring{chapter(), odd} {
			if x, e := spring.Fill(s, 0, bucket); e != api.ErrBucket || x != span(0, 0) {
				t.Error("Fill", bucket, x, e)
			}
		}
	}
	bad := []string{"Rains", "Gives", "Known", "Fails", "Surely", "Poor", "Rich", "Fill", "Look", "Rests"}
	for _, s := range []api.Spring{odd, torn} {
		for _, c := range calls(0, 1, 0, reading(9, 0, 1, 0, 9), api.Line{}, nil) {
			y := c.run(s)
			if slices.Contains(bad, c.name) && (y.e != api.ErrBad || !y.isZero()) {
				t.Error(c.name, y)
			}
			if slices.Contains([]string{"Check", "Can", "Read", "Add", "Write", "Strike"}, c.name) && y.e != api.OK {
				t.Error(c.name, y)
			}
		}
	}
}

// P1.2: the chapter's examples, and what gaps between rains leave.
func TestGives(t *testing.T) {
	six := reading(1, 1, 1, 10, 10)
	gap := minute(2, 2)
	gap.Winter = span(0, 2)
	gap.Book = []api.Line{{Rain: span(0, 0), Week: 0, Gives: span(1, 2)}, {Rain: span(1, 1), Week: 0, Gives: span(11, 100)}, {Rain: span(2, 2), Week: 1, Gives: span(8, 9)}}
	wide := api.Spring{Weeks: 10, Most: 100, Fall: 100, Song: span(1, 600), Winter: span(0, 20)}
	steep := minute(10, 1, reading(1, 0, 1, 6, 6))
	for i, x := range []struct {
		s    api.Spring
		week int
		want api.Span
	}{
		{chapter(), 0, span(26, 33)}, {chapter(), 1, span(18, 33)}, {chapter(), 2, span(10, 25)}, {chapter(), 3, span(2, 25)},
		{minute(1, 0), 0, span(0, 10)}, {minute(3, 0, six), 0, span(6, 6)}, {minute(3, 0, six), 2, span(6, 6)},
		{minute(3, 2, six), 0, span(6, 8)}, {minute(3, 2, six), 2, span(4, 6)},
		{gap, 0, span(1, 10)}, {gap, 1, span(0, 9)}, {wide, 9, span(0, 100)},
		{steep, 0, span(10, 10)}, {steep, 9, span(1, 10)},
		{api.Spring{Weeks: 1, Song: span(1, 1)}, 0, span(0, 0)},
	} {
		if g, e := spring.Gives(x.s, x.week); g != x.want || e != api.OK {
			t.Error(i, g, e)
		}
	}
	for i, x := range []struct {
		s     api.Spring
		rains []int
	}{
		{chapter(), ints(3, 4, 5)}, {gap, ints(0, 2)}, {minute(1, 0), ints(0)},
		{chapter(reading(2, 2, 10, 30, 33)), ints(4, 5)},
	} {
		if l, e := spring.Rains(x.s); !slices.Equal(l, x.rains) || e != api.OK {
			t.Error(i, l, e)
		}
		if is, e := spring.Can(x.s); !is || e != api.OK {
			t.Error(i, is, e)
		}
	}
	// 40 pints within 5,940 seconds are more than it can give.
	for _, s := range []api.Spring{hasNone(), bookless(), minute(1, 0, reading(1, 0, 40, 99, 99))} {
		if is, e := spring.Can(s); is || e != api.OK {
			t.Error(is, e)
		}
	}
}

// P1.2: with needs however great, and of either sign.
func TestKnown(t *testing.T) {
	for i, x := range []struct {
		week, need int
		want       uint8
	}{
		{2, 10, api.KnownYes}, {2, 26, api.KnownNo}, {1, 20, api.KnownOpen}, {2, 11, api.KnownOpen}, {2, 25, api.KnownOpen},
		{0, 0, api.KnownYes}, {0, math.MinInt, api.KnownYes}, {0, math.MaxInt, api.KnownNo},
	} {
		if k, e := spring.Known(chapter(), x.week, x.need); k != x.want || e != api.OK {
			t.Error(i, k, e)
		}
	}
}

// P1.3, P1.13: first weeks, and none.
func TestFailsAndSurely(t *testing.T) {
	for i, x := range []struct {
		need, fails, surely int
		e, f                api.Errno
	}{
		{20, 1, 0, api.OK, api.ErrNone}, {26, 1, 2, api.OK, api.OK}, {2, 0, 0, api.ErrNone, api.ErrNone},
		{3, 3, 0, api.OK, api.ErrNone}, {27, 0, 2, api.OK, api.OK}, {34, 0, 0, api.OK, api.OK},
		{math.MinInt, 0, 0, api.ErrNone, api.ErrNone}, {math.MaxInt, 0, 0, api.OK, api.OK},
	} {
		a, e := spring.Fails(chapter(), x.need)
		b, f := spring.Surely(chapter(), x.need)
		if a != x.fails || e != x.e || b != x.surely || f != x.f {
			t.Error(i, a, e, b, f)
		}
	}
}

// P1.4: the least rain of several.
func TestPoorAndRich(t *testing.T) {
	even := minute(2, 3)
	even.Winter = span(4, 9)
	for i, x := range []struct {
		s          api.Spring
		rain, wet  int
		poor, rich []int
	}{
		{chapter(), 3, 4, ints(26, 18, 10, 2), ints(33, 33, 25, 25)},
		{even, 4, 4, ints(0, 0), ints(10, 10)},
		{minute(1, 0), 0, 0, ints(0), ints(10)},
	} {
		a, l, e := spring.Poor(x.s)
		b, m, f := spring.Rich(x.s)
		if a != x.rain || !slices.Equal(l, x.poor) || e != api.OK || b != x.wet || !slices.Equal(m, x.rich) || f != api.OK {
			t.Error(i, a, l, e, b, m, f)
		}
	}
}

// P1.5: rounded down and up, and a fountain that may give nothing.
func TestFill(t *testing.T) {
	for i, x := range []struct {
		s            api.Spring
		week, bucket int
		want         api.Span
		e            api.Errno
	}{
		{chapter(), 3, 1, span(144, 1800), api.OK}, {chapter(), 0, 10, span(1090, 1385), api.OK},
		{chapter(), 3, 40, span(5760, 72000), api.OK},
		{minute(1, 0, reading(1, 0, 1, 10, 10)), 0, 7, span(4200, 4200), api.OK},
		{minute(1, 0, reading(1, 0, 1, 0, 99)), 0, 40, span(14400, 144000), api.OK},
		{minute(1, 0), 0, 1, span(0, 0), api.ErrNone},
	} {
		if g, e := spring.Fill(x.s, x.week, x.bucket); g != x.want || e != x.e {
			t.Error(i, g, e)
		}
	}
}

// P1.6: the first week of several, and gaps between what rains leave.
func TestLook(t *testing.T) {
	gap := minute(2, 10)
	gap.Winter = span(0, 1)
	gap.Book = []api.Line{{Rain: span(0, 0), Week: 0, Gives: span(1, 1)}, {Rain: span(1, 1), Week: 0, Gives: span(10, 10)}, {Rain: span(1, 1), Week: 1, Gives: span(10, 10)}}
	for i, x := range []struct {
		s          api.Spring
		week, left int
	}{
		{chapter(), 2, 23}, {minute(1, 0), 0, 0}, {minute(2, 3), 0, 3}, {minute(3, 0), 0, 0}, {gap, 1, 0},
		{api.Spring{Weeks: 10, Most: 100, Fall: 100, Song: span(1, 600), Winter: span(0, 20)}, 4, 500},
	} {
		if w, n, e := spring.Look(x.s); w != x.week || n != x.left || e != api.OK {
			t.Error(i, w, n, e)
		}
	}
}

// P1.7: what a reading tells, whatever else is told.
func TestRead(t *testing.T) {
	huge, low := math.MaxInt, math.MinInt
	wrong := api.ErrReading
	for i, x := range []struct {
		s    api.Spring
		x    api.Reading
		want api.Span
		e    api.Errno
	}{
		{chapter(), reading(1, 0, 10, 18, 20), span(26, 33), api.OK},
		{hasNone(), reading(9, 3, 10, 18, 20), span(26, 33), api.OK},
		{bookless(), reading(9, 0, 1, 10, 10), span(6, 6), api.OK},
		{minute(1, 0), reading(9999, 0, 1, 0, 10), span(6, 10), api.OK},
		{minute(1, 0), reading(1, 0, 1, 0, 99), span(1, 10), api.OK},
		{minute(1, 0), reading(1, 0, 1, 60, 60), span(1, 1), api.OK},
		{minute(1, 0), reading(1, 0, 1, 61, 99), span(0, 0), api.ErrNone},
		{minute(1, 0), reading(1, 0, 1, 7, 7), span(0, 0), api.ErrNone},
		{minute(1, 0), reading(1, 0, 1, 0, 5), span(0, 0), api.ErrNone},
		{api.Spring{Weeks: 1, Song: span(1, 1)}, reading(1, 0, 1, 0, 99), span(0, 0), api.ErrNone},
		{api.Spring{Weeks: 1, Most: 100, Song: span(600, 600)}, reading(1, 0, 40, 0, 99), span(3, 100), api.OK},
		{minute(1, 0), reading(0, 0, 1, 0, 5), span(0, 0), wrong}, {minute(1, 0), reading(10000, 0, 1, 0, 5), span(0, 0), wrong},
		{minute(1, 0), reading(1, 1, 1, 0, 5), span(0, 0), wrong}, {minute(1, 0), reading(1, -1, 1, 0, 5), span(0, 0), wrong},
		{minute(1, 0), reading(1, 0, 0, 0, 5), span(0, 0), wrong}, {minute(1, 0), reading(1, 0, 41, 0, 5), span(0, 0), wrong},
		{minute(1, 0), reading(1, 0, huge, 0, 5), span(0, 0), wrong}, {minute(1, 0), reading(1, 0, 1, 0, 0), span(0, 0), wrong},
		{minute(1, 0), reading(1, 0, 1, -1, 1), span(0, 0), wrong}, {minute(1, 0), reading(1, 0, 1, 1, 100), span(0, 0), wrong},
		{minute(1, 0), reading(1, 0, 1, 2, 1), span(0, 0), wrong}, {minute(1, 0), reading(1, 0, 1, low, huge), span(0, 0), wrong},
	} {
		if g, e := spring.Read(x.s, x.x); g != x.want || e != x.e {
			t.Error(i, g, e)
		}
	}
}

// P1.7, P1.17: two readings that tell the same leave nothing that rests on one of them.
func TestRests(t *testing.T) {
	for i, x := range []struct {
		s    api.Spring
		week int
		want []int
	}{
		{chapter(), 0, ints(1)}, {chapter(), 3, ints(1)}, {chapter(reading(2, 0, 10, 18, 20)), 0, nil}, {minute(1, 0), 0, nil},
		{minute(2, 3, reading(1, 1, 1, 5, 10), reading(2, 0, 1, 8, 12)), 0, ints(1, 2)},
		{minute(2, 3, reading(4, 0, 1, 0, 99), reading(8, 1, 1, 5, 10)), 0, ints(8)},
	} {
		if l, e := spring.Rests(x.s, x.week); !slices.Equal(l, x.want) || e != api.OK {
			t.Error(i, l, e)
		}
	}
}

// P1.8, P1.14: the first list of the fewest, too many, and a book that allows nothing.
func TestWrong(t *testing.T) {
	six, eight, never := reading(0, 0, 1, 10, 10), reading(0, 0, 1, 7, 8), reading(0, 0, 1, 7, 7)
	as := func(n int, x api.Reading) api.Reading { x.Number = n; return x }
	for i, x := range []struct {
		s    api.Spring
		want []int
		e    api.Errno
	}{
		{chapter(), nil, api.OK}, {minute(1, 0), nil, api.OK}, {hasNone(), ints(3), api.OK},
		{bookless(), nil, api.ErrNone}, {bookless(six), nil, api.ErrSpring}, {bookless(as(1, six)), nil, api.ErrNone},
		{bookless(as(1, never), as(2, never), as(3, never)), nil, api.ErrNone},
		{minute(1, 0, as(4, six), as(7, eight)), ints(4), api.OK},
		{minute(1, 0, as(4, six), as(7, eight), as(9, eight)), ints(4), api.OK},
		{minute(1, 0, as(4, eight), as(7, six), as(9, eight)), ints(7), api.OK},
		{minute(1, 0, as(4, six), as(7, eight), as(9, six), as(11, eight)), ints(4, 9), api.OK},
		{minute(1, 0, as(4, eight), as(7, never), as(9, six), as(11, eight)), ints(7, 9), api.OK},
		{minute(1, 0, as(1, never), as(2, never)), ints(1, 2), api.OK},
		{minute(1, 0, as(1, never), as(2, never), as(3, never)), nil, api.ErrMany},
	} {
		if l, e := spring.Wrong(x.s); !slices.Equal(l, x.want) || e != x.e {
			t.Error(i, l, e)
		}
	}
}
