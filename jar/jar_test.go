package jar_test

import (
	"slices"
	"testing"

	"aguador/api"
	"aguador/jar"
)

// P5.1: what is valid, up to each limit and beyond it.
func TestCheck(t *testing.T) {
	bad := api.ErrJar
	full := func(n int) func(j *api.Jar) { return func(j *api.Jar) { j.Full = n } }
	days := func(n int) func(j *api.Jar) { return func(j *api.Jar) { j.Days = n } }
	start := func(lo, hi int) func(j *api.Jar) { return func(j *api.Jar) { j.Start = span(lo, hi) } }
	use := func(lo, hi int) func(j *api.Jar) { return func(j *api.Jar) { j.Use = span(lo, hi) } }
	week := func(lo, hi int) func(j *api.Jar) { return func(j *api.Jar) { j.Week = span(lo, hi) } }
	may := func(k uint8) func(j *api.Jar) { return func(j *api.Jar) { j.May = k } }
	saw := func(l ...api.Sight) func(j *api.Jar) { return func(j *api.Jar) { j.Sights = l } }
	brought := func(l ...api.Bring) func(j *api.Jar) { return func(j *api.Jar) { j.Brings = l } }
	whole := func(y api.Jar) func(j *api.Jar) { return func(j *api.Jar) { *j = y } }
	for i, x := range []struct {
		change func(j *api.Jar)
		e      api.Errno
	}{
		{func(*api.Jar) {}, api.OK}, {whole(great()), api.OK}, {whole(api.Jar{Full: 1, Days: 1}), api.OK}, {whole(api.Jar{}), bad}, {whole(api.Jar{Days: 1}), bad}, {whole(api.Jar{Full: 1}), bad}, {whole(odd()), api.OK}, {whole(plain(1)), api.OK},
		{full(8), api.OK}, {full(20), api.OK}, {full(21), bad}, {full(7), bad}, {full(5), bad}, {full(0), bad}, {full(-1), bad}, {full(huge), bad}, {full(low), bad},
		{days(3), api.OK}, {days(10), api.OK}, {days(11), bad}, {days(2), bad}, {days(1), bad}, {days(0), bad}, {days(-1), bad}, {days(huge), bad}, {days(low), bad},
		{start(0, 12), api.OK}, {start(0, 0), api.OK}, {start(12, 12), api.OK}, {start(0, 13), bad}, {start(13, 13), bad}, {start(-1, 3), bad}, {start(3, 2), bad}, {start(low, 3), bad}, {start(3, huge), bad}, {start(huge, huge), bad}, {start(low, low), bad}, {start(huge, low), bad},
		{use(0, 5), api.OK}, {use(0, 0), api.OK}, {use(5, 5), api.OK}, {use(0, 6), bad}, {use(6, 6), bad}, {use(-1, 3), bad}, {use(3, 2), bad}, {use(low, huge), bad}, {use(huge, low), bad},
		{week(0, 35), api.OK}, {week(0, 0), api.OK}, {week(35, 35), api.OK}, {week(0, 36), bad}, {week(36, 36), bad}, {week(-1, 3), bad}, {week(9, 8), bad}, {week(low, huge), bad}, {week(huge, low), bad},
		{may(api.KnownNo), api.OK}, {may(api.KnownOpen), api.OK}, {may(api.KnownYes), bad}, {may(3), bad}, {may(255), bad},
		{saw(), api.OK}, {saw(sight(1, 0, 0, 0)), api.OK}, {saw(sight(9999, 6, 12, 12)), api.OK}, {saw(sight(1, 6, 0, 12), sight(2, 0, 0, 12)), api.OK}, {saw(sight(2, 0, 0, 12), sight(1, 0, 0, 12)), bad}, {saw(sight(2, 0, 0, 12), sight(2, 1, 0, 12)), bad},
		{whole(twos(12)), api.OK}, {whole(twos(13)), bad}, {func(j *api.Jar) { j.Sights = nil; days(1)(j); brought()(j) }, api.OK},
		{brought(), api.OK}, {brought(bring(0, 1)), api.OK}, {brought(bring(6, 20)), api.OK}, {brought(bring(2, 1), bring(2, 20)), api.OK}, {brought(bring(0, 13), bring(6, 1)), api.OK}, {brought(bring(2, 1), bring(1, 1)), bad}, {brought(bring(6, 1), bring(0, 1)), bad},
		{brought(slices.Repeat([]api.Bring{bring(6, 20)}, 12)...), api.OK}, {brought(slices.Repeat([]api.Bring{bring(6, 20)}, 13)...), bad},
	} {
		j := chapter()
		x.change(&j)
		checkAll(t, i, j, x.e)
	}
	// What is seen, or brought, and is not valid, first or last.
	for i, x := range badSights() {
		checkAll(t, i, seen(chapter(), x), bad)
		checkAll(t, i, seen(chapter(), sight(1, 0, 0, 0), x), bad)
	}
	for i, x := range badBrings() {
		checkAll(t, i, got(chapter(), x), bad)
		checkAll(t, i, got(chapter(), bring(0, 1), x), bad)
	}
}

// badSights are those that are not valid in the chapter's jar.
func badSights() []api.Sight {
	var l []api.Sight
	for _, n := range ints(0, -1, 10000, low, huge) {
		l = append(l, sight(n, 0, 0, 0))
	}
	for _, n := range ints(-1, 7, 9, low, huge) {
		l = append(l, sight(7, n, 0, 0))
	}
	return append(l, sight(7, 0, -1, 0), sight(7, 0, 1, 0), sight(7, 0, 0, 13), sight(7, 0, 13, 13), sight(7, 0, low, 3), sight(7, 0, 3, huge), sight(7, 0, huge, low), sight(7, 0, low, huge))
}

// badBrings are those that are not valid in the chapter's jar.
func badBrings() []api.Bring {
	var l []api.Bring
	for _, n := range ints(-1, 7, 9, low, huge) {
		l = append(l, bring(n, 1))
	}
	for _, n := range ints(0, -1, 21, low, huge) {
		l = append(l, bring(3, n))
	}
	return l
}

// checkAll checks that a jar is valid, or that each call says that it is not.
func checkAll(t *testing.T, i int, j api.Jar, e api.Errno) {
	t.Helper()
	if f := jar.Check(j); f != e {
		t.Error(i, f)
	}
	if e == api.OK {
		return
	}
	for _, c := range calls(given{day: -1, week: -1, days: ints(-1), ids: ints(0)}) {
		if z := c.run(j); z.e != e || !z.isZero() {
			t.Error(i, c.name, z)
		}
	}
}

// P5.1, R1, R5: errors in their order, whatever the numbers are.
func TestErrors(t *testing.T) {
	for _, j := range []api.Jar{chapter(), odd(), open(chapter())} {
		for _, n := range ints(-1, 7, 10, low, huge) {
			expect(t, j, given{day: n}, api.ErrDay, "Holds", "Wants")
		}
		for _, n := range ints(-1, 1, 2, 6, low, huge) {
			expect(t, j, given{week: n}, api.ErrDay, "Week")
		}
		for _, l := range [][]int{{1}, {0}, {-1}, {7}, {4, 3}, {4, 4}, {1, 2}, {6, 7}, {low}, {huge}, {3, low}, {3, huge}, {2, 3, 4, 5, 6, 6}} {
			expect(t, j, given{days: l, pints: 1}, api.ErrDay, "Dry")
			expect(t, j, given{days: l, pints: 0}, api.ErrDay, "Dry")
		}
		for _, n := range ints(0, -1, 21, low, huge) {
			expect(t, j, given{pints: n, days: ints(3, 6)}, api.ErrPints, "Dry", "Fewest")
		}
	}
	none := []string{"Holds", "Wants", "Week", "Dry", "Must", "Gone", "Lost", "Look", "Fewest", "Idle"}
	// Too little can be wanted, or too much must be.
	for _, j := range []api.Jar{odd(), wanting(plain(7), span(2, 3), span(0, 13)), wanting(plain(7), span(2, 3), span(22, 35)), wanting(plain(10), span(5, 5), span(0, 34)), wanting(plain(2), span(4, 4), span(0, 7))} {
		expect(t, j, given{pints: 1}, api.ErrBad, none...)
		if is, e := jar.Can(j); is || e != api.OK {
			t.Error(j, is, e)
		}
	}
	// Weeks of a jar: one up to seven days, two then.
	for days := 1; days <= 10; days++ {
		last := (days - 1) / 7
		expect(t, plain(days), given{day: days - 1, week: last}, api.OK, "Week", "Holds", "Wants")
		expect(t, plain(days), given{day: days, week: last + 1}, api.ErrDay, "Week", "Holds", "Wants")
	}
	expect(t, twos(12), given{sight: sight(0, -1, 3, 2)}, api.ErrFull, "See")
	expect(t, great(), given{bring: bring(-1, 0)}, api.ErrFull, "Bring")
}

// P5.1: days that are later ones.
func TestLaterDays(t *testing.T) {
	all := ints(0, 1, 2, 3, 4, 5, 6)
	for i, x := range []struct {
		j    api.Jar
		from int
	}{{chapter(), 2}, {seen(chapter()), 0}, {seen(chapter(), sight(1, 0, 0, 12)), 1}, {seen(chapter(), sight(1, 4, 0, 12), sight(2, 0, 0, 12)), 5}, {seen(chapter(), sight(1, 5, 0, 12)), 6}, {seen(chapter(), sight(1, 6, 0, 12)), 7}} {
		if _, e := jar.Dry(x.j, all[x.from:], 20); e == api.ErrDay {
			t.Error(i, e)
		}
		for from := range x.from {
			expect(t, x.j, given{days: all[from:], pints: 20}, api.ErrDay, "Dry")
			expect(t, x.j, given{days: ints(from), pints: 20}, api.ErrDay, "Dry")
		}
	}
}

// P5.2: the chapter's examples, and jars that are emptied, run over, and are left.
func TestHolds(t *testing.T) {
	over := got(api.Jar{Full: 5, Days: 2, Start: span(4, 5), Use: span(0, 1), Week: span(0, 35)}, bring(0, 1), bring(0, 2), bring(1, 2))
	long := api.Jar{Full: 20, Days: 10, Start: span(20, 20), Use: span(1, 2), Week: span(8, 9)}
	for i, x := range []struct {
		j                 api.Jar
		day               int
		held, wants, week api.Span
	}{
		{chapter(), 0, span(3, 7), span(1, 3), span(10, 14)}, {chapter(), 1, span(2, 5), span(1, 3), span(10, 14)}, {chapter(), 2, span(5, 10), span(1, 3), span(10, 14)}, {chapter(), 3, span(2, 9), span(1, 3), span(10, 14)}, {chapter(), 6, span(0, 4), span(1, 3), span(10, 14)},
		{plain(1), 0, span(3, 3), span(2, 2), span(2, 2)}, {plain(3), 1, span(1, 1), span(2, 2), span(6, 6)}, {plain(3), 2, span(0, 0), span(2, 2), span(6, 6)}, {got(plain(3), bring(2, 1)), 2, span(0, 0), span(2, 2), span(6, 6)}, {got(plain(3), bring(2, 2)), 2, span(1, 1), span(2, 2), span(6, 6)}, {got(plain(3), bring(1, 20)), 1, span(3, 3), span(2, 2), span(6, 6)},
		{open(plain(2)), 0, span(3, 5), span(0, 2), span(0, 4)}, {open(plain(2)), 1, span(1, 5), span(0, 2), span(0, 4)}, {open(plain(2, sight(1, 0, 3, 3))), 1, span(1, 3), span(0, 2), span(2, 4)}, {open(plain(2, sight(1, 0, 4, 5))), 1, span(5, 5), span(0, 0), span(0, 0)},
		{over, 0, span(4, 5), span(0, 1), span(0, 2)}, {over, 1, span(4, 5), span(0, 1), span(0, 2)},
		// A sight on a later day tells of the days before it, too.
		{wanting(plain(2, sight(1, 1, 4, 4)), span(0, 2), span(0, 35)), 0, span(4, 5), span(0, 1), span(1, 1)}, {wanting(plain(2, sight(1, 1, 4, 5), sight(2, 1, 3, 4)), span(0, 2), span(0, 35)), 1, span(4, 4), span(0, 1), span(1, 1)},
		// What is wanted in a week binds each day: 13 of at most 2 a day must be wanted, or just 1.
		{wanting(plain(7), span(0, 2), span(13, 13)), 3, span(0, 0), span(1, 2), span(13, 13)}, {wanting(plain(7), span(0, 2), span(1, 1)), 0, span(4, 5), span(0, 1), span(1, 1)}, {wanting(plain(7), span(0, 2), span(14, 35)), 6, span(0, 0), span(2, 2), span(14, 14)},
		// Six days are no whole week, but must not want more than one.
		{wanting(plain(6), span(0, 1), span(7, 35)), 5, span(0, 5), span(0, 1), span(0, 6)}, {wanting(plain(6), span(0, 1), span(0, 2)), 5, span(3, 5), span(0, 1), span(0, 2)},
		{long, 6, span(11, 12), span(1, 2), span(8, 9)}, {long, 7, span(9, 11), span(1, 2), span(3, 6)}, {long, 9, span(5, 9), span(1, 2), span(3, 6)}, {wanting(long, span(1, 2), span(7, 9)), 9, span(5, 10), span(1, 2), span(3, 6)}, {wanting(long, span(2, 3), span(14, 14)), 9, span(0, 0), span(2, 3), span(6, 9)}, {wanting(long, span(1, 5), span(7, 7)), 9, span(6, 10), span(1, 5), span(3, 7)},
		// A house that is gone from the last day of a week on does not want the least of it; one that goes on the day after it does.
		{wanting(open(long), span(1, 1), span(8, 35)), 9, span(14, 20), span(0, 0), span(0, 0)}, {wanting(open(long), span(1, 1), span(7, 35)), 9, span(10, 20), span(0, 1), span(0, 3)}, {wanting(open(long), span(1, 1), span(8, 35)), 6, span(14, 20), span(0, 0), span(0, 6)},
		{great(), 9, span(15, 20), span(0, 5), span(0, 15)}, {great(), 6, span(15, 20), span(0, 5), span(0, 35)}, {api.Jar{Full: 1, Days: 1}, 0, span(0, 0), span(0, 0), span(0, 0)},
	} {
		a, e := jar.Holds(x.j, x.day)
		b, f := jar.Wants(x.j, x.day)
		c, g := jar.Week(x.j, x.day/7)
		is, h := jar.Can(x.j)
		if a != x.held || e != api.OK || b != x.wants || f != api.OK || c != x.week || g != api.OK || !is || h != api.OK {
			t.Error(i, a, e, b, f, c, g, is, h)
		}
	}
}

// P5.3: the chapter's examples, and jars that are just emptied.
func TestDry(t *testing.T) {
	none := -1
	thirsty := got(wanting(chapter(), span(3, 3), span(0, 35)))
	for i, x := range []struct {
		j         api.Jar
		days      []int
		pints     int
		dry, must int
	}{
		{chapter(), nil, 1, 5, none}, {chapter(), ints(), 20, 5, none}, {chapter(), ints(4), 1, 6, none}, {chapter(), ints(4), 2, none, none}, {chapter(), ints(6), 20, 5, none}, {chapter(), ints(2, 3, 4, 5, 6), 20, none, none}, {thirsty, nil, 1, 2, 2}, {thirsty, ints(2), 1, 3, 2}, {thirsty, ints(2), 4, 4, 2},
		// Five pints are enough for two days of two, and with one more for three.
		{plain(2), nil, 1, none, none}, {plain(3), nil, 1, 2, 2}, {plain(3), ints(2), 1, none, 2}, {plain(3), ints(1), 1, none, 2}, {plain(3), ints(0), 1, 2, 2}, {plain(3), ints(0), 20, 2, 2}, {plain(10), ints(2, 4, 6, 8), 4, none, 2}, {plain(10), ints(2, 4, 6, 8), 3, 5, 2}, {plain(10), ints(2, 4, 6, 8), 2, 3, 2}, {plain(10), ints(4, 6, 8), 20, 2, 2},
		// It is surely dry only if it is whatever was there at first, was wanted, and was left.
		{wanting(plain(4), span(1, 2), span(0, 35)), nil, 1, 2, none}, {wanting(plain(4), span(1, 3), span(0, 35)), nil, 1, 1, none}, {wanting(plain(6), span(1, 3), span(0, 35)), nil, 1, 1, 5}, {wanting(plain(6, sight(1, 1, 0, 0)), span(1, 3), span(0, 35)), nil, 1, 1, 2}, {open(plain(3)), nil, 1, 2, none}, {open(plain(4, sight(1, 2, 0, 0))), nil, 1, 2, 2}, {open(plain(4, sight(1, 1, 1, 1))), nil, 1, 2, none},
		// In one truth on the first day, in another one on the second.
		{api.Jar{Full: 5, Days: 2, Start: span(1, 3), Use: span(2, 2), Week: span(0, 35)}, nil, 1, 0, 1}, {api.Jar{Full: 5, Days: 2, Start: span(1, 4), Use: span(2, 2), Week: span(0, 35)}, nil, 1, 0, none}, {api.Jar{Full: 1, Days: 1, Use: span(1, 1), Week: span(0, 35)}, nil, 1, 0, 0}, {api.Jar{Full: 1, Days: 1, Use: span(1, 1), Week: span(0, 35)}, ints(0), 1, none, 0}, {api.Jar{Full: 1, Days: 1}, nil, 1, none, none},
		{great(), nil, 20, none, none}, {got(great()), nil, 20, 0, none},
	} {
		checkNone(t, i, "Dry", x.dry, func() (int, api.Errno) { return jar.Dry(x.j, x.days, x.pints) })
		checkNone(t, i, "Must", x.must, func() (int, api.Errno) { return jar.Must(x.j) })
	}
}

// checkNone checks a day that is told: none if it is below 0.
func checkNone(t *testing.T, i int, name string, want int, run func() (int, api.Errno)) {
	t.Helper()
	e := api.OK
	if want < 0 {
		want, e = 0, api.ErrNone
	}
	if day, f := run(); day != want || f != e {
		t.Error(i, name, day, f)
	}
}

// P5.4: the chapter's examples, houses that left, and jars that run over.
func TestGoneLostLook(t *testing.T) {
	fixed := func(brings ...api.Bring) api.Jar { return got(plain(3), brings...) }
	for i, x := range []struct {
		j         api.Jar
		gone      []int
		lost      api.Span
		day, many int
	}{
		{chapter(), ints(7), span(0, 0), 4, 9}, {open(chapter()), ints(1, 2, 3, 4, 5, 6, 7), span(0, 0), 4, 12}, {seen(open(chapter())), ints(0, 1, 2, 3, 4, 5, 6, 7), span(0, 2), 3, 13},
		// Numbers between can be missing: 5, 3 and 1 pints on the second day, and 0, too, on the third.
		{open(plain(3)), ints(0, 1, 2, 3), span(0, 0), 2, 4}, {open(plain(2)), ints(0, 1, 2), span(0, 0), 1, 3}, {open(plain(3, sight(1, 1, 1, 1))), ints(2, 3), span(0, 0), 2, 2}, {open(plain(3, sight(1, 2, 1, 1))), ints(2), span(0, 0), 0, 1}, {open(plain(3, sight(1, 0, 5, 5))), ints(0), span(0, 0), 0, 1}, {open(plain(3, sight(1, 2, 0, 0))), ints(3), span(0, 0), 0, 1}, {open(plain(3, sight(1, 0, 3, 3), sight(2, 2, 0, 3))), ints(1, 2, 3), span(0, 0), 2, 3},
		// Who wants nothing can be gone from any day on; too much in a week is wanted only by one who stays.
		{wanting(open(plain(2)), span(0, 0), span(0, 35)), ints(0, 1, 2), span(0, 0), 0, 1}, {wanting(open(plain(7)), span(1, 1), span(8, 35)), ints(0, 1, 2, 3, 4, 5, 6), span(0, 0), 4, 6}, {wanting(open(plain(9)), span(0, 0), span(1, 35)), ints(0, 1, 2, 3, 4, 5, 6), span(0, 0), 0, 1}, {wanting(open(plain(4)), span(2, 2), span(0, 5)), ints(0, 1, 2), span(0, 0), 1, 3},
		{fixed(bring(0, 1)), ints(3), span(1, 1), 0, 1}, {fixed(bring(0, 20), bring(0, 20)), ints(3), span(40, 40), 0, 1}, {fixed(bring(1, 2)), ints(3), span(0, 0), 0, 1}, {fixed(bring(1, 1), bring(1, 2)), ints(3), span(1, 1), 0, 1}, {fixed(bring(1, 3), bring(2, 3)), ints(3), span(2, 2), 0, 1}, {open(fixed(bring(2, 4))), ints(0, 1, 2, 3), span(0, 4), 1, 3},
		{api.Jar{Full: 5, Days: 2, Start: span(4, 5), Use: span(0, 1), Week: span(0, 35), Brings: []api.Bring{bring(0, 3), bring(1, 2)}}, ints(2), span(3, 5), 0, 2}, {api.Jar{Full: 9, Days: 3, Start: span(0, 9), Use: span(1, 1), Week: span(0, 35)}, ints(3), span(0, 0), 0, 9}, {api.Jar{Full: 9, Days: 2, Start: span(0, 9), Week: span(0, 35), Brings: []api.Bring{bring(1, 5)}}, ints(2), span(0, 5), 0, 10},
		{great(), ints(0, 1, 2, 3, 4, 5, 6, 7, 8, 9, 10), span(175, 240), 0, 6}, {api.Jar{Full: 1, Days: 1}, ints(1), span(0, 0), 0, 1},
	} {
		l, e := jar.Gone(x.j)
		s, f := jar.Lost(x.j)
		day, many, g := jar.Look(x.j)
		if !slices.Equal(l, x.gone) || e != api.OK || s != x.lost || f != api.OK || day != x.day || many != x.many || g != api.OK {
			t.Error(i, l, e, s, f, day, many, g)
		}
	}
}

// P5.5: the chapter's examples, and days that are later ones.
func TestFewest(t *testing.T) {
	for i, x := range []struct {
		j     api.Jar
		pints int
		l     []int
		e     api.Errno
	}{
		{chapter(), 2, ints(2), api.OK}, {chapter(), 1, ints(2, 3), api.OK}, {chapter(), 20, ints(2), api.OK}, {seen(chapter()), 2, ints(0), api.OK}, {chapter(bring(3, 2)), 1, nil, api.OK},
		{plain(2), 1, nil, api.OK}, {plain(3), 1, ints(1), api.OK}, {plain(3), 20, ints(1), api.OK}, {plain(4), 1, nil, api.ErrMany}, {plain(4), 2, ints(1, 2), api.OK}, {plain(4), 3, ints(2), api.OK}, {plain(5), 2, nil, api.ErrMany}, {plain(5), 3, ints(1, 3), api.OK}, {plain(5), 5, ints(1, 3), api.OK}, {plain(6), 5, ints(2, 4), api.OK}, {plain(7), 5, nil, api.ErrMany}, {plain(9), 5, nil, api.ErrMany}, {plain(9), 1, nil, api.ErrNone}, {plain(10), 20, nil, api.ErrMany},
		// With a sight only days behind it, be they enough or not.
		{plain(3, sight(1, 0, 3, 3)), 1, ints(1), api.OK}, {plain(3, sight(1, 1, 1, 1)), 1, ints(2), api.OK}, {plain(3, sight(1, 2, 0, 0)), 20, nil, api.ErrNone}, {plain(4, sight(1, 2, 0, 0)), 20, nil, api.ErrNone}, {plain(2, sight(1, 1, 0, 5)), 1, nil, api.OK}, {plain(4, sight(9, 1, 0, 5)), 2, ints(2, 3), api.OK},
		{open(plain(3)), 1, ints(1), api.OK}, {got(great()), 20, nil, api.ErrNone}, {great(), 1, nil, api.OK}, {api.Jar{Full: 1, Days: 1, Use: span(1, 1), Week: span(0, 35)}, 1, ints(0), api.OK}, {api.Jar{Full: 1, Days: 3, Use: span(1, 1), Week: span(0, 35)}, 1, nil, api.ErrMany}, {api.Jar{Full: 1, Days: 3, Use: span(1, 2), Week: span(0, 35)}, 20, nil, api.ErrNone},
	} {
		if l, e := jar.Fewest(x.j, x.pints); !slices.Equal(l, x.l) || e != x.e {
			t.Error(i, l, e)
		}
	}
}

// P5.6: the chapter's example, things that are brought on one day, and sights behind them.
func TestIdle(t *testing.T) {
	for i, x := range []struct {
		j api.Jar
		l []int
		e api.Errno
	}{
		{chapter(), nil, api.ErrNone}, {chapter(bring(4, 2), bring(5, 2)), ints(1, 2), api.OK}, {chapter(bring(4, 2)), nil, api.OK}, {chapter(bring(4, 2), bring(4, 1)), ints(2), api.OK}, {chapter(bring(4, 1), bring(4, 1)), nil, api.OK}, {chapter(bring(4, 2), bring(4, 2)), ints(1, 2), api.OK}, {chapter(bring(6, 9)), nil, api.ErrNone},
		{plain(2), nil, api.OK}, {got(plain(2), bring(0, 1)), ints(0), api.OK}, {got(plain(2, sight(1, 0, 0, 5)), bring(0, 1)), nil, api.OK}, {got(plain(2, sight(1, 0, 0, 5)), bring(0, 1), bring(1, 1)), ints(1), api.OK}, {got(plain(2, sight(1, 1, 0, 5)), bring(0, 1), bring(1, 1)), nil, api.OK}, {got(plain(3), bring(0, 9), bring(1, 1)), ints(0), api.OK}, {got(plain(3), bring(1, 1), bring(2, 1)), ints(0, 1), api.OK}, {got(plain(3), bring(2, 1)), nil, api.OK}, {got(plain(3), bring(0, 1)), nil, api.ErrNone}, {got(plain(4), bring(1, 2), bring(2, 1), bring(3, 2)), ints(0, 1, 2), api.OK}, {got(plain(4), bring(1, 1), bring(2, 1), bring(3, 2)), ints(0, 1), api.OK}, {got(plain(4), bring(1, 2), bring(2, 1)), nil, api.OK},
		{great(), nil, api.OK}, {seen(great()), ints(0, 1, 2, 3, 4, 5, 6, 7, 8, 9, 10, 11), api.OK}, {seen(got(great(), bring(0, 20))), nil, api.ErrNone},
	} {
		if l, e := jar.Idle(x.j); !slices.Equal(l, x.l) || e != x.e {
			t.Error(i, l, e)
		}
	}
}

// P5.7: the chapter's example, several lists that are as long, and too many false sights.
func TestWrong(t *testing.T) {
	two := api.Jar{Full: 5, Days: 3, Start: span(3, 4), Use: span(2, 2), Week: span(0, 35)}
	for i, x := range []struct {
		j api.Jar
		l []int
		e api.Errno
	}{
		{odd(), ints(2), api.OK}, {chapter(), nil, api.OK}, {plain(3), nil, api.OK}, {great(), nil, api.OK}, {api.Jar{Full: 1, Days: 1}, nil, api.OK},
		// It holds 3 or 4 at first, so that 1 or 2 are left.
		{seen(two, sight(1, 0, 1, 1), sight(2, 0, 2, 2)), ints(1), api.OK}, {seen(two, sight(1, 0, 2, 2), sight(2, 0, 1, 1)), ints(1), api.OK}, {seen(two, sight(1, 0, 1, 1), sight(2, 0, 2, 2), sight(3, 0, 1, 2)), ints(1), api.OK}, {seen(two, sight(1, 0, 1, 1), sight(2, 0, 2, 2), sight(3, 0, 1, 1)), ints(2), api.OK}, {seen(two, sight(3, 0, 1, 1), sight(5, 0, 2, 2), sight(6, 0, 1, 1), sight(9, 0, 2, 2)), ints(3, 6), api.OK}, {seen(two, sight(3, 0, 1, 1), sight(5, 0, 2, 2), sight(6, 0, 1, 1), sight(9, 0, 2, 2), sight(10, 0, 5, 5)), nil, api.ErrMany}, {seen(two, sight(3, 0, 5, 5), sight(5, 0, 2, 2), sight(6, 0, 1, 1)), ints(3, 5), api.OK}, {seen(two, sight(3, 0, 5, 5), sight(5, 0, 2, 2), sight(6, 2, 5, 5)), ints(3, 6), api.OK}, {seen(two, sight(3, 0, 5, 5), sight(5, 1, 2, 2), sight(6, 2, 5, 5)), nil, api.ErrMany},
		{open(seen(two, sight(3, 0, 5, 5), sight(5, 1, 2, 2), sight(6, 2, 5, 5))), ints(3, 6), api.OK},
		// Sights are not what is wrong, or not alone.
		{wanting(plain(7), span(2, 2), span(0, 13)), nil, api.ErrNone}, {wanting(plain(7, sight(1, 0, 4, 4)), span(2, 2), span(15, 35)), nil, api.ErrNone}, {open(wanting(plain(7, sight(1, 0, 4, 4)), span(2, 2), span(15, 35))), ints(1), api.OK},
		{seen(chapter(), sight(1, 0, 0, 0)), ints(1), api.OK},
	} {
		if l, e := jar.Wrong(x.j); !slices.Equal(l, x.l) || e != x.e {
			t.Error(i, l, e)
		}
	}
}
