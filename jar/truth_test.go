package jar_test

import (
	"slices"
	"testing"

	"aguador/api"
	"aguador/jar"
)

// small calls a test with jars of which all truths are listed: those with all sights true, and those with sights not regarded.
func small(t *testing.T, many, sights int, some func(j api.Jar, l, all []truth, r *dice)) {
	t.Helper()
	r := &dice{state: 17}
	several, none := 0, 0
	for range many {
		j := r.jar(sights)
		if e := jar.Check(j); e != api.OK {
			t.Fatal(j, e)
		}
		all := truths(j)
		l := trueOnes(j, all)
		if len(l) > 1 {
			several++
		}
		if len(l) == 0 {
			none++
		}
		some(j, l, all, r)
		if t.Failed() {
			t.Fatal(j)
		}
	}
	if several < many/3 || none < many/20 {
		t.Error("too few of a kind:", several, none)
	}
}

// P5.2, P5.9, P5.10: what the jar holds and what the house wants, on each day and in each week.
func TestHoldsInAllTruths(t *testing.T) {
	weeks := map[int]int{}
	small(t, 1500, 4, func(j api.Jar, l, _ []truth, _ *dice) {
		if is, e := jar.Can(j); is != (len(l) > 0) || e != api.OK {
			t.Error("Can", is, e)
		}
		for day := range j.Days {
			if len(l) == 0 {
				expect(t, j, given{day: day, week: day / 7}, api.ErrBad, "Holds", "Wants", "Week")
				continue
			}
			held, e := jar.Holds(j, day)
			if held != spanOf(l, func(x truth) int { return pass(j, x, nil)[day].left }) || e != api.OK {
				t.Error("Holds", day, held, e)
			}
			wants, e := jar.Wants(j, day)
			if wants != spanOf(l, func(x truth) int { return x.wants[day] }) || e != api.OK {
				t.Error("Wants", day, wants, e)
			}
			week, e := jar.Week(j, day/7)
			if week != spanOf(l, func(x truth) int { return x.sum(day / 7) }) || e != api.OK {
				t.Error("Week", day, week, e)
			}
			weeks[day/7]++
		}
	})
	if weeks[0] < 1000 || weeks[1] < 100 {
		t.Error("too few of a kind:", weeks)
	}
}

// P5.3, P5.9, P5.16: when the jar may run dry first, and by when it surely has.
func TestDryInAllTruths(t *testing.T) {
	may, must := map[int]int{}, map[int]int{}
	small(t, 2000, 3, func(j api.Jar, l, _ []truth, r *dice) {
		var days []int
		for _, day := range laterDays(j) {
			if r.upTo(0, 2) == 0 {
				days = append(days, day)
			}
		}
		g := given{days: days, pints: r.one(ints(1, 1, 2, 3, 9, 20))}
		if len(l) == 0 {
			expect(t, j, g, api.ErrBad, "Dry", "Must")
			return
		}
		checkDay(t, j, may, "Dry", dryIn(j, l, g.pints, days...).Lo, func() (int, api.Errno) { return jar.Dry(j, days, g.pints) })
		checkDay(t, j, must, "Must", dryIn(j, l, 0).Hi, func() (int, api.Errno) { return jar.Must(j) })
	})
	for _, day := range ints(-1, 0, 1, 2, 3, 4, 5) {
		if may[day] < 10 || must[day] < 5 {
			t.Error("too few of a kind:", day, may, must)
		}
	}
}

// checkDay checks a day that is told: none if it is behind the last one. It counts the days, -1 for none.
func checkDay(t *testing.T, j api.Jar, many map[int]int, name string, want int, run func() (int, api.Errno)) {
	t.Helper()
	day, e := run()
	if want == j.Days {
		if day != 0 || e != api.ErrNone {
			t.Error(name, day, e)
		}
		many[-1]++
		return
	}
	if day != want || e != api.OK {
		t.Error(name, day, e, want)
	}
	many[day]++
}

// P5.4, P5.9: from when on the house can be gone, what can have run over, and the day of which the least is known.
func TestGoneLostAndLookInAllTruths(t *testing.T) {
	lengths, open := map[int]int{}, 0
	small(t, 2000, 3, func(j api.Jar, l, _ []truth, _ *dice) {
		if len(l) == 0 {
			expect(t, j, given{}, api.ErrBad, "Gone", "Lost", "Look")
			return
		}
		days, e := jar.Gone(j)
		if !slices.Equal(days, numbersOf(l, func(x truth) int { return x.gone })) || e != api.OK {
			t.Error("Gone", days, e)
		}
		lengths[len(days)]++
		lost, e := jar.Lost(j)
		over := func(x truth) (n int) {
			for _, d := range pass(j, x, nil) {
				n += d.over
			}
			return n
		}
		if lost != spanOf(l, over) || e != api.OK {
			t.Error("Lost", lost, e)
		}
		if lost.Lo < lost.Hi {
			open++
		}
		day, most := 0, 0
		for d := range j.Days {
			if n := len(numbersOf(l, func(x truth) int { return pass(j, x, nil)[d].left })); n > most {
				day, most = d, n
			}
		}
		if d, n, e := jar.Look(j); d != day || n != most || e != api.OK {
			t.Error("Look", d, n, e, day, most)
		}
	})
	if open < 200 || lengths[1] < 200 || lengths[2] < 50 || lengths[5] < 20 || lengths[8] < 5 {
		t.Error("too few of a kind:", open, lengths)
	}
}

// P5.13: what there was at first, and is brought, is what is taken, what is left, and what ran over.
func TestNoPintIsLost(t *testing.T) {
	ranOver, ranDry := 0, 0
	r := &dice{state: 19}
	for range 4000 {
		j := r.jar(0)
		j.Start.Hi, j.Use.Hi, j.Week, j.May = j.Start.Lo, j.Use.Lo, span(0, 35), api.KnownNo
		there := j.Start.Lo
		for _, x := range j.Brings {
			there += x.Pints
		}
		left, e := jar.Holds(j, j.Days-1)
		lost, f := jar.Lost(j)
		if left.Lo != left.Hi || e != api.OK || lost.Lo != lost.Hi || f != api.OK {
			t.Fatal(j, left, e, lost, f)
		}
		taken := there - left.Lo - lost.Lo
		_, e = jar.Dry(j, nil, 1)
		if taken > j.Use.Lo*j.Days || (taken < j.Use.Lo*j.Days) != (e == api.OK) {
			t.Fatal(j, there, left, lost, e)
		}
		if lost.Lo > 0 {
			ranOver++
		}
		if e == api.OK {
			ranDry++
		}
	}
	if ranOver < 500 || ranDry < 500 {
		t.Error("too few of a kind:", ranOver, ranDry)
	}
	// With nothing known, in each single truth.
	small(t, 400, 2, func(j api.Jar, l, _ []truth, _ *dice) {
		for _, x := range l {
			n := x.start
			for _, b := range j.Brings {
				n += b.Pints
			}
			days := pass(j, x, nil)
			for _, d := range days {
				n -= d.taken + d.over
			}
			if n != days[j.Days-1].left {
				t.Error(x, n, days)
			}
		}
	})
}

// P5.5, P5.12: the fewest deliveries, of all lists of days.
func TestFewestOfAllLists(t *testing.T) {
	kinds := map[int]int{}
	small(t, 1600, 2, func(j api.Jar, l, _ []truth, r *dice) {
		pints := r.one(ints(1, 1, 1, 2, 2, 3, 4, 20))
		if len(l) == 0 {
			kinds[-int(api.ErrBad)]++
			expect(t, j, given{pints: pints}, api.ErrBad, "Fewest")
			return
		}
		want, f := fewestOf(j, l, pints)
		days, e := jar.Fewest(j, pints)
		if !slices.Equal(days, want) || e != f {
			t.Error("Fewest", pints, days, e, want, f)
		}
		if e != api.OK {
			kinds[-int(e)]++
			return
		}
		kinds[len(days)]++
		if day, e := jar.Dry(j, days, pints); day != 0 || e != api.ErrNone {
			t.Error("Dry", days, pints, day, e)
		}
	})
	for _, kind := range ints(0, 1, 2, -int(api.ErrBad), -int(api.ErrMany), -int(api.ErrNone)) {
		if kinds[kind] < 20 {
			t.Error("too few of a kind:", kind, kinds)
		}
	}
}

// P5.12: one delivery more never makes the jar run dry sooner.
func TestMoreIsNeverSooner(t *testing.T) {
	later := 0
	small(t, 3000, 1, func(j api.Jar, l, _ []truth, r *dice) {
		days := laterDays(j)
		if len(l) == 0 || len(days) == 0 {
			return
		}
		pints := r.upTo(1, 4)
		var some []int
		for _, day := range days {
			if r.upTo(0, 3) == 0 {
				some = append(some, day)
			}
		}
		more := append(slices.Clone(some), r.one(days))
		slices.Sort(more)
		a, e := jar.Dry(j, some, pints)
		b, f := jar.Dry(j, slices.Compact(more), pints)
		if e == api.ErrNone && f != api.ErrNone || f == api.OK && b < a {
			t.Error(some, more, pints, a, e, b, f)
		}
		if e == api.OK && (f == api.ErrNone || b > a) {
			later++
		}
	})
	if later < 200 {
		t.Error("too few run dry later:", later)
	}
}

// P5.6: what need not be brought, of all things that are.
func TestIdleOfAllTruths(t *testing.T) {
	kinds := map[int]int{}
	small(t, 4000, 2, func(j api.Jar, l, _ []truth, _ *dice) {
		if len(l) == 0 {
			kinds[-int(api.ErrBad)]++
			expect(t, j, given{}, api.ErrBad, "Idle")
			return
		}
		want, f := idleOf(j, l)
		idle, e := jar.Idle(j)
		if !slices.Equal(idle, want) || e != f {
			t.Error("Idle", idle, e, want, f)
		}
		if e != api.OK {
			kinds[-int(e)]++
			return
		}
		kinds[len(idle)]++
	})
	for _, kind := range ints(0, 1, 2, 3, -int(api.ErrBad), -int(api.ErrNone)) {
		if kinds[kind] < 50 {
			t.Error("too few of a kind:", kind, kinds)
		}
	}
}

// P5.7, P5.15: the fewest false sights, of all lists of sights.
func TestWrongOfAllLists(t *testing.T) {
	kinds := map[int]int{}
	small(t, 2000, 7, func(j api.Jar, _, all []truth, _ *dice) {
		l, e := jar.Wrong(j)
		want, f := falseOnes(j, all)
		if !slices.Equal(l, want) || e != f {
			t.Error("Wrong", l, e, want, f)
		}
		if e != api.OK {
			kinds[-int(e)]++
			return
		}
		kinds[len(l)]++
		better, e := jar.Strike(j, l)
		is, f := jar.Can(better)
		if e != api.OK || !is || f != api.OK {
			t.Error("Strike", l, e, is, f)
		}
	})
	for _, kind := range ints(0, 1, 2, -int(api.ErrMany), -int(api.ErrNone)) {
		if kinds[kind] < 50 {
			t.Error("too few of a kind:", kind, kinds)
		}
	}
}

// P5.11: one sight more never widens what is known, nor does it make the jar run dry sooner.
func TestSightsNeverWiden(t *testing.T) {
	narrower, r := map[string]int{}, &dice{state: 41}
	for range 6000 {
		j := r.jar(2)
		x := r.sights(j, 1)[0]
		x.Id = 100
		more, e := jar.See(j, x)
		if e != api.OK {
			t.Fatal(j, x, e)
		}
		checkNarrower(t, j, more, narrower)
		if t.Failed() {
			t.Fatal(j, x)
		}
	}
	for _, name := range []string{"Can", "Holds", "Wants", "Week", "Lost", "Gone", "Dry", "Must", "Look"} {
		if narrower[name] < 20 {
			t.Error("too few narrow anything:", name, narrower)
		}
	}
}

// P5.14: a house that may have left has all truths of one that has not, and more.
func TestOpenIsWider(t *testing.T) {
	narrower, r := map[string]int{}, &dice{state: 43}
	for range 4000 {
		j := r.jar(2)
		j.May = api.KnownNo
		wide := open(j)
		checkNarrower(t, wide, j, narrower)
		if t.Failed() {
			t.Fatal(j)
		}
		if is, _ := jar.Can(j); !is {
			continue
		}
		days, _ := jar.Gone(j)
		if all, e := jar.Gone(wide); !slices.Equal(days, ints(j.Days)) || e != api.OK || all[len(all)-1] != j.Days {
			t.Fatal(j, days, all, e)
		}
	}
	for _, name := range []string{"Can", "Holds", "Wants", "Week", "Lost", "Gone", "Must", "Look"} {
		if narrower[name] < 20 {
			t.Error("too few of a kind:", name, narrower)
		}
	}
}

// checkNarrower checks that whatever can be so of a jar can be so of another one, too, and counts what cannot, by the calls that tell it.
func checkNarrower(t *testing.T, wide, j api.Jar, narrower map[string]int) {
	t.Helper()
	if is, _ := jar.Can(j); !is {
		if was, _ := jar.Can(wide); was {
			narrower["Can"]++
		}
		return
	}
	for day := range j.Days {
		for _, c := range calls(given{day: day, week: day / 7, pints: 1}) {
			isFit, ok := fits()[c.name]
			if !ok || day > 0 && !slices.Contains([]string{"Holds", "Wants", "Week"}, c.name) {
				continue
			}
			a, b := c.run(wide), c.run(j)
			if !isFit(b, a) {
				t.Error("wider:", c.name, day, a, b)
			}
			if !a.equal(b) {
				narrower[c.name]++
			}
		}
	}
}

// fits has how what is told of a jar must fit to what is told of another one, of which all can be so that can be of the first one.
func fits() map[string]func(a, of told) bool {
	isIn := func(a, of told) bool {
		isMissing := func(n int) bool { return !slices.Contains(of.l, n) }
		return a.e == api.OK && of.e == api.OK && a.n <= of.n && a.x.Lo >= of.x.Lo && a.x.Hi <= of.x.Hi && !slices.ContainsFunc(a.l, isMissing)
	}
	isNotSooner := func(a, of told) bool { return a.e == api.ErrNone || of.e == api.OK && a.n >= of.n }
	return map[string]func(a, of told) bool{
		"Can": isIn, "Holds": isIn, "Wants": isIn, "Week": isIn, "Lost": isIn, "Gone": isIn,
		"Look": func(a, of told) bool { return a.e == api.OK && of.e == api.OK && a.many <= of.many },
		"Dry":  isNotSooner,
		"Must": func(a, of told) bool { return isNotSooner(of, a) },
	}
}
