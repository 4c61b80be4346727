package rounds_test

import (
	"slices"
	"testing"

	"aguador/api"
	"aguador/jar"
	"aguador/rounds"
)

// isTrue reports whether the jars of some homes have a truth.
func isTrue(homes ...api.Home) bool {
	return !slices.ContainsFunc(homes, func(h api.Home) bool {
		is, _ := jar.Can(h.Jar)
		return !is
	})
}

// small calls a test with rounds of which all plans can be listed.
func small(t *testing.T, many int, some func(r api.Rounds, f facts, d *dice)) {
	t.Helper()
	d := &dice{state: 23}
	several, none := 0, 0
	for range many {
		r := d.rounds()
		if e := rounds.Check(r); e != api.OK {
			t.Fatal(r, e)
		}
		if len(r.Homes) > 1 && len(r.Carriers) > 1 {
			several++
		}
		if !isTrue(r.Homes...) {
			none++
		}
		some(r, factsOf(r), d)
		if t.Failed() {
			t.Fatalf("%+v", r)
		}
	}
	if several < many/5 || none < many/40 {
		t.Error("too few of a kind:", several, none)
	}
}

// checkKinds checks that there were enough of each kind.
func checkKinds[K comparable](t *testing.T, kinds map[K]int, least map[K]int) {
	t.Helper()
	for kind, n := range least {
		if kinds[kind] < n {
			t.Error("too few of a kind:", kind, kinds)
		}
	}
}

// checkPlan checks Plan and Fewest by the good plans, and returns that which is before all others: false if there is none.
func checkPlan(t *testing.T, r api.Rounds, good []whole) (whole, bool) {
	t.Helper()
	if len(good) == 0 {
		expect(t, r, given{}, api.ErrNone, "Plan", "Fewest")
		return whole{}, false
	}
	w := best(good)
	if l, u, e := rounds.Plan(r); !sameLists(l, w.plan) || u != w.toil || e != api.OK {
		t.Error("Plan", l, u, e, w)
	}
	least := slices.MinFunc(good, func(a, b whole) int { return a.skins - b.skins })
	if n, e := rounds.Fewest(r); n != least.skins || e != api.OK {
		t.Error("Fewest", n, e, least)
	}
	return w, true
}

// checkFails checks Fails by all plans, and returns the day and the homes: the day behind the last one if there is a good plan.
func checkFails(t *testing.T, r api.Rounds, f facts, all []whole) (int, []int) {
	t.Helper()
	day, ids := f.fails(all)
	if day == f.end() {
		expect(t, r, given{}, api.ErrNone, "Fails")
		return day, nil
	}
	if n, l, e := rounds.Fails(r); n != day || !slices.Equal(l, ids) || e != api.OK {
		t.Error("Fails", n, l, e, day, ids)
	}
	return day, ids
}

// P6.4, P6.9, P6.10, P6.12: the good plan that is before all others, of all plans, and the fewest skins.
func TestPlanOfAllPlans(t *testing.T) {
	kinds := map[string]int{}
	small(t, 5000, func(r api.Rounds, f facts, _ *dice) {
		if !isTrue(r.Homes...) {
			expect(t, r, given{}, api.ErrBad, "Plan", "Fewest")
			return
		}
		good := f.good(f.plans(f.days()))
		w, ok := checkPlan(t, r, good)
		if !ok {
			kinds["none"]++
			return
		}
		count := func(kind string, is func(x whole) bool) {
			if slices.ContainsFunc(good, is) {
				kinds[kind]++
			}
		}
		count("skins", func(x whole) bool { return w.skins > 0 })
		count("more toil", func(x whole) bool { return less(w.toil, x.toil) })
		count("more skins", func(x whole) bool { return x.toil == w.toil && x.skins > w.skins })
		count("numbers", func(x whole) bool { return x.toil == w.toil && x.skins == w.skins && !sameLists(x.plan, w.plan) })
	})
	checkKinds(t, kinds, map[string]int{"none": 500, "skins": 500, "more toil": 500, "more skins": 50, "numbers": 200})
}

// P6.4, P6.5, P6.10, P6.11: rounds as large as they can be, of which for all homes that are served on a day only the best day is tried.
func TestLargeRounds(t *testing.T) {
	kinds := map[bool]int{}
	d := &dice{state: 29}
	for range 40 {
		r := d.sized(4, 4, d.upTo(2, 3))
		if !isTrue(r.Homes...) {
			continue
		}
		f := factsOf(r)
		all := f.plans(f.fewDays())
		_, ok := checkPlan(t, r, f.good(all))
		checkFails(t, r, f, all)
		kinds[ok]++
	}
	checkKinds(t, kinds, map[bool]int{true: 10, false: 5})
}

// P6.5, P6.11: the day by which some home may have run dry by all plans, and the homes that may on it by some.
func TestFailsOfAllPlans(t *testing.T) {
	kinds, lengths := map[int]int{}, map[int]int{}
	small(t, 5000, func(r api.Rounds, f facts, _ *dice) {
		if !isTrue(r.Homes...) {
			expect(t, r, given{}, api.ErrBad, "Fails")
			return
		}
		day, ids := checkFails(t, r, f, f.plans(f.days()))
		kinds[day-r.From]++
		lengths[len(ids)]++
	})
	checkKinds(t, kinds, map[int]int{-2: 20, -1: 50, 0: 100, 1: 100, 2: 30, 3: 10})
	checkKinds(t, lengths, map[int]int{0: 1000, 1: 500, 2: 100, 3: 10})
}

// P6.4, P6.8, P6.12: what a carrier is worth; with one more there is never more toil, nor with a home less.
func TestMoreAndLess(t *testing.T) {
	kinds := map[string]int{}
	small(t, 4000, func(r api.Rounds, _ facts, _ *dice) {
		_, whole, e := rounds.Plan(r)
		for at, c := range r.Carriers {
			y := r
			y.Carriers = slices.Delete(slices.Clone(r.Carriers), at, at+1)
			if z, e := rounds.Dismiss(r, c.Id); !same(z, y) || e != api.OK {
				t.Error("Dismiss", z, e)
			}
			_, want, g := rounds.Plan(y)
			u, h := rounds.Without(r, c.Id)
			if u != want || h != g || g == api.OK && (e != api.OK || less(u, whole)) {
				t.Error("Without", c.Id, u, h, want, g)
			}
			switch {
			case g != e:
				kinds["needed"]++
			case g == api.OK && u != whole:
				kinds["worth something"]++
			case g == api.OK:
				kinds["worth nothing"]++
			}
		}
		for _, x := range r.Homes {
			y, e2 := rounds.Drop(r, x.Id)
			_, u, g := rounds.Plan(y)
			if e2 != api.OK || e == api.OK && (g != api.OK || less(whole, u)) {
				t.Error("Drop", x.Id, u, g)
			}
			if e == api.OK && u != whole {
				kinds["less toil"]++
			}
		}
	})
	checkKinds(t, kinds, map[string]int{"needed": 200, "worth something": 50, "worth nothing": 300, "less toil": 150})
}

// P6.3, P6.13: on which days a home must be served, of all lists of days; with any day less it may run dry.
func TestNeedsOfAllLists(t *testing.T) {
	lengths, mixed := map[int]int{}, 0
	small(t, 3000, func(r api.Rounds, f facts, d *dice) {
		for i, h := range r.Homes {
			if !isTrue(h) {
				expect(t, r, given{home: h.Id}, api.ErrBad, "Dry", "Needs")
				continue
			}
			l, e := rounds.Needs(r, h.Id)
			want := f.needs(i)
			if !sameLists(l, want) || (e == api.OK) != (len(want) > 0) || e != api.OK && e != api.ErrNone {
				t.Error("Needs", h.Id, l, e, want)
			}
			for _, days := range l {
				lengths[len(days)]++
				checkNeeded(t, r, h.Id, days)
			}
			if len(l) == 0 {
				lengths[-1]++
			} else if len(l[0]) < len(l[len(l)-1]) {
				mixed++
			}
			checkDry(t, f, i, d.upTo(0, 1<<r.Days-1))
		}
	})
	checkKinds(t, lengths, map[int]int{-1: 300, 0: 500, 1: 500, 2: 200, 3: 50, 4: 10})
	if mixed < 20 {
		t.Error("too few lists of more than one length:", mixed)
	}
}

// checkNeeded checks that a home may not run dry that is served on all of the days, but without any one of them.
func checkNeeded(t *testing.T, r api.Rounds, id int, days []int) {
	t.Helper()
	if day, e := rounds.Dry(r, id, days); day != 0 || e != api.ErrNone {
		t.Error("Dry", id, days, day, e)
	}
	for i := range days {
		less := slices.Delete(slices.Clone(days), i, i+1)
		if day, e := rounds.Dry(r, id, less); e != api.OK {
			t.Error("Dry", id, less, day, e)
		}
	}
}

// checkDry checks when a home may run dry that is served on a set of days.
func checkDry(t *testing.T, f facts, home, set int) {
	t.Helper()
	var days []int
	for i := range f.r.Days {
		if has(set, i) {
			days = append(days, f.r.From+i)
		}
	}
	day, e := f.dryOn(home, set), api.OK
	if day == f.end() {
		day, e = 0, api.ErrNone
	}
	if n, g := rounds.Dry(f.r, f.r.Homes[home].Id, days); n != day || g != e {
		t.Error("Dry", f.r.Homes[home].Id, days, n, g)
	}
}

// P6.2, P6.16: all routes, by all orders of their places; one with a home less is never more toil.
func TestRoutesByAllOrders(t *testing.T) {
	kinds := map[int]int{}
	small(t, 2000, func(r api.Rounds, f facts, _ *dice) {
		for at, c := range r.Carriers {
			for set := range 1 << len(r.Homes) {
				var ids []int
				for i, h := range r.Homes {
					if has(set, i) {
						ids = append(ids, h.Id)
					}
				}
				want := f.path(at, set)
				l, u, e := rounds.Route(r, c.Id, ids)
				if !slices.Equal(l, want.ids) || u != want.toil || (e == api.OK) != want.ok || e != api.OK && e != api.ErrNone {
					t.Error("Route", c.Id, ids, l, u, e, want)
				}
				if !want.ok {
					kinds[-1]++
					continue
				}
				if !slices.IsSorted(l) {
					kinds[len(l)]++
				}
				for i := range ids {
					_, v, e := rounds.Route(r, c.Id, slices.Delete(slices.Clone(ids), i, i+1))
					if e != api.OK || less(u, v) {
						t.Error("Route", c.Id, ids, i, v, e)
					}
				}
			}
		}
	})
	checkKinds(t, kinds, map[int]int{-1: 300, 2: 100, 3: 100, 4: 50})
}

// anyPlan is numbers that custom mostly allows, and some that it forbids.
func (d *dice) anyPlan(r api.Rounds, odd int) [][]int {
	ids := ints(0, 0)
	for _, c := range r.Carriers {
		ids = append(ids, c.Id)
	}
	var plan [][]int
	for range r.Days {
		var l []int
		for range r.Homes {
			n := d.one(ids)
			if d.upTo(1, odd) == 1 {
				n = d.one(ints(-1, 1, 2, 3, 4, 5, 6, 9999, low, huge))
			}
			l = append(l, n)
		}
		plan = append(plan, l)
	}
	return plan
}

// P6.6, P6.14: the first number that custom forbids; all before it are as custom allows.
func TestBreaksOfAnyNumbers(t *testing.T) {
	rules, firsts := map[int]int{}, map[bool]int{}
	small(t, 6000, func(r api.Rounds, f facts, d *dice) {
		plan := d.anyPlan(r, 12)
		want, e := [3]int{}, api.ErrNone
		for i, l := range plan {
			if home, rule := f.broken(l); rule != 0 && e == api.ErrNone {
				want, e = [3]int{r.From + i, r.Homes[home].Id, rule}, api.OK
			}
		}
		a, b, c, g := rounds.Breaks(r, plan)
		if [3]int{a, b, c} != want || g != e {
			t.Error("Breaks", plan, a, b, c, g, want, e)
		}
		rules[c]++
		if g == api.OK {
			firsts[a == r.From]++
			checkBefore(t, r, plan, a-r.From, b, c)
		}
	})
	checkKinds(t, rules, map[int]int{0: 500, 1: 300, 2: 300, 3: 100, 4: 100})
	checkKinds(t, firsts, map[bool]int{true: 500, false: 500})
}

// checkBefore checks that custom allows all numbers before a day, and what the first three rules say of those on it before a home, which a route that cannot be gone does not go ahead of.
func checkBefore(t *testing.T, r api.Rounds, plan [][]int, day, home, rule int) {
	t.Helper()
	for i := range plan {
		plan[i] = slices.Clone(plan[i])
		for k, h := range r.Homes {
			if i > day || i == day && (h.Id >= home || rule == 4) {
				plan[i][k] = 0
			}
		}
	}
	a, b, c, e := rounds.Breaks(r, plan)
	if e == api.OK && (a-r.From != day || c != 4) {
		t.Error("Breaks", plan, a, b, c, e)
	}
}

func homeAt(r api.Rounds, id int) int {
	return slices.IndexFunc(r.Homes, func(h api.Home) bool { return h.Id == id })
}

// P6.6, P6.7, P6.15: what plans climb, whom they leave dry, on which days homes are served, and that all skins are brought or left.
func TestJudgeOfAnyPlans(t *testing.T) {
	kinds := map[string]int{}
	small(t, 8000, func(r api.Rounds, f facts, d *dice) {
		plan := d.anyPlan(r, 1000)
		if slices.ContainsFunc(plan, func(l []int) bool { _, rule := f.broken(l); return rule != 0 }) {
			kinds["forbidden"]++
			id := 0
			if len(r.Homes) > 0 {
				id = r.Homes[0].Id
			}
			expect(t, r, given{home: id, plan: plan}, api.ErrPlan, "Judge", "Served", "Left")
			return
		}
		checkLeft(t, r, f, plan)
		if !isTrue(r.Homes...) {
			expect(t, r, given{plan: plan}, api.ErrBad, "Judge")
			return
		}
		w := f.weigh(plan)
		id, day := 0, 0
		for i := len(r.Homes) - 1; i >= 0; i-- {
			if h := r.Homes[i]; h.Pays && w.dry < f.end() && f.dryBy(plan, i) == w.dry {
				id, day = h.Id, w.dry
			}
		}
		u, a, b, e := rounds.Judge(r, plan)
		if u != w.toil || a != id || b != day || e != api.OK {
			t.Error("Judge", plan, u, a, b, e, w)
		}
		switch {
		case id == 0:
			kinds["good"]++
		case homeAt(r, id) > 0:
			kinds["a later home"]++
		default:
			kinds["the first home"]++
		}
	})
	checkKinds(t, kinds, map[string]int{"forbidden": 1000, "good": 500, "the first home": 300, "a later home": 200})
}

// checkLeft checks the days on which homes are served, and that all skins are brought or left.
func checkLeft(t *testing.T, r api.Rounds, f facts, plan [][]int) {
	t.Helper()
	brought := 0
	for i, h := range r.Homes {
		var want []int
		for day, l := range plan {
			if l[i] != 0 {
				want = append(want, r.From+day)
			}
		}
		l, e := rounds.Served(r, plan, h.Id)
		if !slices.Equal(l, want) || e != api.OK {
			t.Error("Served", plan, h.Id, l, e)
		}
		brought += len(l)
	}
	left, e := rounds.Left(r, plan)
	if len(left) != len(r.Carriers) || e != api.OK {
		t.Fatal("Left", plan, left, e)
	}
	for i, c := range r.Carriers {
		served := 0
		for _, n := range slices.Concat(plan...) {
			if n == c.Id {
				served++
			}
		}
		if left[i] != c.Skins*r.Days-served || left[i] < 0 {
			t.Error("Left", plan, left)
		}
		brought -= served
	}
	if brought != 0 {
		t.Error("skins that nobody brings:", plan, brought)
	}
}

// P6.9, P6.10: what is told of the plan by one call is what another one says of it.
func TestPlanIsGood(t *testing.T) {
	many := 0
	d := &dice{state: 31}
	for range 1500 {
		r := d.sized(d.upTo(1, 4), d.upTo(1, 4), d.upTo(1, 3))
		plan, u, e := rounds.Plan(r)
		if e != api.OK {
			continue
		}
		many++
		v, home, day, e := rounds.Judge(r, plan)
		if u != v || home != 0 || day != 0 || e != api.OK {
			t.Fatalf("%+v %v %v %v %v %v", r, plan, v, home, day, e)
		}
		for i, h := range r.Homes {
			days, e := rounds.Served(r, plan, h.Id)
			if e != api.OK || !h.Pays && len(days) > 0 {
				t.Fatalf("%+v %v %v %v", r, plan, days, e)
			}
			for _, day := range days {
				fewer := slices.Clone(plan)
				fewer[day-r.From] = slices.Clone(plan[day-r.From])
				fewer[day-r.From][i] = 0
				if _, home, _, e := rounds.Judge(r, fewer); home == 0 || e != api.OK {
					t.Fatalf("%+v %v: the skin of %d on %d is not needed", r, plan, h.Id, day)
				}
			}
		}
	}
	if many < 300 {
		t.Error("too few good plans:", many)
	}
}
