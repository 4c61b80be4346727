package town_test

import (
	"slices"
	"testing"

	"aguador/api"
	"aguador/town"
)

// smalls calls a test with so many small supplies.
func smalls(t *testing.T, many int, state uint64, some func(s api.Supply, r *dice)) {
	t.Helper()
	r := &dice{state: state}
	for range many {
		s := r.small()
		some(s, r)
		if t.Failed() {
			t.Fatal(s)
		}
	}
}

// greats calls a test with so many supplies of all sizes, in a week, with what the fountains give in it.
func greats(t *testing.T, many int, state uint64, some func(s api.Supply, week int, water []api.Span, r *dice)) {
	t.Helper()
	r := &dice{state: state}
	for range many {
		s, all := r.great()
		week := r.upTo(0, len(all[0])-1)
		var water []api.Span
		for _, l := range all {
			water = append(water, l[week])
		}
		some(s, week, water, r)
		if t.Failed() {
			t.Fatal(s, week, water)
		}
	}
}

// los and his are the ends of what the fountains give.
func los(l []api.Span) (all []int) {
	for _, x := range l {
		all = append(all, x.Lo)
	}
	return all
}

func his(l []api.Span) (all []int) {
	for _, x := range l {
		all = append(all, x.Hi)
	}
	return all
}

// end is what the fountains give at worst, or at best.
func end(water []api.Span, best bool) []int {
	if best {
		return his(water)
	}
	return los(water)
}

// P9.2, P9.9, P9.11: whether there is enough, in each truth, and from when on in none.
func TestEnoughInTruths(t *testing.T) {
	many := map[uint8]int{}
	firsts := map[api.Errno]int{}
	smalls(t, 800, 1, func(s api.Supply, _ *dice) {
		weeks := weeksOf(s)
		if n, e := town.Weeks(s); n != weeks || e != api.OK {
			t.Error("Weeks", n, e)
		}
		enough := make([][]bool, weeks)
		for _, x := range truths(s) {
			was := true
			for week := range weeks {
				is := canDraw(s, x.in(week), x.needs)
				if is && !was {
					t.Error("enough again", x, week)
				}
				was = is
				enough[week] = append(enough[week], is)
			}
		}
		perhaps, surely := -1, -1
		for week := weeks - 1; week >= 0; week-- {
			want := known(enough[week])
			many[want]++
			if want != api.KnownYes {
				perhaps = week
			}
			if want == api.KnownNo {
				surely = week
			}
			if k, e := town.Enough(s, week); k != want || e != api.OK {
				t.Error("Enough", week, k, e, want)
			}
			for _, best := range []bool{false, true} {
				if l, e := town.Water(s, week, best); !slices.Equal(l, ends(s, week, best)) || e != api.OK {
					t.Error("Water", week, best, l, e)
				}
			}
		}
		n, e := town.Perhaps(s)
		firsts[e]++
		checkFirst(t, "Perhaps", n, e, perhaps)
		n, e = town.Surely(s)
		checkFirst(t, "Surely", n, e, surely)
	})
	if many[api.KnownYes] < 100 || many[api.KnownOpen] < 100 || many[api.KnownNo] < 100 || firsts[api.OK] < 100 || firsts[api.ErrNone] < 30 {
		t.Error("too few of a kind:", many, firsts)
	}
}

// checkFirst checks what is told of a first week, which is -1 if there is none.
func checkFirst(t *testing.T, name string, n int, e api.Errno, want int) {
	t.Helper()
	if want < 0 && (n != 0 || e != api.ErrNone) || want >= 0 && (n != want || e != api.OK) {
		t.Error(name, n, e, want)
	}
}

// P9.4: what the streets can get together, and whether each can have its least, in each truth.
func TestMostInTruths(t *testing.T) {
	many := map[uint8]int{}
	wide := 0
	smalls(t, 800, 2, func(s api.Supply, r *dice) {
		week := r.upTo(0, weeksOf(s)-1)
		var got []int
		var least []bool
		for _, x := range truths(s) {
			got = append(got, gets(s, x.in(week), x.needs))
			least = append(least, canDraw(s, x.in(week), leastsOf(s)))
		}
		want := span(slices.Min(got), slices.Max(got))
		if x, e := town.Most(s, week); x != want || e != api.OK {
			t.Error("Most", week, x, e, want)
		}
		if want.Lo < want.Hi {
			wide++
		}
		many[known(least)]++
		if k, e := town.Least(s, week); k != known(least) || e != api.OK {
			t.Error("Least", week, k, e)
		}
	})
	if many[api.KnownYes] < 50 || many[api.KnownOpen] < 30 || many[api.KnownNo] < 20 || wide < 100 {
		t.Error("too few of a kind:", many, wide)
	}
}

// The two ways in which the tests find out what can be agree.
func TestWaysToDraw(t *testing.T) {
	can, not := 0, 0
	smalls(t, 400, 3, func(s api.Supply, r *dice) {
		water := ends(s, 0, true)
		most := 0
		for _, shares := range sharings(s) {
			is := canDraw(s, water, shares)
			if is {
				can++
			} else {
				not++
			}
			if canGet(s, water, shares) != is {
				t.Error(shares, is)
			}
		}
		for _, x := range s.Streets {
			most = max(most, x.Need.Hi)
		}
		for _, shares := range products(slices.Repeat([][]int{numbers(span(0, most))}, len(s.Streets))) {
			if n := gets(s, water, needsOf(s, false)); isWithin(shares, needsOf(s, false)) && canDraw(s, water, shares) && sumOf(shares) > n {
				t.Error(shares, n)
			}
		}
	})
	if can < 1000 || not < 1000 {
		t.Error("too few of a kind:", can, not)
	}
}

// isWithin reports whether no share is more than is needed.
func isWithin(shares, needs []int) bool {
	for i, n := range shares {
		if n > needs[i] {
			return false
		}
	}
	return true
}

// P9.3, P9.10: there is not enough just if some streets prove it, and the first ones that do are told.
func TestProofOfSmall(t *testing.T) {
	lengths := map[int]int{}
	smalls(t, 2500, 4, func(s api.Supply, r *dice) {
		week := r.upTo(0, weeksOf(s)-1)
		for _, best := range []bool{false, true} {
			water, needs := ends(s, week, best), needsOf(s, best)
			l, e := town.Proof(s, week, best)
			lengths[len(l)]++
			checkProof(t, l, e, provers(s, water, needs), canDraw(s, water, needs))
		}
	})
	if lengths[0] < 200 || lengths[1] < 100 || lengths[2] < 40 || lengths[3] < 5 {
		t.Error("too few of a kind:", lengths)
	}
}

func checkProof(t *testing.T, l []int, e api.Errno, want []int, isEnough bool) {
	t.Helper()
	if !slices.Equal(l, want) || isEnough != (e == api.ErrNone) || !isEnough && (e != api.OK || len(l) == 0) {
		t.Error("Proof", l, e, want, isEnough)
	}
}

// P9.3, P9.4, P9.9, P9.10: supplies of all sizes, pint by pint.
func TestEnoughOfGreat(t *testing.T) {
	lengths := map[int]int{}
	many := map[uint8]int{}
	greats(t, 2500, 5, func(s api.Supply, week int, water []api.Span, _ *dice) {
		var enough, least []bool
		for _, best := range []bool{false, true} {
			now := end(water, best)
			if l, e := town.Water(s, week, best); !slices.Equal(l, now) || e != api.OK {
				t.Error("Water", l, e)
			}
			is := canGet(s, now, needsOf(s, best))
			enough = append(enough, is)
			least = append(least, canGet(s, now, leastsOf(s)))
			l, e := town.Proof(s, week, best)
			lengths[len(l)]++
			checkProof(t, l, e, provers(s, now, needsOf(s, best)), is)
		}
		many[known(enough)]++
		if k, e := town.Enough(s, week); k != known(enough) || e != api.OK {
			t.Error("Enough", k, e, enough)
		}
		if k, e := town.Least(s, week); k != known(least) || e != api.OK {
			t.Error("Least", k, e, least)
		}
		want := span(gets(s, los(water), needsOf(s, true)), gets(s, his(water), needsOf(s, false)))
		if x, e := town.Most(s, week); x != want || e != api.OK {
			t.Error("Most", x, e, want)
		}
	})
	if many[api.KnownYes] < 50 || many[api.KnownOpen] < 50 || many[api.KnownNo] < 100 || lengths[1] < 200 || lengths[2] < 100 || lengths[3] < 40 || lengths[4] < 3 {
		t.Error("too few of a kind:", many, lengths)
	}
}

// P9.5, P9.12: the fair sharing, and that no other one is fairer, nor more than it.
func TestFairOfSmall(t *testing.T) {
	fair, none, less := 0, 0, 0
	smalls(t, 500, 6, func(s api.Supply, r *dice) {
		week, best := r.upTo(0, weeksOf(s)-1), r.upTo(0, 1) == 1
		water := ends(s, week, best)
		l, e := town.Fair(s, week, best)
		if !canDraw(s, water, leastsOf(s)) {
			none++
			if len(l) > 0 || e != api.ErrNone {
				t.Error(l, e)
			}
			return
		}
		fair++
		want := fairOf(s, func(shares []int, at int) bool { return canDraw(s, water, with(shares, at, 1)) })
		if !slices.Equal(l, want) || e != api.OK || !canDraw(s, water, l) {
			t.Error(l, e, want)
		}
		if sumOf(l) < sumOf(needsOf(s, false)) && len(l) > 1 {
			less++
		}
		for _, other := range sharings(s) {
			if (isFairer(other, l) || sumOf(other) > sumOf(l)) && canDraw(s, water, other) {
				t.Error(l, other)
			}
		}
	})
	if fair < 200 || none < 50 || less < 100 {
		t.Error("too few of a kind:", fair, none, less)
	}
}

// P9.5, P9.12: supplies of all sizes; no pint more can be given, nor does it go from one street to a poorer one.
func TestFairOfGreat(t *testing.T) {
	fair, none, uneven := 0, 0, 0
	greats(t, 600, 7, func(s api.Supply, week int, water []api.Span, r *dice) {
		best := r.upTo(0, 1) == 1
		now := end(water, best)
		l, e := town.Fair(s, week, best)
		if !canGet(s, now, leastsOf(s)) {
			none++
			if len(l) > 0 || e != api.ErrNone {
				t.Error(l, e)
			}
			return
		}
		fair++
		x := tableOf(s, now)
		for at, n := range leastsOf(s) {
			for range n {
				x.pint(at, map[int]bool{})
			}
		}
		want := fairOf(s, func(_ []int, at int) bool { return x.pint(at, map[int]bool{}) })
		if !slices.Equal(l, want) || e != api.OK || !canGet(s, now, l) {
			t.Error(l, e, want)
		}
		for i, n := range l {
			if n == s.Streets[i].Need.Hi {
				continue
			}
			uneven++
			if canGet(s, now, with(l, i, 1)) {
				t.Error("a pint more", l, i)
			}
			for k, m := range l {
				if m > n+1 && m > s.Streets[k].Least && canGet(s, now, with(with(l, i, 1), k, -1)) {
					t.Error("a pint to a poorer one", l, i, k)
				}
			}
		}
	})
	if fair < 80 || none < 50 || uneven < 60 {
		t.Error("too few of a kind:", fair, none, uneven)
	}
}

// checkPulls checks that what is drawn is what each street gets, and no more than there is.
func checkPulls(t *testing.T, s api.Supply, water, shares []int, l []api.Pull) {
	t.Helper()
	left, gets := slices.Clone(water), make([]int, len(s.Streets))
	for i, x := range l {
		at := slices.IndexFunc(s.Streets, func(y api.Street) bool { return y.Id == x.Street })
		from := slices.IndexFunc(s.Founts, func(y api.Fount) bool { return y.Id == x.Fount })
		if at < 0 || from < 0 || !slices.Contains(s.Streets[at].Draws, x.Fount) || x.Pints < 1 {
			t.Fatal(x)
		}
		if i > 0 && (l[i-1].Street > x.Street || l[i-1].Street == x.Street && l[i-1].Fount >= x.Fount) {
			t.Error("not in order", l)
		}
		gets[at] += x.Pints
		left[from] -= x.Pints
	}
	if !slices.Equal(gets, shares) || len(left) > 0 && slices.Min(left) < 0 {
		t.Error(shares, l)
	}
}

// P9.6, P9.13: of all ways to draw the one is told that draws most from the first fountains.
func TestPullsOfSmall(t *testing.T) {
	can, not, several := 0, 0, 0
	smalls(t, 200, 8, func(s api.Supply, r *dice) {
		week, best := r.upTo(0, weeksOf(s)-1), r.upTo(0, 1) == 1
		water := ends(s, week, best)
		// A sharing may give a street more than it needs, and less than its least.
		for _, shares := range products(slices.Repeat([][]int{numbers(span(0, 4))}, len(s.Streets))) {
			l, e := town.Pulls(s, week, best, shares)
			want, ok := drawn(s, water, shares)
			if !ok {
				not++
				if len(l) > 0 || e != api.ErrNone {
					t.Error(shares, l, e)
				}
				continue
			}
			can++
			if len(l) > len(shares) {
				several++
			}
			if !slices.Equal(l, want) || e != api.OK {
				t.Error(shares, l, e, want)
			}
			checkPulls(t, s, water, shares, l)
		}
	})
	if can < 1000 || not < 1000 || several < 30 {
		t.Error("too few of a kind:", can, not, several)
	}
}

// P9.6, P9.13: supplies of all sizes: no pull can be more if those before it stay.
func TestPullsOfGreat(t *testing.T) {
	drew, less := 0, 0
	greats(t, 1000, 9, func(s api.Supply, week int, water []api.Span, r *dice) {
		best := r.upTo(0, 1) == 1
		now := end(water, best)
		shares := tableShares(s, now, r)
		l, e := town.Pulls(s, week, best, shares)
		if e != api.OK {
			t.Error(shares, e)
			return
		}
		checkPulls(t, s, now, shares, l)
		left, rest := slices.Clone(now), copied(s)
		shares = slices.Clone(shares)
		for i, x := range s.Streets {
			for _, id := range x.Draws {
				from := slices.IndexFunc(s.Founts, func(y api.Fount) bool { return y.Id == id })
				drew++
				pints := 0
				if k := slices.IndexFunc(l, func(y api.Pull) bool { return y.Street == x.Id && y.Fount == id }); k >= 0 {
					pints = l[k].Pints
				}
				rest.Streets[i].Draws = rest.Streets[i].Draws[1:]
				if most := min(shares[i], left[from]); pints < most {
					less++
					if canGet(rest, with(left, from, -pints-1), with(shares, i, -pints-1)) {
						t.Error("one more can be drawn", l, x.Id, id)
					}
				}
				left[from] -= pints
				shares[i] -= pints
			}
		}
	})
	if drew < 400 || less < 40 {
		t.Error("too few of a kind:", drew, less)
	}
}

// tableShares is a sharing that can be: streets take pints in turn, up to what one could draw alone.
func tableShares(s api.Supply, water []int, r *dice) []int {
	x := tableOf(s, water)
	shares := make([]int, len(s.Streets))
	for range r.one(ints(10, 50, 200)) {
		if len(shares) == 0 {
			break
		}
		if at := r.upTo(0, len(shares)-1); shares[at] < api.MaxNeed && x.pint(at, map[int]bool{}) {
			shares[at]++
		}
	}
	return shares
}

// P9.7, P9.14: each fountain with one pint more, and with as many more as are enough, one by one.
func TestMoreOfAll(t *testing.T) {
	helped, not, enough, never := 0, 0, 0, 0
	greats(t, 800, 10, func(s api.Supply, week int, spans []api.Span, _ *dice) {
		water, needs := los(spans), needsOf(s, false)
		total := gets(s, water, needs)
		var want []int
		for i, x := range s.Founts {
			if gets(s, with(water, i, 1), needs) > total {
				want = append(want, x.Id)
				helped++
			} else {
				not++
			}
			n, e := town.More(s, week, x.Id)
			if gets(s, with(water, i, 1000), needs) < sumOf(needs) {
				never++
				if n != 0 || e != api.ErrNone {
					t.Error("More", x.Id, n, e)
				}
				continue
			}
			enough++
			if n < 0 || e != api.OK || !canGet(s, with(water, i, n), needs) || n > 0 && canGet(s, with(water, i, n-1), needs) {
				t.Error("More", x.Id, n, e)
			}
		}
		if l, e := town.Helps(s, week); !slices.Equal(l, want) || e != api.OK {
			t.Error("Helps", l, e, want)
		}
	})
	if helped < 200 || not < 200 || enough < 100 || never < 200 {
		t.Error("too few of a kind:", helped, not, enough, never)
	}
}

// P9.14: a pint more of a fountain that does not help changes nothing: just the same sharings can be by what streets need, and what is told of them at worst stays.
func TestNoHelp(t *testing.T) {
	same, more := 0, 0
	r := &dice{state: 11}
	for range 300 {
		var s api.Supply
		for _, id := range r.ids(r.upTo(1, 3)) {
			s.Founts = append(s.Founts, still(id, r.upTo(0, 5)))
		}
		s.Streets = r.streets(s, r.upTo(0, 3), 4, 2)
		water := ends(s, 0, false)
		helps, _ := town.Helps(s, 0)
		for i, x := range s.Founts {
			y := copied(s)
			y.Founts[i] = still(x.Id, water[i]+1)
			changed := false
			for _, shares := range sharings(supply(s.Founts, needy(s)...)) {
				if canDraw(s, water, shares) != canDraw(s, with(water, i, 1), shares) {
					changed = true
				}
			}
			if slices.Contains(helps, x.Id) {
				more++
				if !changed {
					t.Fatal("it helps, but changes nothing", s, x.Id)
				}
				continue
			}
			same++
			for _, c := range calls(given{}) {
				if !slices.Contains([]string{"Enough", "Perhaps", "Surely", "Most", "Least", "Fair", "Helps"}, c.name) {
					continue
				}
				if a, b := c.run(s), c.run(y); changed || !a.equal(b) {
					t.Fatal(c.name, s, x.Id, a, b)
				}
			}
		}
	}
	if same < 100 || more < 100 {
		t.Error("too few of a kind:", same, more)
	}
}

// needy is the streets if each had no Least.
func needy(s api.Supply) []api.Street {
	l := copied(s).Streets
	for i := range l {
		l[i].Least = 0
	}
	return l
}

// P9.8, P9.15: with one street less there is enough wherever there was, and the sharings of the others can still be; put back, all is as before.
func TestStreetLess(t *testing.T) {
	better, shared := 0, 0
	smalls(t, 150, 12, func(s api.Supply, r *dice) {
		week, best := r.upTo(0, weeksOf(s)-1), r.upTo(0, 1) == 1
		before := outcomes(s, week, best)
		was, _ := town.Enough(s, week)
		for i, x := range s.Streets {
			y, e := town.Drop(s, x.Id)
			want := copied(s)
			want.Streets = slices.Delete(want.Streets, i, i+1)
			expectSupply(t, x.Id, y, want, e, api.OK)
			is, e := town.Enough(y, week)
			if is < was || e != api.OK {
				t.Error("Enough", x.Id, was, is, e)
			}
			if is > was {
				better++
			}
			for _, shares := range sharings(s) {
				if _, e := town.Pulls(s, week, best, shares); e != api.OK {
					continue
				}
				shared++
				others := slices.Delete(slices.Clone(shares), i, i+1)
				if _, e := town.Pulls(y, week, best, others); e != api.OK {
					t.Error("Pulls", x.Id, shares, e)
				}
			}
			back, e := town.Put(y, x)
			expectSupply(t, x.Id, back, s, e, api.OK)
			if !slices.EqualFunc(outcomes(back, week, best), before, told.equal) {
				t.Error("put back", x.Id)
			}
		}
	})
	if better < 30 || shared < 300 {
		t.Error("too few of a kind:", better, shared)
	}
}

// outcomes is all that is told of a supply in a week.
func outcomes(s api.Supply, week int, best bool) (l []told) {
	for _, c := range calls(given{week: week, best: best}) {
		if slices.Contains(append(weekly(), "Weeks", "Perhaps", "Surely"), c.name) {
			l = append(l, c.run(s))
		}
	}
	return l
}

// P9.11: perhaps is never after surely, and in the weeks before it there is enough.
func TestWeeksOfGreat(t *testing.T) {
	open, sure := 0, 0
	r := &dice{state: 13}
	for range 400 {
		s, all := r.great()
		perhaps, surely := -1, -1
		for week := range len(all[0]) {
			var water []api.Span
			for _, l := range all {
				water = append(water, l[week])
			}
			worst, best := canGet(s, los(water), needsOf(s, false)), canGet(s, his(water), needsOf(s, true))
			if worst && perhaps >= 0 || best && surely >= 0 {
				t.Fatal("enough again", s, week)
			}
			if !worst && perhaps < 0 {
				perhaps = week
			}
			if !best && surely < 0 {
				surely = week
			}
		}
		n, e := town.Perhaps(s)
		checkFirst(t, "Perhaps", n, e, perhaps)
		if n > 0 {
			open++
		}
		n, e = town.Surely(s)
		checkFirst(t, "Surely", n, e, surely)
		if n > 0 {
			sure++
		}
	}
	if open < 30 || sure < 20 {
		t.Error("too few of a kind:", open, sure)
	}
}
