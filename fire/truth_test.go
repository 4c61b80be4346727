package fire_test

import (
	"slices"
	"testing"

	"aguador/api"
	"aguador/fire"
)

// bells calls a test with so many bells.
func bells(t *testing.T, many int, state uint64, make func(d *dice) api.Bell, some func(w world, d *dice)) {
	t.Helper()
	d := &dice{state: state}
	for range many {
		b := make(d)
		some(worldOf(b), d)
		if t.Failed() {
			t.Fatal(b)
		}
	}
}

func smalls(t *testing.T, many int, state uint64, some func(w world, d *dice)) {
	t.Helper()
	bells(t, many, state, (*dice).small, some)
}

func greats(t *testing.T, many int, state uint64, some func(w world, d *dice)) {
	t.Helper()
	bells(t, many, state, (*dice).great, some)
}

// enough checks that a test saw enough of each kind.
func enough(t *testing.T, counts ...int) {
	t.Helper()
	if slices.Min(counts) < 20 {
		t.Error("too few of a kind:", counts)
	}
}

// fewer are the porters but for one.
func (w world) fewer(porter int) world {
	w.Porters = slices.DeleteFunc(slices.Clone(w.Porters), func(x api.Porter) bool { return x.Id == porter })
	return w
}

// P10.2, P10.14: minute by minute, by all beats, with the ways at their ends.
func TestReachOfAny(t *testing.T) {
	never, same, wide := 0, 0, 0
	check := func(w world, d *dice) {
		for _, p := range w.Porters {
			can, isThere := w.soonest(p, lo)
			surely, isSure := w.soonest(p, hi)
			if isThere != isSure {
				t.Error("never, and ever")
			}
			want, wantE := span(can, surely), api.OK
			switch {
			case !isThere:
				wantE = api.ErrNone
				never++
			case can == surely:
				same++
			default:
				wide++
			}
			if x, e := fire.Reach(w.Bell, p.Id); x != want || e != wantE {
				t.Error("Reach", p, x, e, want)
			}
			for _, minute := range ints(low, -1, 0, can-1, can, surely-1, surely, surely+1, d.upTo(0, surely+9), huge) {
				k := uint8(api.KnownOpen)
				switch {
				case isThere && minute >= surely:
					k = api.KnownYes
				case !isThere || minute < can:
					k = api.KnownNo
				}
				if n, e := fire.Can(w.Bell, p.Id, minute); n != k || e != api.OK {
					t.Error("Can", p, minute, n, e, k)
				}
			}
		}
	}
	smalls(t, 1000, 1, check)
	greats(t, 100, 2, check)
	enough(t, never, same, wide)
}

// P10.3, P10.8: of all sendings, one after the other.
func TestSendOfSmall(t *testing.T) {
	several, fewest, many := 0, 0, 0
	smalls(t, 1000, 3, func(w world, _ *dice) {
		late := w.late()
		all := sendings(w.lists(hi, late))
		var most []int
		for minute := range late + 1 {
			n := 0
			for _, sent := range all {
				n = max(n, thereBy(sent, minute))
			}
			most = append(most, n)
			if m, e := fire.By(w.Bell, minute); m != n || e != api.OK {
				t.Error("By", minute, m, e, n)
			}
			if m := together(w.lists(hi, minute)); m != n {
				t.Error("the theorem", minute, m, n)
			}
		}
		best := slices.DeleteFunc(all, func(sent []api.Task) bool {
			for minute, n := range most {
				if thereBy(sent, minute) < n {
					return true
				}
			}
			return false
		})
		want := slices.MinFunc(best, func(a, b []api.Task) int { return slices.CompareFunc(a, b, comparedTasks) })
		if l, e := fire.Send(w.Bell); !slices.Equal(l, want) || e != api.OK {
			t.Error("Send", l, e, want)
		}
		for _, sent := range best {
			if !slices.Equal(portersOf(sent), portersOf(want)) {
				t.Error("others are sent", sent, want)
			}
		}
		steps := w.steps()
		if l := w.sent(steps); !slices.Equal(l, want) {
			t.Error("the steps", l, want)
		}
		for i := range len(w.Porters) + 2 {
			first := slices.IndexFunc(most, func(n int) bool { return n > i })
			n, e := fire.When(w.Bell, i+1)
			expectNumber(t, "When", n, e, first, api.ErrNone)
		}
		switch {
		case len(best) > 1:
			several++
		case len(want) == 0:
			fewest++
		case len(want) > 2:
			many++
		}
	})
	enough(t, several, fewest, many)
}

// P10.3, P10.8, P10.10: bells of all sizes, by the minutes of the theorem and the sending that keeps them; no sending that was thrown together is better by any minute.
func TestSendOfGreat(t *testing.T) {
	waits, moves := 0, 0
	greats(t, 400, 4, func(w world, d *dice) {
		steps := w.steps()
		want := w.sent(steps)
		l, e := fire.Send(w.Bell)
		if !slices.Equal(l, want) || e != api.OK {
			t.Error("Send", l, e, want)
		}
		for i, x := range l {
			p := w.Porters[slices.IndexFunc(w.Porters, func(p api.Porter) bool { return p.Id == x.Porter })]
			if !slices.Contains(w.tasksBy(p, hi, x.There), x) || slices.ContainsFunc(l[:i], func(y api.Task) bool { return clash(x, y) || y.Porter >= x.Porter }) {
				t.Error("cannot do it", x, l)
			}
			if soonest, _ := w.soonest(p, hi); soonest < x.There {
				waits++
			}
		}
		for i, minute := range steps {
			if n, e := fire.When(w.Bell, i+1); n != minute || e != api.OK {
				t.Error("When", i+1, n, e, minute)
			}
			for k := range 3 {
				n, e := fire.By(w.Bell, minute-1+k)
				if n != together(w.lists(hi, minute-1+k)) || e != api.OK {
					t.Error("By", minute-1+k, n, e)
				}
			}
		}
		if n, e := fire.When(w.Bell, len(steps)+1); n != 0 || e != api.ErrNone {
			t.Error("When", len(steps)+1, n, e)
		}
		for range 5 {
			sent := w.thrown(d)
			for _, x := range sent {
				n, _ := fire.By(w.Bell, x.There)
				if thereBy(sent, x.There) > n || thereBy(l, x.There) != n {
					t.Error("more are there", sent, x, n)
				}
				if thereBy(sent, x.There) < n {
					moves++
				}
			}
		}
	})
	enough(t, waits, moves)
}

// thrown is any sending.
func (w world) thrown(d *dice) (sent []api.Task) {
	for _, l := range w.lists(hi, w.late()) {
		l = slices.DeleteFunc(l, func(x api.Task) bool {
			return slices.ContainsFunc(sent, func(y api.Task) bool { return clash(x, y) })
		})
		if len(l) > 0 && d.upTo(0, 9) > 0 {
			sent = append(sent, l[min(d.upTo(0, len(l)-1), d.upTo(0, len(l)-1), d.upTo(0, len(l)-1))])
		}
	}
	return sent
}

// smallest is the cover that is before all others, of all choices of porters with all choices of beats.
func smallest(lists [][]api.Task, all []api.Beat) (porters []int, beats []api.Beat) {
	var theirs []int
	for _, l := range lists {
		for _, x := range l {
			theirs = append(theirs, x.Porter)
		}
	}
	theirs = slices.Compact(theirs)
	found := false
	for _, some := range subsets(theirs) {
		for _, chosen := range subsets(numbers(len(all))) {
			if found && len(some)+len(chosen) >= len(porters)+len(beats) {
				continue
			}
			isCovered := func(x api.Task) bool {
				return slices.Contains(some, x.Porter) || slices.ContainsFunc(chosen, func(i int) bool { return all[i] == api.Beat{Well: x.Well, Beat: x.Beat} })
			}
			if !slices.ContainsFunc(slices.Concat(lists...), func(x api.Task) bool { return !isCovered(x) }) {
				found, porters, beats = true, some, nil
				for _, i := range chosen {
					beats = append(beats, all[i])
				}
			}
		}
	}
	return porters, beats
}

// numbers are those from 0 on.
func numbers(many int) (l []int) {
	for i := range many {
		l = append(l, i)
	}
	return l
}

// beatsOf are all beats of tasks, in the order of wells and beats.
func beatsOf(lists [][]api.Task) (l []api.Beat) {
	for _, x := range slices.Concat(lists...) {
		if x.Well != 0 {
			l = append(l, api.Beat{Well: x.Well, Beat: x.Beat})
		}
	}
	slices.SortFunc(l, comparedBeats)
	return slices.Compact(l)
}

// P10.4, P10.5, P10.9, P10.15: of all sendings, and of all choices of porters and beats.
func TestCrewOfSmall(t *testing.T) {
	helpers, others, both, all := 0, 0, 0, 0
	smalls(t, 2000, 5, func(w world, d *dice) {
		minute := d.upTo(0, w.late()*2/3)
		lists := w.lists(hi, minute)
		sent := sendings(lists)
		crew := ints()
		for _, x := range sent {
			l := portersOf(x)
			if len(l) > len(crew) || len(l) == len(crew) && slices.Compare(l, crew) < 0 {
				crew = l
			}
		}
		if l, e := fire.Crew(w.Bell, minute); !slices.Equal(l, crew) || e != api.OK {
			t.Error("Crew", minute, l, e, crew)
		}
		if l := crewOf(lists); !slices.Equal(l, crew) {
			t.Error("the theorem", minute, l, crew)
		}
		for _, p := range w.Porters {
			// Without this one others may be as many.
			isNeeded := !slices.ContainsFunc(sent, func(x []api.Task) bool {
				return len(x) == len(crew) && !slices.Contains(portersOf(x), p.Id)
			})
			if is, e := fire.Helps(w.Bell, p.Id, minute); is != isNeeded || e != api.OK {
				t.Error("Helps", p, minute, is, e, isNeeded)
			}
			helpers, others = helpers+number(isNeeded), others+number(!isNeeded)
		}
		if len(beatsOf(lists)) > 8 {
			return
		}
		porters, beats := smallest(lists, beatsOf(lists))
		if l, m, e := fire.Cover(w.Bell, minute); !slices.Equal(l, porters) || !slices.Equal(m, beats) || e != api.OK || len(l)+len(m) != len(crew) {
			t.Error("Cover", minute, l, m, e, porters, beats)
		}
		if l, m := covering(lists); !slices.Equal(l, porters) || !slices.Equal(m, beats) {
			t.Error("all beats", minute, l, m, porters, beats)
		}
		both, all = both+number(len(porters) > 0 && len(beats) > 0), all+number(len(beats) == 0 && len(porters) > 1)
	})
	enough(t, helpers, others, both, all)
}

// P10.4, P10.5, P10.9, P10.15: bells of all sizes, by the theorem, about the minutes at which one more is there.
func TestCrewOfGreat(t *testing.T) {
	helpers, others, both, all := 0, 0, 0, 0
	greats(t, 500, 6, func(w world, d *dice) {
		minute := max(0, d.one(append(w.steps(), 0))+d.one(ints(-1, 0, 0, 1, 5, 40)))
		lists := w.lists(hi, minute)
		crew := crewOf(lists)
		if l, e := fire.Crew(w.Bell, minute); !slices.Equal(l, crew) || e != api.OK {
			t.Error("Crew", minute, l, e, crew)
		}
		for _, p := range w.Porters {
			isNeeded := together(w.fewer(p.Id).lists(hi, minute)) < len(crew)
			is, e := fire.Helps(w.Bell, p.Id, minute)
			if is != isNeeded || e != api.OK || is && !slices.Contains(crew, p.Id) {
				t.Error("Helps", p, minute, is, e, isNeeded)
			}
			helpers, others = helpers+number(isNeeded), others+number(!isNeeded)
		}
		porters, beats := covering(lists)
		if l, m, e := fire.Cover(w.Bell, minute); !slices.Equal(l, porters) || !slices.Equal(m, beats) || e != api.OK || len(l)+len(m) != len(crew) {
			t.Error("Cover", minute, l, m, e, porters, beats)
		}
		both, all = both+number(len(porters) > 0 && len(beats) > 0), all+number(len(beats) == 0 && len(porters) > 2)
	})
	enough(t, helpers, others, both, all)
}

// wrongOf is what the shortest list is, and its error.
func wrongOf(all [][]int) ([]int, api.Errno) {
	if len(all[0]) > api.MaxStruck {
		return nil, api.ErrMany
	}
	return all[0], api.OK
}

// P10.6, P10.12: of all sendings in which each way takes the least time.
func TestClaimsOfSmall(t *testing.T) {
	trues, one, more, beside := 0, 0, 0, 0
	smalls(t, 3000, 7, func(w world, _ *dice) {
		isTogether := func(l []api.Claim) bool {
			lists := w.listsOf(l)
			return slices.ContainsFunc(sendings(lists), func(x []api.Task) bool { return len(x) == len(lists) })
		}
		if howMany(w.lists(lo, w.late())) > 30000 {
			return
		}
		var all [][]int
		for _, some := range subsets(numbersOf(w.Claims)) {
			if isTogether(left(w.Claims, some)) {
				all = append(all, some)
			}
		}
		if l := w.wrongs(); !slices.EqualFunc(l, all, slices.Equal) {
			t.Error("the theorem", l, all)
		}
		want, wantE := wrongOf(all)
		if l, e := fire.Wrong(w.Bell); !slices.Equal(l, want) || e != wantE {
			t.Error("Wrong", l, e, want, wantE)
		}
		if is, e := fire.True(w.Bell); is != (len(all[0]) == 0) || e != api.OK {
			t.Error("True", is, e, all)
		}
		switch len(all[0]) {
		case 0:
			trues++
		case 1:
			one++
		default:
			more++
		}
		beside += number(len(all[0]) > 0 && len(all) > 1 && len(all[1]) == len(all[0]))
	})
	enough(t, trues, one, more, beside)
}

func numbersOf(l []api.Claim) (numbers []int) {
	for _, x := range l {
		numbers = append(numbers, x.Number)
	}
	return numbers
}

// left are the claims but for some.
func left(l []api.Claim, numbers []int) []api.Claim {
	return slices.DeleteFunc(slices.Clone(l), func(x api.Claim) bool { return slices.Contains(numbers, x.Number) })
}

// P10.6, P10.12: bells of all sizes, by the theorem; with fewer claims struck, or others before them, they are not true.
func TestClaimsOfGreat(t *testing.T) {
	counts := make([]int, api.MaxStruck+2)
	greats(t, 600, 8, func(w world, _ *dice) {
		all := w.wrongs()
		want, wantE := wrongOf(all)
		l, e := fire.Wrong(w.Bell)
		if !slices.Equal(l, want) || e != wantE {
			t.Error("Wrong", l, e, want, wantE)
		}
		if is, e := fire.True(w.Bell); is != (len(all[0]) == 0) || e != api.OK {
			t.Error("True", is, e, all[0])
		}
		counts[min(len(all[0]), len(counts)-1)]++
		if e != api.OK {
			return
		}
		for _, some := range subsets(numbersOf(w.Claims)) {
			b, f := fire.Strike(w.Bell, some)
			is, g := fire.True(b)
			if f != api.OK || g != api.OK || is != slices.Equal(some, l) {
				t.Error("Strike", some, f, is, g, l)
			}
			if slices.Equal(some, l) {
				break
			}
		}
	})
	enough(t, counts...)
}

// P10.6, P10.13: one fee for each porter who has a claim that is left, and the first one more.
func TestWagesOfAny(t *testing.T) {
	paid, twice, none, many := 0, 0, 0, 0
	greats(t, 500, 9, func(w world, d *dice) {
		fee, first := d.one(ints(0, 1, 7, api.MaxPence)), d.one(ints(0, 1, 100, api.MaxPence))
		wrong, wrongE := wrongOf(w.wrongs())
		l, e := fire.Wages(w.Bell, fee, first)
		if e != wrongE || e != api.OK && len(l) > 0 {
			t.Error("Wages", l, e, wrongE)
		}
		if e != api.OK {
			many++
			return
		}
		claims := left(w.Claims, wrong)
		at, soonest := 0, 0
		for i, x := range claims {
			if i == 0 || x.Minute < soonest || x.Minute == soonest && x.Porter < at {
				at, soonest = x.Porter, x.Minute
			}
		}
		var want []api.Wage
		for _, p := range w.Porters {
			if slices.ContainsFunc(claims, func(x api.Claim) bool { return x.Porter == p.Id }) {
				want = append(want, wage(p.Id, fee+first*number(p.Id == at)))
			}
		}
		if !slices.Equal(l, want) {
			t.Error("Wages", l, want)
		}
		last := 0
		for _, x := range claims {
			last = max(last, x.Minute)
		}
		if together(w.lists(lo, min(last, w.late()))) < len(l) {
			t.Error("more are paid than can be there", l, last)
		}
		paid, twice, none = paid+number(len(l) > 1), twice+number(len(claims) > len(l)), none+number(len(l) == 0)
	})
	smalls(t, 200, 10, func(w world, _ *dice) {
		if l, e := fire.Wages(w.Bell, 1, 1); e == api.OK && len(l) == 0 {
			none++
		}
	})
	enough(t, paid, twice, none, many)
}

// P10.11: a porter more, who may be full, and a well less; also that the others are in no way changed by it.
func TestMoreAndLess(t *testing.T) {
	more, same, less := 0, 0, 0
	check := func(w world, d *dice) {
		minute := d.one(append(w.steps(), 0)) + d.upTo(-1, 3)
		before, _ := fire.By(w.Bell, minute)
		if len(w.Porters) < api.MaxPorters {
			p := api.Porter{Id: d.upTo(10, 60), At: d.one(w.Town.Places), Full: d.upTo(0, 2) == 0}
			b, e := fire.Join(w.Bell, p)
			n, f := fire.By(b, minute)
			if e != api.OK || f != api.OK || n < before || n > before+1 {
				t.Error("Join", p, minute, e, before, n, f)
			}
			is, _ := fire.Helps(b, p.Id, minute)
			if is != (n > before) {
				t.Error("Helps", p, minute, is)
			}
			more, same = more+number(n > before), same+number(n == before)
		}
		for _, x := range w.Wells {
			b, e := fire.Stop(w.Bell, x.Id)
			n, f := fire.By(b, minute)
			if e != api.OK || f != api.OK || n > before {
				t.Error("Stop", x, minute, e, before, n, f)
			}
			less += number(n < before)
		}
		for _, x := range w.Porters {
			b, e := fire.Leave(w.Bell, x.Id)
			n, f := fire.By(b, minute)
			is, _ := fire.Helps(w.Bell, x.Id, minute)
			if e != api.OK || f != api.OK || n != before-number(is) {
				t.Error("Leave", x, minute, e, before, n, f)
			}
		}
	}
	smalls(t, 200, 11, check)
	greats(t, 150, 12, check)
	enough(t, more, same, less)
}

// P10.14: minute by minute, and many at once.
func TestLater(t *testing.T) {
	rises := 0
	check := func(w world, _ *dice) {
		steps := w.steps()
		at := slices.Max(append(steps, 0))
		before := 0
		for minute := max(0, at-30); minute <= at+5; minute++ {
			n, e := fire.By(w.Bell, minute)
			if e != api.OK || n < before {
				t.Error("By", minute, n, before)
			}
			if n > before {
				rises++
			}
			before = n
		}
		if n, _ := fire.By(w.Bell, huge); n != before || n != len(steps) {
			t.Error("By", n, before, steps)
		}
		for _, p := range w.Porters {
			x, e := fire.Reach(w.Bell, p.Id)
			if e == api.OK && x.Lo > x.Hi {
				t.Error("Reach", p, x)
			}
			known := uint8(api.KnownNo)
			for minute := max(0, x.Lo-2); minute <= x.Hi+2; minute++ {
				k, _ := fire.Can(w.Bell, p.Id, minute)
				if k < known {
					t.Error("Can", p, minute, k)
				}
				known = k
			}
		}
	}
	smalls(t, 100, 13, check)
	greats(t, 60, 14, check)
	enough(t, rises)
}

// P10.16: a claim more.
func TestMoreClaims(t *testing.T) {
	still, broken := 0, 0
	greats(t, 300, 15, func(w world, d *dice) {
		if len(w.Porters) == 0 {
			return
		}
		before, _ := fire.True(w.Bell)
		for range 4 {
			p := w.Porters[d.upTo(0, len(w.Porters)-1)]
			soonest, _ := w.soonest(p, lo)
			x := claim(d.upTo(10, 60), p.Id, max(0, soonest+d.upTo(-1, 2)))
			b, e := fire.Put(w.Bell, x)
			if len(w.Claims) == api.MaxClaims {
				if e != api.ErrFull {
					t.Error("Put", x, e)
				}
				continue
			}
			after, f := fire.True(b)
			if e != api.OK || f != api.OK || after && !before {
				t.Error("Put", x, e, f, before, after)
			}
			still, broken = still+number(after), broken+number(before && !after)
		}
	})
	enough(t, still, broken)
}
