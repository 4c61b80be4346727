package mix_test

import (
	"slices"
	"testing"

	"aguador/api"
	"aguador/mix"
)

// small calls a test with mixed water of which all histories are listed.
func small(t *testing.T, many, acts, tastes int, some func(m api.Mix, all []history, r *dice)) {
	t.Helper()
	r := &dice{state: 17}
	several, withTruth := 0, 0
	for range many {
		m := r.mix(acts, tastes)
		if e := mix.Check(m); e != api.OK {
			t.Fatal(m, e)
		}
		all := histories(m)
		if len(all) > 1 {
			several++
		}
		if isBetter(m, all, nil) {
			withTruth++
		}
		some(m, all, r)
		if t.Failed() {
			t.Fatal(m)
		}
	}
	if several < many/5 || withTruth < many/5 || tastes > 0 && withTruth > many*9/10 {
		t.Error("too few of a kind:", several, withTruth)
	}
}

// places calls a test with each vessel at each time.
func places(m api.Mix, some func(vessel, after int)) {
	for _, v := range m.Vessels {
		for after := range len(m.Acts) + 1 {
			some(v.Id, after)
		}
	}
}

// fountains calls a test with each fountain, and with the histories in which its tastes are true.
func fountains(m api.Mix, all []history, some func(fountain int, l []history)) {
	for fountain := 1; fountain <= m.Fountains; fountain++ {
		some(fountain, trueOnes(m, all, fountain))
	}
}

// P4.2, P4.8, P4.9: what places hold, in all truths, and each number between.
func TestHoldsInAllTruths(t *testing.T) {
	kinds := map[int]int{}
	small(t, 800, 8, 3, func(m api.Mix, all []history, _ *dice) {
		places(m, func(vessel, after int) {
			if n, e := mix.Holds(m, vessel, after); n != totals(m, after)[vessel] || e != api.OK {
				t.Error("Holds", vessel, after, n, e)
			}
			fountains(m, all, func(fountain int, l []history) {
				g := given{vessel: vessel, after: after, fountain: fountain}
				if len(l) == 0 {
					kinds[-1]++
					expect(t, m, g, api.ErrBad, "Of", "Known", "Pure")
					return
				}
				some := numbersOf(l, func(h history) int { return h.amount(vessel, after, fountain) })
				known := knownOf(l, func(h history) bool { return h.amount(vessel, after, fountain) > 0 })
				pure := knownOf(l, func(h history) bool { return h.amount(vessel, after, fountain) == h.all(vessel, after) })
				x, e := mix.Of(m, vessel, after, fountain)
				if x != span(some[0], some[len(some)-1]) || len(some) != x.Hi-x.Lo+1 || e != api.OK {
					t.Error("Of", g, x, e, some)
				}
				k, e := mix.Known(m, vessel, after, fountain)
				p, f := mix.Pure(m, vessel, after, fountain)
				if int(k) != known || e != api.OK || int(p) != pure || f != api.OK {
					t.Error("Known, Pure", g, k, e, p, f)
				}
				kinds[3*known+pure]++
			})
		})
	})
	// Known and pure at once, or neither: all but known as open and pure for sure, which cannot be.
	for _, kind := range ints(-1, 0, 2, 3, 4, 6, 7, 8) {
		if kinds[kind] < 50 {
			t.Error("too few places of a kind:", kind, kinds)
		}
	}
}

// P4.3, P4.11: what each act moves, and what is gone.
func TestMovedInAllTruths(t *testing.T) {
	open := 0
	small(t, 2500, 8, 3, func(m api.Mix, all []history, _ *dice) {
		fountains(m, all, func(fountain int, l []history) {
			for act := range len(m.Acts) {
				g := given{moved: act + 1, fountain: fountain}
				if len(l) == 0 {
					expect(t, m, g, api.ErrBad, "Moved", "Gone")
					continue
				}
				x, e := mix.Moved(m, act+1, fountain)
				if x != spanOf(l, func(h history) int { return h.moved(act+1, fountain) }) || e != api.OK {
					t.Error("Moved", g, x, e)
				}
			}
			if len(l) == 0 {
				return
			}
			x, e := mix.Gone(m, fountain)
			if x != spanOf(l, func(h history) int { return h.gone(fountain) }) || e != api.OK {
				t.Error("Gone", fountain, x, e)
			}
			if x.Lo < x.Hi {
				open++
			}
		})
	})
	if open < 200 {
		t.Error("too few of which it is open what is gone:", open)
	}
}

// P4.11: what was filled of a fountain is in the vessels at the end, or gone; with all vessels rinsed it is gone, whichever drops went.
func TestFilledOrGone(t *testing.T) {
	r := &dice{state: 23}
	open := 0
	for range 3000 {
		m := r.mix(8, 2)
		rinsed := m
		for _, v := range m.Vessels {
			rinsed.Acts = append(slices.Clone(rinsed.Acts), rinse(v.Id))
		}
		for fountain := 1; fountain <= m.Fountains; fountain++ {
			gone, e := mix.Gone(m, fountain)
			all, f := mix.Gone(rinsed, fountain)
			if e != api.OK {
				continue
			}
			sum, filled := gone, 0
			for _, v := range m.Vessels {
				x, _ := mix.Of(m, v.Id, len(m.Acts), fountain)
				sum = span(sum.Lo+x.Lo, sum.Hi+x.Hi)
			}
			for _, x := range m.Acts {
				if x.Kind == api.ActFill && x.From == fountain {
					filled += x.Drops
				}
			}
			if filled < sum.Lo || filled > sum.Hi || all != span(filled, filled) || f != api.OK {
				t.Fatal(m, fountain, gone, sum, filled, all, f)
			}
			if gone.Lo < gone.Hi {
				open++
			}
		}
	}
	if open < 200 {
		t.Error("too few of which it is open what is gone:", open)
	}
}

// P4.4, P4.9: two fountains have met in some history, or cannot have, whatever was tasted.
func TestMetInAllHistories(t *testing.T) {
	apart, kinds := 0, map[bool]int{}
	small(t, 1000, 8, 2, func(m api.Mix, all []history, _ *dice) {
		places(m, func(vessel, after int) {
			for one := 1; one <= m.Fountains; one++ {
				for other := 1; other <= m.Fountains; other++ {
					if one == other {
						expect(t, m, given{vessel: vessel, after: after, fountain: one, other: one}, api.ErrArg, "Met")
						continue
					}
					has := func(h history, fountain int) bool { return h.amount(vessel, after, fountain) > 0 }
					want := slices.ContainsFunc(all, func(h history) bool { return has(h, one) && has(h, other) })
					if ok, e := mix.Met(m, vessel, after, one, other); ok != want || e != api.OK {
						t.Error("Met", vessel, after, one, other, ok, e)
					}
					kinds[want]++
					// Each one of them can be there, but not both.
					isOne := slices.ContainsFunc(all, func(h history) bool { return has(h, one) })
					isOther := slices.ContainsFunc(all, func(h history) bool { return has(h, other) })
					if isOne && isOther && !want {
						apart++
					}
				}
			}
		})
	})
	if kinds[true] < 1000 || kinds[false] < 1000 || apart < 50 {
		t.Error("too few of a kind:", kinds, apart)
	}
}

// P4.4, P4.9, P4.13, P4.15: of all ways, as the chapter says what one is, and as drops can go, whatever was tasted.
func TestWaysOfAllLists(t *testing.T) {
	lengths := map[[2]int]int{}
	small(t, 900, 9, 2, func(m api.Mix, all []history, _ *dice) {
		places(m, func(vessel, after int) {
			for fountain := 1; fountain <= m.Fountains; fountain++ {
				ways := waysOf(m, vessel, after, fountain)
				if gone := wentTo(all, vessel, after, fountain); !slices.EqualFunc(ways, gone, slices.Equal[[]int]) {
					t.Error("ways", vessel, after, fountain, ways, gone)
				}
				g := given{vessel: vessel, after: after, fountain: fountain}
				if len(ways) == 0 {
					lengths[[2]int{}]++
					expect(t, m, g, api.ErrNone, "Path", "Watch")
					continue
				}
				l, e := mix.Path(m, vessel, after, fountain)
				if !slices.Equal(l, ways[0]) || e != api.OK {
					t.Error("Path", g, l, e, ways)
				}
				w, e := mix.Watch(m, vessel, after, fountain)
				if !slices.Equal(w, watchOf(m, ways)) || e != api.OK {
					t.Error("Watch", g, w, e, ways)
				}
				for i := range w {
					if isEnough(ways, slices.Delete(slices.Clone(w), i, i+1)) {
						t.Error("too many are watched", g, w)
					}
				}
				lengths[[2]int{len(l), len(w)}]++
			}
		})
	})
	for _, kind := range [][2]int{{}, {1, 1}, {1, 2}, {1, 3}, {2, 1}, {2, 2}, {3, 1}, {4, 1}} {
		if lengths[kind] < 10 {
			t.Error("too few places of a kind:", kind, lengths)
		}
	}
}

// wentTo is all ways that drops of a fountain went to a place in some history, in order.
func wentTo(all []history, vessel, after, fountain int) (l [][]int) {
	for _, h := range all {
		for _, b := range h[after] {
			isHere := func(way []int) bool { return slices.Equal(way, b.way) }
			if b.vessel == vessel && b.fountain == fountain && !slices.ContainsFunc(l, isHere) {
				l = append(l, b.way)
			}
		}
	}
	slices.SortFunc(l, func(a, b []int) int {
		if len(a) != len(b) {
			return len(a) - len(b)
		}
		return slices.Compare(a, b)
	})
	return l
}

// P4.9: without tastes a fountain of which a vessel holds none has no way there, and one that has none has met no other.
func TestUnseen(t *testing.T) {
	r := &dice{state: 29}
	none := 0
	for range 3000 {
		m := r.mix(12, 0)
		vessel, after := r.vessel(m), r.upTo(0, len(m.Acts))
		for fountain := 1; fountain <= m.Fountains; fountain++ {
			k, e := mix.Known(m, vessel, after, fountain)
			_, f := mix.Path(m, vessel, after, fountain)
			if e != api.OK || (k == api.KnownNo) != (f == api.ErrNone) {
				t.Fatal(m, vessel, after, fountain, k, e, f)
			}
			if k != api.KnownNo {
				continue
			}
			none++
			for other := 1; other <= m.Fountains; other++ {
				if other == fountain {
					continue
				}
				a, _ := mix.Met(m, vessel, after, fountain, other)
				b, _ := mix.Met(m, vessel, after, other, fountain)
				if a || b {
					t.Fatal(m, vessel, after, fountain, other)
				}
			}
		}
	}
	if none < 1000 {
		t.Error("too few vessels without a fountain's drops:", none)
	}
}

// P4.10: all fountains together can be what a vessel holds.
func TestAllDropsAreOfSomeFountain(t *testing.T) {
	r := &dice{state: 31}
	open := 0
	for range 6000 {
		m := r.mix(12, 0)
		for range 3 {
			vessel, after := r.vessel(m), r.upTo(len(m.Acts)/2, len(m.Acts))
			sum := api.Span{}
			for fountain := 1; fountain <= m.Fountains; fountain++ {
				x, e := mix.Of(m, vessel, after, fountain)
				if e != api.OK {
					t.Fatal(m, e)
				}
				sum = span(sum.Lo+x.Lo, sum.Hi+x.Hi)
			}
			n, e := mix.Holds(m, vessel, after)
			if n < sum.Lo || n > sum.Hi || e != api.OK || m.Fountains == 1 && sum != span(n, n) {
				t.Fatal(m, vessel, after, n, e, sum)
			}
			if sum.Lo < sum.Hi {
				open++
			}
		}
	}
	if open < 1000 {
		t.Error("too few places of which it is open what they hold:", open)
	}
}

// P4.12: one taste more never widens what is known of its fountain, and changes nothing of others.
func TestMoreNeverWidens(t *testing.T) {
	names := []string{"Of", "Known", "Pure", "Moved", "Gone"}
	r := &dice{state: 41}
	narrower := map[string]int{}
	for range 16000 {
		m := r.mix(10, 2)
		x := r.taste(m, 100)
		if y, _ := mix.Of(m, x.Vessel, x.After, x.Fountain); y.Lo == y.Hi && r.upTo(0, 9) > 0 {
			continue
		}
		more, e := mix.Put(m, x)
		if e != api.OK {
			t.Fatal(m, e)
		}
		for fountain := 1; fountain <= m.Fountains; fountain++ {
			g := given{vessel: r.vessel(m), after: r.upTo(0, len(m.Acts)), fountain: fountain, moved: r.upTo(0, len(m.Acts))}
			for _, c := range calls(g) {
				if !slices.Contains(names, c.name) {
					continue
				}
				a, b := c.run(m), c.run(more)
				isOther := x.Fountain != fountain
				if isOther && !a.equal(b) || a.e != b.e && b.e != api.ErrBad {
					t.Fatal(c.name, g, a, b, more)
				}
				if b.e != api.OK {
					continue
				}
				if b.x.Lo < a.x.Lo || b.x.Hi > a.x.Hi || a.n != b.n && a.n != api.KnownOpen {
					t.Fatal("wider", c.name, g, a, b, more)
				}
				if !a.equal(b) {
					narrower[c.name]++
				}
			}
		}
	}
	for _, name := range names {
		if narrower[name] < 30 {
			t.Error("too few narrow anything:", narrower)
		}
	}
}

// P4.6, P4.14: the fewest false tastes.
func TestWrongOfAllLists(t *testing.T) {
	lengths := map[int]int{}
	small(t, 2000, 7, 8, func(m api.Mix, all []history, _ *dice) {
		l, e := mix.Wrong(m)
		want, f := falseOnes(m, all)
		if !slices.Equal(l, want) || e != f {
			t.Error("Wrong", l, e, want, f)
		}
		if e != api.OK {
			lengths[-int(e)]++
			return
		}
		lengths[len(l)]++
		better, e := mix.Strike(m, l)
		if again, f := mix.Wrong(better); e != api.OK || len(again) != 0 || f != api.OK {
			t.Error("Strike", better, e, again, f)
		}
	})
	for _, n := range ints(0, 1, 2, 3, -int(api.ErrMany)) {
		if lengths[n] < 50 {
			t.Error("too few of a kind:", n, lengths)
		}
	}
}

// P4.5, P4.16: a pouring is as safe as the vessel is pure after it; what is safe for sure leaves a pure vessel pure.
func TestSafeIsPureAfterPouring(t *testing.T) {
	kinds := map[int]int{}
	small(t, 2500, 7, 2, func(m api.Mix, all []history, r *dice) {
		if len(m.Acts) == api.MaxActs {
			return
		}
		from, to, n := r.vessel(m), r.vessel(m), r.upTo(1, 3)
		more, e := mix.Do(m, pour(from, to, n))
		after := histories(more)
		for fountain := 1; fountain <= m.Fountains; fountain++ {
			k, f := mix.Safe(m, from, to, n, fountain)
			p, g := mix.Pure(more, to, len(more.Acts), fountain)
			if e != api.OK {
				if k != 0 || f != api.ErrAct || f != e {
					t.Error("Safe", from, to, n, fountain, k, f, e)
				}
				kinds[-int(f)]++
				continue
			}
			if k != p || f != g {
				t.Error("Safe", from, to, n, fountain, k, f, p, g)
			}
			l := trueOnes(more, after, fountain)
			if len(l) == 0 {
				if k != 0 || f != api.ErrBad {
					t.Error("Safe", from, to, n, fountain, k, f)
				}
				kinds[-int(f)]++
				continue
			}
			want := knownOf(l, func(h history) bool { return h.amount(to, len(more.Acts), fountain) == h.all(to, len(more.Acts)) })
			if int(k) != want || f != api.OK {
				t.Error("Safe", from, to, n, fountain, k, f, want)
			}
			kinds[want]++
		}
	})
	for _, kind := range ints(api.KnownNo, api.KnownOpen, api.KnownYes, -int(api.ErrAct), -int(api.ErrBad)) {
		if kinds[kind] < 50 {
			t.Error("too few of a kind:", kind, kinds)
		}
	}
}

// P4.7, P4.16: what is done and undone leaves all as it was.
func TestDoAndUndo(t *testing.T) {
	r := &dice{state: 37}
	done := map[int]int{}
	for range 4000 {
		m := r.mix(11, 3)
		x, ok := r.act(m)
		if !ok {
			continue
		}
		more, e := mix.Do(m, x)
		back, f := mix.Undo(more)
		if e != api.OK || !slices.Equal(more.Acts, append(slices.Clone(m.Acts), x)) || mix.Check(more) != api.OK || !same(back, m) || f != api.OK {
			t.Fatal(m, x, more, e, back, f)
		}
		done[x.Kind]++
		places(m, func(vessel, after int) {
			a, _ := mix.Holds(m, vessel, after)
			if b, e := mix.Holds(more, vessel, after); a != b || e != api.OK {
				t.Fatal(m, x, vessel, after, a, b, e)
			}
		})
	}
	for kind := api.ActFill; kind <= api.ActRinse; kind++ {
		if done[kind] < 20 {
			t.Error("too few acts of a kind:", done)
		}
	}
}
