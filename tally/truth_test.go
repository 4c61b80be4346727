package tally_test

import (
	"slices"
	"testing"

	"aguador/api"
	"aguador/tally"
)

// small calls a test with all tallies of which both halves have at most so many notches, of so many kinds. A true list has at most half as many more.
func small(t *testing.T, kinds, notches int, some func(x api.Tally, w world)) {
	t.Helper()
	w := newWorld(kinds, notches+notches/2+1)
	for _, stock := range rowsOf(kinds, notches) {
		for _, foil := range rowsOf(kinds, notches) {
			some(cut(stock, foil), w)
			if t.Failed() {
				t.Fatal(stock, foil)
			}
		}
	}
}

// great calls a test with tallies of all lengths.
func great(t *testing.T, many int, some func(x api.Tally, r *dice)) {
	t.Helper()
	r := &dice{state: 11}
	var full, several int
	for range many {
		x := r.tally(api.MaxNotches)
		some(x, r)
		if t.Failed() {
			t.Fatal(x)
		}
		if max(len(x.Stock), len(x.Foil)) == api.MaxNotches {
			full++
		}
		if far(x.Stock, x.Foil) > 2 {
			several++
		}
	}
	if full < many/10 || several < many/3 {
		t.Error("too few of a kind:", full, several)
	}
}

// P7.2, P7.3, P7.4, P7.8, P7.9: how many notches are false, and all true lists, of all small tallies: one edit after the other, and each list, is tried.
func TestSmallTallies(t *testing.T) {
	for kinds, notches := range map[int]int{2: 4, 3: 3, 4: 2} {
		small(t, kinds, notches, func(x api.Tally, w world) {
			n, e := tally.False(x)
			if n != w.from(x.Stock)[key(x.Foil)] || n != far(x.Stock, x.Foil) || e != api.OK {
				t.Error("False", n, e)
			}
			l := w.trueOnes(x)
			if first, e := tally.First(x); !slices.Equal(first, l[0]) || e != api.OK {
				t.Error("First", first, e)
			}
			if all, e := tally.Lists(x); !sameLists(all, l) || e != api.OK {
				t.Error("Lists", all, e)
			}
			checkSums(t, x, func(worth [5]int) api.Span { return sums(l, worth) })
		})
	}
}

// checkSums checks how many notches of each kind there are, and what is owed.
func checkSums(t *testing.T, x api.Tally, comesTo func(worth [5]int) api.Span) {
	t.Helper()
	for kind := 1; kind <= 4; kind++ {
		var worth [5]int
		worth[kind] = 1
		if s, e := tally.Kinds(x, kind); s != comesTo(worth) || e != api.OK {
			t.Error("Kinds", kind, s, e)
		}
	}
	for _, r := range []api.Rates{rates(), {Skin: 1, Half: 1, Barrel: 1, Paid: 1000}, {Skin: 100, Half: 10, Barrel: 1}} {
		if s, e := tally.Owed(x, r); s != comesTo(worthOf(r)) || e != api.OK {
			t.Error("Owed", r, s, e)
		}
	}
}

// P7.3: whether a list is a true one, each list tried.
func TestIsOfSmallTallies(t *testing.T) {
	for kinds, notches := range map[int]int{2: 3, 4: 2} {
		small(t, kinds, notches, func(x api.Tally, w world) {
			l := w.trueOnes(x)
			for _, y := range w.all {
				want := slices.ContainsFunc(l, func(z []int) bool { return slices.Equal(y, z) })
				if is, e := tally.Is(x, y); is != want || e != api.OK {
					t.Error(y, is, e)
				}
			}
		})
	}
}

// P7.2, P7.8: edits of tallies of all lengths, each one tried in the order in which they are chosen.
func TestEditsOfAllLengths(t *testing.T) {
	great(t, 4000, func(x api.Tally, _ *dice) {
		n, e := tally.False(x)
		l, f := tally.Edits(x)
		if n != far(x.Stock, x.Foil) || e != api.OK || len(l) != n || !slices.Equal(l, editsOf(x.Stock, x.Foil)) || f != api.OK {
			t.Error(n, e, l, f)
		}
		list := x.Stock
		for _, y := range l {
			list = edited(list, y)
		}
		if !slices.Equal(list, x.Foil) {
			t.Error(l, list)
		}
	})
}

// P7.3, P7.4, P7.9: true lists of tallies of all lengths, notch by notch.
func TestListsOfAllLengths(t *testing.T) {
	many, few := 0, 0
	great(t, 400, func(x api.Tally, _ *dice) {
		l := firstLists(x, api.MaxLists+1)
		if first, e := tally.First(x); !slices.Equal(first, l[0]) || e != api.OK {
			t.Error("First", first, e)
		}
		if len(l) > api.MaxLists {
			many++
			expect(t, tallies(x), given{}, api.ErrMany, "Lists")
			checkSums(t, x, func(worth [5]int) api.Span { return comesTo(x, worth) })
			return
		}
		few++
		if all, e := tally.Lists(x); !sameLists(all, l) || e != api.OK {
			t.Error("Lists", all, e)
		}
		checkSums(t, x, func(worth [5]int) api.Span { return sums(l, worth) })
	})
	if many < 40 || few < 200 {
		t.Error("too few of a kind:", many, few)
	}
}

// P7.3, P7.8, P7.9: no list has fewer false notches with both halves together, those with as few are true ones, and what they come to lies between what is told.
func TestAnyList(t *testing.T) {
	is, not := 0, 0
	great(t, 2000, func(x api.Tally, r *dice) {
		n, _ := tally.False(x)
		owed, _ := tally.Owed(x, rates())
		first, _ := tally.First(x)
		// Some of the edits are made in the stock, which leaves the others to the foil.
		some := x.Stock
		for _, y := range editsOf(x.Stock, x.Foil)[:r.upTo(0, n)] {
			some = edited(some, y)
		}
		for i, l := range [][]int{x.Stock, x.Foil, first, some, r.changed(some, 1, 20), r.changed(some, 2, 20), r.list(12, 4)} {
			sum := far(l, x.Stock) + far(l, x.Foil)
			if sum < n || sum > n && i < 4 {
				t.Error(i, l, sum, n)
			}
			got, e := tally.Is(x, l)
			if got != (sum == n) || e != api.OK {
				t.Error(i, l, got, e)
			}
			if !got {
				not++
				continue
			}
			is++
			worth := sums([][]int{l}, worthOf(rates())).Lo
			if worth < owed.Lo || worth > owed.Hi || slices.Compare(l, first) < 0 {
				t.Error(i, l, worth, owed, first)
			}
		}
	})
	if is < 5000 || not < 2000 {
		t.Error("too few of a kind:", is, not)
	}
}

// falseIn is how many notches are told to be false.
func falseIn(t *testing.T, x api.Tally) int {
	t.Helper()
	n, e := tally.False(x)
	if e != api.OK {
		t.Error(x, e)
	}
	return n
}

// P7.10: by way of a third list, and from the foil to the stock.
func TestThirdList(t *testing.T) {
	great(t, 2000, func(x api.Tally, r *dice) {
		third := r.list(12, 4)
		n := falseIn(t, x)
		if m := falseIn(t, cut(x.Foil, x.Stock)); m != n {
			t.Error(n, m)
		}
		if m := falseIn(t, cut(x.Stock, third)) + falseIn(t, cut(third, x.Foil)); n > m {
			t.Error(third, n, m)
		}
		if (n == 0) != slices.Equal(x.Stock, x.Foil) {
			t.Error(n)
		}
	})
}

// P7.6, P7.11: each index of the foil is tried, and pieces are put together.
func TestWhereOfAllLengths(t *testing.T) {
	together := 0
	great(t, 400, func(x api.Tally, _ *dice) {
		for at := range len(x.Stock) + 1 {
			want := 0
			for far(x.Stock[:at], x.Foil[:want])+far(x.Stock[at:], x.Foil[want:]) > far(x.Stock, x.Foil) {
				want++
			}
			k, e := tally.Where(x, at)
			if k != want || e != api.OK {
				t.Error(at, k, e)
			}
			a, b, e := tally.Split(x, at, k)
			if falseIn(t, a)+falseIn(t, b) != falseIn(t, x) || e != api.OK {
				t.Error(at, k, a, b, e)
			}
			together += checkPieces(t, x, a, b)
		}
	})
	if together < 5000 {
		t.Error("too few lists:", together)
	}
}

// checkPieces checks that lists of two pieces, one behind the other, are lists of the whole, and returns how many there were.
func checkPieces(t *testing.T, x, a, b api.Tally) (many int) {
	t.Helper()
	for _, front := range firstLists(a, 4) {
		for _, back := range firstLists(b, 4) {
			many++
			if is, e := tally.Is(x, slices.Concat(front, back)); !is || e != api.OK {
				t.Error(front, back, is, e)
			}
		}
	}
	return many
}

// P7.12: the same notch more on both halves, and two tallies joined.
func TestMoreNotches(t *testing.T) {
	fewer := 0
	great(t, 2000, func(x api.Tally, r *dice) {
		for kind := 1; kind <= 4; kind++ {
			if y, e := tally.Notch(x, kind); e == api.OK && falseIn(t, y) != falseIn(t, x) {
				t.Error(kind, y)
			}
		}
		y := r.tally(6)
		z, e := tally.Join(x, y)
		if e == api.ErrFull {
			return
		}
		both, n := falseIn(t, x)+falseIn(t, y), falseIn(t, z)
		if n > both || e != api.OK {
			t.Error(y, z, e)
		}
		if n < both {
			fewer++
		}
	})
	if fewer < 50 {
		t.Error("too few of a kind:", fewer)
	}
}

// P7.7, P7.13: all matchings are tried.
func TestAllMatchings(t *testing.T) {
	r := &dice{state: 23}
	several, moved, lengths := 0, 0, map[int]int{}
	for range 500 {
		var l []api.Tally
		for range r.upTo(0, api.MaxTallies) {
			l = append(l, r.tally(r.one(ints(1, 2, 3, 6, 12))))
		}
		for range r.upTo(0, 3) {
			if len(l) > 0 {
				a, b := &l[r.upTo(0, len(l)-1)], &l[r.upTo(0, len(l)-1)]
				a.Foil, b.Foil = b.Foil, a.Foil
			}
		}
		best, least := matchings(l)
		m, n, e := tally.Match(l)
		if !slices.Equal(m, best[0]) || n != least || e != api.OK {
			t.Error(l, m, n, e)
		}
		checkSort(t, l, best[0])
		checkSure(t, l, best)
		lengths[len(l)]++
		if len(best) > 1 {
			several++
		}
		if !slices.IsSorted(best[0]) {
			moved++
		}
	}
	if several < 100 || moved < 100 || len(lengths) != 7 {
		t.Error("too few of a kind:", several, moved, lengths)
	}
}

// checkSure checks what is the same in all matchings that are best.
func checkSure(t *testing.T, l []api.Tally, best [][]int) {
	t.Helper()
	sure, e := tally.Sure(l)
	if len(sure) != len(l) || e != api.OK {
		t.Fatal(l, sure, e)
	}
	for stock, foil := range sure {
		seen := map[int]bool{}
		for _, m := range best {
			seen[m[stock]] = true
		}
		if len(seen) == 1 && foil != best[0][stock] || len(seen) > 1 && foil != -1 {
			t.Error(l, stock, foil, seen)
		}
	}
}

// P7.4, P7.14: what a house owes is what each of its tallies comes to, together.
func TestOwesTogether(t *testing.T) {
	r := &dice{state: 29}
	for range 500 {
		var l []api.Tally
		var want [4]api.Span
		for range r.upTo(0, api.MaxTallies) {
			x := r.tally(api.MaxNotches)
			s, e := tally.Owed(x, rates())
			if e != api.OK {
				t.Error(x, e)
			}
			sum := &want[x.House]
			*sum = span(sum.Lo+s.Lo, sum.Hi+s.Hi)
			l = append(l, x)
		}
		for house := range 4 {
			if s, e := tally.Owes(l, house, rates()); s != want[house] || e != api.OK {
				t.Error(l, house, s, e)
			}
		}
	}
}
