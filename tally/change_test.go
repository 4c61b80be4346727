package tally_test

import (
	"slices"
	"testing"

	"aguador/api"
	"aguador/tally"
)

// P7.5: the notch is at the end of both halves.
func TestNotch(t *testing.T) {
	none := api.Tally{}
	for i, x := range []struct {
		x    api.Tally
		kind int
		want api.Tally
		e    api.Errno
	}{
		{chapter(), 1, cut(ints(1, 1, 2, 4, 1), ints(1, 2, 3, 4, 1)), api.OK}, {chapter(), 4, cut(ints(1, 1, 2, 4, 4), ints(1, 2, 3, 4, 4)), api.OK}, {cut(nil, nil), 2, cut(ints(2), ints(2)), api.OK}, {cut(row(11, 1), nil), 3, cut(append(row(11, 1), 3), ints(3)), api.OK}, {cut(row(11, 1), row(11, 2)), 3, cut(append(row(11, 1), 3), append(row(11, 2), 3)), api.OK}, {api.Tally{Id: 9999, House: 77}, 1, api.Tally{Id: 9999, House: 77, Stock: ints(1), Foil: ints(1)}, api.OK},
		{cut(row(12, 1), nil), 1, none, api.ErrFull}, {cut(nil, row(12, 1)), 1, none, api.ErrFull}, {cut(row(12, 1), row(12, 1)), 4, none, api.ErrFull}, {cut(row(12, 1), nil), 5, none, api.ErrNotch}, {odd(), 1, none, api.ErrTally},
	} {
		if y, e := tally.Notch(x.x, x.kind); !same(y, x.want) || e != x.e {
			t.Error(i, y, e)
		}
	}
}

// P7.5: the notches of the one behind those of the other one, in both halves.
func TestJoin(t *testing.T) {
	none := api.Tally{}
	other := api.Tally{Id: 7, House: 8, Stock: ints(3), Foil: ints(4, 2)}
	for i, x := range []struct {
		a, b, want api.Tally
		e          api.Errno
	}{
		{chapter(), other, cut(ints(1, 1, 2, 4, 3), ints(1, 2, 3, 4, 4, 2)), api.OK}, {other, chapter(), api.Tally{Id: 7, House: 8, Stock: ints(3, 1, 1, 2, 4), Foil: ints(4, 2, 1, 2, 3, 4)}, api.OK}, {chapter(), cut(nil, nil), chapter(), api.OK}, {cut(nil, nil), other, cut(ints(3), ints(4, 2)), api.OK}, {cut(nil, nil), cut(nil, nil), cut(nil, nil), api.OK},
		{cut(row(11, 1), row(10, 2)), other, cut(append(row(11, 1), 3), append(row(10, 2), 4, 2)), api.OK}, {cut(row(12, 1), nil), cut(nil, row(12, 2)), cut(row(12, 1), row(12, 2)), api.OK}, {cut(row(12, 1), row(10, 2)), other, none, api.ErrFull}, {cut(row(11, 1), row(11, 2)), other, none, api.ErrFull}, {cut(row(12, 1), row(12, 1)), cut(row(12, 1), row(12, 1)), none, api.ErrFull},
		{odd(), other, none, api.ErrTally}, {other, odd(), none, api.ErrTally}, {cut(row(12, 1), nil), cut(row(13, 1), nil), none, api.ErrTally}, {api.Tally{Stock: row(12, 1)}, other, none, api.ErrTally}, {cut(row(12, 1), nil), api.Tally{Stock: ints(1)}, none, api.ErrTally},
	} {
		if y, e := tally.Join(x.a, x.b); !same(y, x.want) || e != x.e {
			t.Error(i, y, e)
		}
	}
}

// P7.5: both pieces, cut at any index.
func TestSplit(t *testing.T) {
	for _, x := range tallies(chapter(), cut(row(12, 1), ints(1, 2)), cut(nil, nil), cut(nil, ints(3)), api.Tally{Id: 9999, House: 77, Stock: ints(2)}) {
		for at := -1; at <= len(x.Stock)+1; at++ {
			for foil := -1; foil <= len(x.Foil)+1; foil++ {
				var a, b api.Tally
				e := api.ErrCut
				if at >= 0 && at <= len(x.Stock) && foil >= 0 && foil <= len(x.Foil) {
					a, b, e = x, x, api.OK
					a.Stock, a.Foil = x.Stock[:at], x.Foil[:foil]
					b.Stock, b.Foil = x.Stock[at:], x.Foil[foil:]
				}
				y, z, f := tally.Split(x, at, foil)
				if !same(y, a) || !same(z, b) || f != e {
					t.Error(x, at, foil, y, z, f)
				}
			}
		}
	}
}

// roomy is a list with memory behind its end, which must stay as it is.
func roomy(l ...int) []int { return append(make([]int, 0, len(l)+5), l...) }

// roomyOnes are tallies with memory behind the ends of their lists.
func roomyOnes() []api.Tally {
	l := make([]api.Tally, 0, 7)
	return append(l, cut(roomy(1, 1, 2, 4), roomy(1, 2, 3, 4)), of(6, cut(roomy(3, 3), roomy(3))), cut(roomy(2), roomy(1, 2)))
}

// whole shows all memory behind a list.
func whole[T any](l []T) []T { return l[:cap(l)] }

// isAsBefore reports whether roomy tallies, and the memory behind them, are as they were.
func isAsBefore(l []api.Tally) bool {
	isSame := func(a, b api.Tally) bool {
		return a.Id == b.Id && a.House == b.House && slices.Equal(whole(a.Stock), whole(b.Stock)) && slices.Equal(whole(a.Foil), whole(b.Foil))
	}
	return slices.EqualFunc(whole(l), whole(roomyOnes()), isSame)
}

// spoil writes over all memory of what was told.
func (a told) spoil() {
	spoilList(a.l)
	for _, l := range a.lists {
		spoilList(l)
	}
	for i := range whole(a.lists) {
		whole(a.lists)[i] = nil
	}
	for i := range whole(a.edits) {
		whole(a.edits)[i].At = 77
	}
	for _, x := range a.all {
		spoilList(x.Stock)
		spoilList(x.Foil)
	}
	for i := range whole(a.all) {
		whole(a.all)[i].Id = 77
	}
}

func spoilList(l []int) {
	for i := range whole(l) {
		whole(l)[i] = 77
	}
}

// R3: no argument is written to, nothing is remembered, and no result shares memory with an argument or with another one.
func TestValues(t *testing.T) {
	l, list := roomyOnes(), roomy(1, 2, 4)
	g := given{list: list, kind: 2, house: 5, at: 2, foil: 1, rates: rates()}
	unchanged := func() bool { return isAsBefore(l) && slices.Equal(whole(list), ints(1, 2, 4, 0, 0, 0, 0, 0)) }
	fresh := calls(given{list: ints(1, 2, 4), kind: 2, house: 5, at: 2, foil: 1, rates: rates()})
	for i, c := range calls(g) {
		a := c.run(l)
		b := c.run(l)
		want := fresh[i].run(roomyOnes())
		if !a.equal(want) || !b.equal(want) || a.e != api.OK {
			t.Error(c.name, a, b, want)
		}
		if !unchanged() {
			t.Error(c.name, "writes", whole(l), whole(list))
		}
		a.spoil()
		if !unchanged() || !b.equal(want) {
			t.Error(c.name, "shares memory", b)
		}
		if z := c.run(l); !z.equal(want) {
			t.Error(c.name, "remembers", z)
		}
	}
}

// R3: what is told in one result does not share memory either.
func TestApart(t *testing.T) {
	all, _ := tally.Lists(chapter())
	for i, l := range all {
		old := slices.Clone(all)
		for k := range old {
			old[k] = slices.Clone(old[k])
		}
		spoilList(l)
		for k := range all {
			if k != i && !slices.Equal(all[k], old[k]) {
				t.Error(i, k, all[k])
			}
		}
	}
	a, b, _ := tally.Split(chapter(), 2, 1)
	spoilList(a.Stock)
	spoilList(a.Foil)
	if !same(b, cut(ints(2, 4), ints(2, 3, 4))) {
		t.Error(b)
	}
	shared := ints(1, 2)
	sorted, _ := tally.Sort(tallies(cut(shared, shared), cut(shared, shared)))
	spoilList(sorted[0].Stock)
	if !slices.Equal(sorted[0].Foil, ints(1, 2)) || !same(sorted[1], cut(ints(1, 2), ints(1, 2))) {
		t.Error(sorted)
	}
	x, _ := tally.Notch(cut(shared, shared), 3)
	spoilList(x.Stock)
	if !slices.Equal(x.Foil, ints(1, 2, 3)) || !slices.Equal(shared, ints(1, 2)) {
		t.Error(x, shared)
	}
	y, _ := tally.Join(cut(nil, nil), cut(shared, shared))
	spoilList(y.Stock)
	if !slices.Equal(y.Foil, ints(1, 2)) || !slices.Equal(shared, ints(1, 2)) {
		t.Error(y, shared)
	}
}

// R4: a nil list and an empty one are the same.
func TestNilAndEmpty(t *testing.T) {
	with, without := calls(given{kind: 1}), calls(given{kind: 1, list: ints()})
	for i := range with {
		for _, l := range [][]int{nil, {1, 2}} {
			a := with[i].run(tallies(cut(nil, l), cut(l, nil)))
			b := without[i].run(tallies(cut(ints(), l), cut(l, ints())))
			if !a.equal(b) {
				t.Error(with[i].name, a, b)
			}
		}
	}
}

// R5, R6, R7: whatever the arguments are, each call ends, and does not panic.
func TestAnyValue(t *testing.T) {
	r := &dice{state: 3}
	odd := ints(low, low+1, -1, 0, 1, 2, 3, 4, 5, 6, 12, 13, 1000, 1001, 9999, 10000, huge-1, huge)
	near := func() int {
		if r.upTo(0, 9) == 0 {
			return r.one(odd)
		}
		return r.upTo(0, 4)
	}
	answered := 0
	for range 3000 {
		l := roomyOnes()
		for _, p := range []*int{&l[0].Id, &l[0].House, &l[0].Stock[1], &l[0].Foil[3], &l[1].Id, &l[1].Stock[0], &l[2].House, &l[2].Foil[1]} {
			if r.upTo(0, 20) == 0 {
				*p = r.one(odd)
			}
		}
		g := given{
			list: ints(near(), near(), near(), near()), kind: near(), house: near() + 3, at: near(), foil: near(),
			rates: api.Rates{Skin: near(), Half: near(), Barrel: near(), Paid: near()},
		}
		for _, c := range calls(g) {
			z := c.run(l)
			if c.name != "Check" && z.e == api.OK {
				answered++
			}
			if z.e != api.OK && !z.isZero() {
				t.Fatal(c.name, l, g, z)
			}
			for _, x := range z.all {
				if z.e == api.OK && tally.Check(x) != api.OK {
					t.Fatal(c.name, l, g, z)
				}
			}
		}
	}
	if answered < 10000 {
		t.Error("too few calls answer:", answered)
	}
}

// R7: lists however long are looked at, and each call ends.
func TestLongLists(t *testing.T) {
	for _, x := range tallies(cut(row(1<<20, 1), nil), cut(nil, row(1<<20, 1))) {
		for _, c := range calls(given{list: row(1<<20, 1)}) {
			if z := c.run(tallies(x, x)); z.e != api.ErrTally || !z.isZero() {
				t.Error(c.name, z.e)
			}
		}
	}
	expect(t, slices.Repeat(tallies(chapter()), 1<<20), given{}, api.ErrArg, listCalls()...)
}
