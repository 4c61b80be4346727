package mix_test

import (
	"slices"
	"testing"

	"aguador/api"
	"aguador/mix"
)

// P4.1: what is valid, up to each limit and beyond it.
func TestCheck(t *testing.T) {
	bad := api.ErrMix
	at := func(fountains int) func(m *api.Mix) { return func(m *api.Mix) { m.Fountains = fountains } }
	first := func(id, size int) func(m *api.Mix) {
		return func(m *api.Mix) { m.Vessels[0] = api.Vessel{Id: id, Size: size} }
	}
	last := func(id, size int) func(m *api.Mix) {
		return func(m *api.Mix) { m.Vessels = append(m.Vessels, api.Vessel{Id: id, Size: size}) }
	}
	with := func(l ...api.Taste) func(m *api.Mix) { return func(m *api.Mix) { m.Tastes = l } }
	whole := func(y api.Mix) func(m *api.Mix) { return func(m *api.Mix) { *m = y } }
	for i, x := range []struct {
		change func(m *api.Mix)
		e      api.Errno
	}{
		{func(*api.Mix) {}, api.OK}, {whole(great()), api.OK}, {whole(api.Mix{Fountains: 1}), api.OK}, {whole(api.Mix{}), bad},
		{at(2), api.OK}, {at(4), api.OK}, {at(5), bad}, {at(1), bad}, {at(0), bad}, {at(-1), bad}, {at(huge), bad}, {at(low), bad},
		{first(1, 12), api.OK}, {first(1, 4), api.OK}, {first(1, 3), bad}, {first(1, 13), bad}, {first(1, huge), bad}, {first(1, low), bad}, {first(2, 6), bad}, {first(0, 6), bad}, {first(-1, 6), bad}, {first(low, 6), bad}, {first(huge, 6), bad}, {first(4, 6), bad},
		{last(4, 1), api.OK}, {last(9999, 12), api.OK}, {last(10000, 1), bad}, {last(huge, 1), bad}, {last(3, 1), bad}, {last(2, 1), bad}, {last(0, 1), bad}, {last(low, 1), bad}, {last(4, 0), bad}, {last(4, -1), bad}, {last(4, 13), bad}, {last(4, low), bad},
		{func(m *api.Mix) { last(4, 1)(m); last(5, 1)(m) }, bad}, {func(m *api.Mix) { m.Vessels = nil }, bad}, {func(m *api.Mix) { m.Vessels = m.Vessels[:2] }, bad},
		{func(m *api.Mix) { m.Acts = rinses(12) }, api.OK}, {func(m *api.Mix) { m.Acts = rinses(13) }, bad}, {func(m *api.Mix) { m.Acts = nil }, api.OK}, {func(m *api.Mix) { m.Acts[0], m.Acts[2] = m.Acts[2], m.Acts[0] }, bad}, {func(m *api.Mix) { m.Acts = m.Acts[1:] }, bad},
		{whole(twos(8)), api.OK}, {whole(twos(9)), bad},
		{with(taste(1, 1, 0, 1, 0, 0)), api.OK}, {with(taste(9999, 3, 5, 2, huge, huge)), api.OK}, {with(taste(1, 2, 3, 2, 0, huge)), api.OK},
		{with(taste(1, 1, 0, 1, 0, 0), taste(2, 1, 0, 1, 0, 0)), api.OK}, {with(taste(2, 1, 0, 1, 0, 0), taste(1, 1, 0, 1, 0, 0)), bad}, {with(taste(2, 1, 0, 1, 0, 0), taste(2, 1, 0, 1, 0, 0)), bad},
	} {
		m := chapter()
		x.change(&m)
		checkAll(t, i, m, x.e)
	}
	// A taste that is not valid, first or last.
	for i, x := range badTastes() {
		checkAll(t, i, tasted(chapter(), x), bad)
		checkAll(t, i, tasted(chapter(), taste(1, 1, 0, 1, 0, 0), x), bad)
	}
}

// badTastes are those that are not valid in the chapter's mixed water.
func badTastes() []api.Taste {
	var l []api.Taste
	for _, n := range ints(0, -1, 10000, low, huge) {
		l = append(l, taste(n, 1, 0, 1, 0, 0))
	}
	for _, n := range ints(0, -1, 4, 9999, low, huge) {
		l = append(l, taste(7, n, 0, 1, 0, 0))
	}
	for _, n := range ints(-1, 6, low, huge) {
		l = append(l, taste(7, 1, n, 1, 0, 0))
	}
	for _, n := range ints(0, -1, 3, low, huge) {
		l = append(l, taste(7, 1, 0, n, 0, 0))
	}
	return append(l, taste(7, 1, 0, 1, -1, 0), taste(7, 1, 0, 1, 2, 1), taste(7, 1, 0, 1, low, huge), taste(7, 1, 0, 1, huge, low), taste(7, 1, 0, 1, low, low), taste(7, 1, 0, 1, huge, huge-1))
}

// checkAll checks that mixed water is valid, or that each call says that it is not.
func checkAll(t *testing.T, i int, m api.Mix, e api.Errno) {
	t.Helper()
	if f := mix.Check(m); f != e {
		t.Error(i, f)
	}
	if e == api.OK {
		return
	}
	for _, c := range calls(given{after: -1, numbers: ints(0)}) {
		if z := c.run(m); z.e != e || !z.isZero() {
			t.Error(i, c.name, z)
		}
	}
}

// P4.1, P4.7: which acts can be done after those of the chapter's example, when 1 holds 2 drops of 6, 2 holds 2 of 5, and 3 holds 2 of 4.
func TestActs(t *testing.T) {
	bad := api.ErrAct
	for i, x := range []struct {
		x api.Act
		e api.Errno
	}{
		{fill(1, 1, 1), api.OK}, {fill(2, 1, 4), api.OK}, {fill(2, 1, 5), bad}, {fill(1, 2, 3), api.OK}, {fill(1, 2, 4), bad}, {fill(3, 1, 1), bad}, {fill(0, 1, 1), bad}, {fill(-1, 1, 1), bad}, {fill(low, 1, 1), bad}, {fill(huge, 1, 1), bad},
		{fill(1, 4, 1), bad}, {fill(1, 0, 1), bad}, {fill(1, low, 1), bad}, {fill(1, huge, 1), bad}, {fill(1, 1, 0), bad}, {fill(1, 1, -1), bad}, {fill(1, 1, low), bad}, {fill(1, 1, huge), bad},
		{pour(1, 3, 2), api.OK}, {pour(1, 3, 1), api.OK}, {pour(1, 2, 2), api.OK}, {pour(1, 3, 3), bad}, {pour(2, 1, 2), api.OK}, {pour(2, 1, 3), bad}, {pour(1, 1, 1), bad}, {pour(1, 4, 1), bad}, {pour(4, 1, 1), bad}, {pour(1, 0, 1), bad}, {pour(0, 1, 1), bad}, {pour(low, 1, 1), bad}, {pour(1, huge, 1), bad},
		{pour(1, 3, 0), bad}, {pour(1, 3, -1), bad}, {pour(1, 3, low), bad}, {pour(1, 3, huge), bad},
		{lose(1, 1), api.OK}, {lose(1, 2), api.OK}, {lose(1, 3), bad}, {lose(1, 0), bad}, {lose(1, -1), bad}, {lose(1, low), bad}, {lose(1, huge), bad}, {lose(4, 1), bad}, {lose(0, 1), bad}, {lose(low, 1), bad},
		{api.Act{Kind: api.ActLose, From: 1, To: 2, Drops: 1}, bad}, {api.Act{Kind: api.ActLose, From: 1, To: -1, Drops: 1}, bad}, {api.Act{Kind: api.ActLose, From: 1, To: 9, Drops: 1}, bad},
		{rinse(1), api.OK}, {rinse(3), api.OK}, {rinse(4), bad}, {rinse(0), bad}, {rinse(low), bad}, {rinse(huge), bad}, {api.Act{Kind: api.ActRinse, From: 1, Drops: 2}, bad}, {api.Act{Kind: api.ActRinse, From: 1, Drops: -2}, bad}, {api.Act{Kind: api.ActRinse, From: 1, To: 2}, bad},
		{api.Act{}, bad}, {api.Act{Kind: 5, From: 1}, bad}, {api.Act{Kind: -1, From: 1}, bad}, {api.Act{Kind: low, From: 1}, bad}, {api.Act{Kind: huge, From: 1, To: 2, Drops: 1}, bad}, {api.Act{From: 1, To: 2, Drops: 1}, bad},
	} {
		m := chapter(taste(1, 1, 5, 1, 0, 9))
		want := api.Mix{}
		check := api.ErrMix
		longer := m
		longer.Acts = append(slices.Clone(m.Acts), x.x)
		if x.e == api.OK {
			want, check = longer, api.OK
		}
		if y, e := mix.Do(m, x.x); !same(y, want) || e != x.e {
			t.Error(i, y, e)
		}
		if e := mix.Check(longer); e != check {
			t.Error(i, e)
		}
	}
	// A vessel that was rinsed has room for all, and nothing is poured or lost out of it; it can be rinsed again.
	empty := jars(1, fill(1, 1, 12), rinse(1))
	for i, x := range []struct {
		x api.Act
		e api.Errno
	}{{fill(1, 1, 12), api.OK}, {fill(1, 1, 13), bad}, {pour(1, 2, 1), bad}, {lose(1, 1), bad}, {rinse(1), api.OK}, {rinse(2), api.OK}} {
		if _, e := mix.Do(empty, x.x); e != x.e {
			t.Error(i, e)
		}
	}
}

// P4.1, R1, R2: of several errors the one that is named first, and nothing beside it.
func TestErrors(t *testing.T) {
	torn := chapter(taste(1, 1, 5, 1, 3, 3), taste(2, 2, 5, 2, 5, 5))
	wild := given{vessel: 1, to: 1, after: 5, fountain: 1, other: 1, moved: 1, numbers: ints(3), act: rinse(4)}
	for _, id := range ints(0, 4, -1, low, huge) {
		g := given{vessel: id, to: 1, after: -1, fountain: 0, other: 0}
		expect(t, torn, g, api.ErrNone, "Holds", "Of", "Known", "Pure", "Met", "Path", "Watch", "Safe")
		g = given{vessel: 1, to: id, fountain: 0}
		expect(t, torn, g, api.ErrNone, "Safe")
	}
	for _, after := range ints(-1, 6, low, huge) {
		g := wild
		g.after = after
		expect(t, torn, g, api.ErrArg, "Holds", "Of", "Known", "Pure", "Met", "Path", "Watch")
	}
	for _, act := range ints(0, -1, 6, low, huge) {
		g := wild
		g.moved = act
		expect(t, torn, g, api.ErrArg, "Moved")
	}
	for _, fountain := range ints(0, -1, 3, low, huge) {
		g := wild
		g.fountain = fountain
		expect(t, torn, g, api.ErrArg, "Of", "Known", "Pure", "Moved", "Gone", "Met", "Path", "Watch", "Safe")
		g = wild
		g.other = fountain
		expect(t, torn, g, api.ErrArg, "Met")
	}
	expect(t, torn, wild, api.ErrBad, "Of", "Known", "Pure", "Moved", "Gone")
	expect(t, torn, wild, api.ErrArg, "Met")
	expect(t, torn, wild, api.ErrAct, "Safe", "Do")
	expect(t, torn, wild, api.ErrTaste, "Strike", "Undo", "Put")
	// What regards no tastes needs no truth.
	wild.other = 2
	expect(t, torn, wild, api.OK, "Check", "Holds", "Met", "Path", "Watch", "Wrong")
	wild.to, wild.drops = 3, 1
	expect(t, torn, wild, api.ErrBad, "Safe")
	expect(t, tasted(jars(1, rinses(12)...), taste(1, 1, 0, 1, 1, 1)), given{vessel: 1, to: 1, fountain: 1}, api.ErrFull, "Safe", "Do")
	expect(t, tasted(jars(1, rinses(12)...), taste(1, 1, 0, 1, 1, 1)), given{vessel: 1, to: 1, fountain: 2}, api.ErrArg, "Safe")
	expect(t, chapter(), given{vessel: 1, after: 1, fountain: 2}, api.ErrNone, "Path", "Watch")
}

// P4.1, P4.2: what places hold: the chapter's examples, tastes, rinses, and vessels that are empty.
func TestHolds(t *testing.T) {
	round := jars(3, fill(1, 1, 2), fill(2, 1, 3), fill(3, 1, 1), pour(1, 2, 4), pour(2, 1, 1))
	no, open, yes := uint8(api.KnownNo), uint8(api.KnownOpen), uint8(api.KnownYes)
	for i, x := range []struct {
		m                       api.Mix
		vessel, after, fountain int
		n                       int
		of                      api.Span
		known, pure             uint8
	}{
		{chapter(), 2, 3, 1, 5, span(2, 2), yes, no}, {chapter(), 3, 5, 1, 2, span(0, 2), open, open}, {chapter(), 3, 4, 1, 3, span(0, 2), open, no}, {chapter(), 3, 4, 2, 3, span(1, 3), yes, open}, {chapter(), 1, 5, 1, 2, span(2, 2), yes, yes}, {chapter(), 1, 5, 2, 2, span(0, 0), no, no},
		{chapter(), 1, 0, 1, 0, span(0, 0), no, yes}, {chapter(), 1, 0, 2, 0, span(0, 0), no, yes}, {chapter(), 1, 1, 1, 4, span(4, 4), yes, yes}, {chapter(), 2, 4, 1, 2, span(0, 2), open, open}, {chapter(), 2, 4, 2, 2, span(0, 2), open, open},
		{chapter(taste(1, 2, 4, 1, 2, 2)), 3, 5, 1, 2, span(0, 0), no, no}, {chapter(taste(1, 2, 4, 1, 2, 2)), 3, 4, 1, 3, span(0, 0), no, no}, {chapter(taste(1, 3, 5, 1, 1, 9)), 3, 4, 1, 3, span(1, 2), yes, no}, {chapter(taste(1, 3, 5, 1, 2, huge)), 2, 4, 1, 2, span(0, 0), no, no}, {chapter(taste(1, 3, 4, 1, 1, 1)), 3, 5, 1, 2, span(0, 1), open, no},
		// What is tasted of one fountain tells nothing of another one.
		{chapter(taste(1, 2, 4, 1, 2, 2)), 3, 4, 2, 3, span(1, 3), yes, open}, {chapter(taste(1, 2, 4, 1, 2, 2)), 2, 4, 2, 2, span(0, 2), open, open}, {chapter(taste(1, 1, 5, 1, 3, 3)), 3, 4, 2, 3, span(1, 3), yes, open},
		{chapter(taste(1, 1, 0, 1, 0, 0)), 3, 5, 1, 2, span(0, 2), open, open}, {chapter(taste(1, 3, 5, 1, 0, huge)), 3, 5, 1, 2, span(0, 2), open, open},
		{round, 1, 5, 1, 3, span(0, 2), open, no}, {round, 1, 5, 2, 3, span(0, 3), open, open}, {round, 1, 5, 3, 3, span(0, 1), open, no}, {round, 2, 4, 2, 4, span(1, 3), yes, no}, {round, 2, 4, 1, 4, span(0, 2), open, no}, {round, 1, 4, 2, 2, span(0, 2), open, open},
		{jars(1, fill(1, 1, 2), rinse(1)), 1, 2, 1, 0, span(0, 0), no, yes}, {jars(2, fill(1, 1, 2), rinse(1), fill(2, 1, 4)), 1, 3, 2, 4, span(4, 4), yes, yes}, {jars(2, fill(1, 1, 2), rinse(1), fill(2, 1, 4)), 1, 3, 1, 4, span(0, 0), no, no}, {jars(2, fill(1, 1, 2), fill(2, 1, 2), lose(1, 4)), 1, 3, 1, 0, span(0, 0), no, yes},
		{jars(2, fill(1, 1, 5), fill(2, 1, 7), lose(1, 6)), 1, 3, 1, 6, span(0, 5), open, no}, {jars(2, fill(1, 1, 5), fill(2, 1, 7), lose(1, 6)), 1, 3, 2, 6, span(1, 6), yes, open}, {jars(2, fill(1, 1, 5), fill(2, 1, 7), pour(1, 2, 12)), 2, 3, 2, 12, span(7, 7), yes, no},
		{great(), 9996, 12, 3, 0, span(0, 0), no, yes}, {great(), 9999, 12, 1, 12, span(12, 12), yes, yes}, {great(), 9999, 12, 3, 12, span(0, 0), no, no}, {great(), 9999, 7, 4, 12, span(12, 12), yes, yes}, {great(), 9997, 12, 4, 6, span(0, 6), open, open}, {api.Mix{Fountains: 4, Vessels: []api.Vessel{{Id: 5, Size: 1}}}, 5, 0, 4, 0, span(0, 0), no, yes},
	} {
		n, e := mix.Holds(x.m, x.vessel, x.after)
		of, f := mix.Of(x.m, x.vessel, x.after, x.fountain)
		k, g := mix.Known(x.m, x.vessel, x.after, x.fountain)
		p, h := mix.Pure(x.m, x.vessel, x.after, x.fountain)
		if n != x.n || e != api.OK || of != x.of || f != api.OK || k != x.known || g != api.OK || p != x.pure || h != api.OK {
			t.Error(i, n, e, of, f, k, g, p, h)
		}
	}
}

// P4.3: what acts move, and what is gone: the chapter's examples, tastes, and each kind of acts.
func TestMoved(t *testing.T) {
	both := jars(2, fill(1, 1, 2), fill(2, 1, 3), lose(1, 4), rinse(1))
	for i, x := range []struct {
		m             api.Mix
		act, fountain int
		moved, gone   api.Span
		e, f          api.Errno
	}{
		{chapter(), 4, 1, span(0, 2), span(0, 1), api.OK, api.OK}, {chapter(), 5, 1, span(0, 1), span(0, 1), api.OK, api.OK}, {chapter(), 5, 2, span(0, 1), span(0, 1), api.OK, api.OK}, {chapter(), 1, 1, span(4, 4), span(0, 1), api.OK, api.OK}, {chapter(), 1, 2, span(0, 0), span(0, 1), api.OK, api.OK}, {chapter(), 3, 1, span(2, 2), span(0, 1), api.OK, api.OK}, {chapter(), 3, 2, span(0, 0), span(0, 1), api.OK, api.OK}, {chapter(), 4, 2, span(1, 3), span(0, 1), api.OK, api.OK},
		{chapter(taste(1, 3, 5, 1, 0, 0)), 4, 1, span(0, 1), span(0, 1), api.OK, api.OK}, {chapter(taste(1, 3, 5, 1, 2, 2)), 5, 1, span(0, 0), span(0, 0), api.OK, api.OK}, {chapter(taste(1, 3, 5, 1, 2, 2)), 5, 2, span(0, 1), span(0, 1), api.OK, api.OK}, {chapter(taste(1, 3, 5, 1, 2, 2)), 4, 1, span(2, 2), span(0, 0), api.OK, api.OK},
		{both, 3, 1, span(1, 2), span(2, 2), api.OK, api.OK}, {both, 3, 2, span(2, 3), span(3, 3), api.OK, api.OK}, {both, 4, 1, span(0, 1), span(2, 2), api.OK, api.OK}, {both, 4, 2, span(0, 1), span(3, 3), api.OK, api.OK}, {tasted(both, taste(4, 1, 3, 2, 1, 3)), 4, 2, span(1, 1), span(3, 3), api.OK, api.OK}, {tasted(both, taste(4, 1, 3, 2, 1, 3)), 3, 2, span(2, 2), span(3, 3), api.OK, api.OK},
		{jars(1, rinse(1)), 1, 1, span(0, 0), span(0, 0), api.OK, api.OK}, {jars(1, fill(1, 1, 12), rinse(2)), 2, 1, span(0, 0), span(0, 0), api.OK, api.OK}, {jars(1, fill(1, 1, 12), rinse(1), fill(1, 1, 12), lose(1, 12)), 4, 1, span(12, 12), span(24, 24), api.OK, api.OK}, {jars(3), 1, 3, api.Span{}, span(0, 0), api.ErrArg, api.OK}, {great(), 8, 4, span(12, 12), span(12, 18), api.OK, api.OK}, {great(), 8, 3, span(0, 0), span(0, 6), api.OK, api.OK},
		{chapter(taste(1, 1, 5, 1, 3, 3)), 1, 1, api.Span{}, api.Span{}, api.ErrBad, api.ErrBad}, {chapter(taste(1, 1, 5, 1, 3, 3)), 1, 2, span(0, 0), span(0, 1), api.OK, api.OK}, {chapter(taste(1, 1, 0, 1, 1, 1)), 2, 1, api.Span{}, api.Span{}, api.ErrBad, api.ErrBad}, {chapter(taste(1, 2, 4, 1, 0, 0), taste(2, 3, 4, 1, 0, 1)), 4, 1, api.Span{}, api.Span{}, api.ErrBad, api.ErrBad},
	} {
		a, e := mix.Moved(x.m, x.act, x.fountain)
		b, f := mix.Gone(x.m, x.fountain)
		if a != x.moved || e != x.e || b != x.gone || f != x.f {
			t.Error(i, a, e, b, f)
		}
	}
}

// P4.4: the chapter's examples, drops that cannot both go or stay, and several ways.
func TestWays(t *testing.T) {
	// A drop of each goes into 2; from there one drop goes on, or both do.
	one := jars(3, fill(1, 1, 1), fill(2, 2, 1), pour(1, 2, 1), pour(2, 3, 1), pour(2, 4, 1))
	both := jars(3, fill(1, 1, 1), fill(2, 2, 1), pour(1, 2, 1), pour(2, 3, 2))
	// One drop of three goes out and comes back, and another one: two of them can have been together in 2 only from then on.
	there := jars(2, fill(1, 1, 2), fill(2, 1, 1), pour(1, 2, 1), pour(1, 2, 1), pour(2, 3, 1))
	back := jars(2, fill(1, 1, 2), pour(1, 2, 1), pour(1, 3, 1), pour(2, 4, 1), pour(3, 4, 1), fill(2, 4, 1))
	// Two branches, of which one is shorter; and two that are as long.
	long := jars(1, fill(1, 1, 3), pour(1, 2, 1), pour(2, 3, 1), pour(3, 4, 1), pour(1, 4, 1))
	twin := jars(1, fill(1, 1, 3), pour(1, 2, 1), pour(1, 3, 1), pour(3, 4, 1), pour(2, 4, 1))
	// Three ways: by 2 and 3, by 2 alone, and a filling.
	three := jars(1, fill(1, 1, 4), pour(1, 2, 2), pour(2, 3, 1), pour(2, 4, 1), pour(3, 4, 1), fill(1, 4, 1))
	for i, x := range []struct {
		m                           api.Mix
		vessel, after, from, others int
		met                         bool
		path, watch                 []int // nothing if there is no way
	}{
		{chapter(), 3, 5, 1, 2, true, ints(1, 3, 4), ints(1)}, {chapter(), 1, 5, 1, 2, false, ints(1), ints(1)}, {chapter(), 3, 5, 2, 1, true, ints(2, 4), ints(2)}, {chapter(), 1, 5, 2, 1, false, nil, nil}, {chapter(), 2, 3, 1, 2, true, ints(1, 3), ints(1)}, {chapter(), 2, 2, 1, 2, false, nil, nil}, {chapter(), 3, 3, 1, 2, false, nil, nil}, {chapter(), 1, 0, 1, 2, false, nil, nil}, {chapter(), 1, 1, 1, 2, false, ints(1), ints(1)},
		{chapter(taste(1, 2, 4, 1, 2, 2), taste(2, 1, 5, 1, 3, 3)), 3, 5, 1, 2, true, ints(1, 3, 4), ints(1)},
		{one, 3, 5, 1, 2, false, ints(1, 3, 4), ints(1)}, {one, 4, 5, 2, 1, false, ints(2, 5), ints(2)}, {one, 2, 3, 2, 1, true, ints(2), ints(2)}, {one, 2, 4, 2, 1, false, ints(2), ints(2)}, {one, 2, 5, 2, 1, false, nil, nil}, {one, 2, 5, 3, 1, false, nil, nil}, {one, 2, 5, 1, 3, false, nil, nil}, {both, 3, 4, 1, 2, true, ints(1, 3, 4), ints(1)}, {both, 3, 4, 2, 1, true, ints(2, 4), ints(2)}, {both, 2, 4, 1, 2, false, nil, nil},
		{there, 2, 3, 1, 2, false, ints(1, 3), ints(1)}, {there, 2, 4, 1, 2, true, ints(1, 3), ints(1)}, {there, 2, 4, 2, 1, true, ints(2, 3), ints(2)}, {there, 2, 5, 1, 2, false, ints(1, 3), ints(1)}, {there, 1, 3, 2, 1, true, ints(2), ints(2)}, {there, 1, 4, 2, 1, false, ints(2), ints(2)}, {there, 3, 5, 1, 2, false, ints(1, 3, 5), ints(1)},
		{back, 4, 6, 1, 2, true, ints(1, 2, 4), ints(1)}, {back, 4, 5, 1, 2, false, ints(1, 2, 4), ints(1)}, {back, 1, 2, 1, 2, false, ints(1), ints(1)}, {back, 1, 3, 1, 2, false, nil, nil}, {back, 4, 6, 2, 1, true, ints(6), ints(6)},
		{jars(2, fill(1, 1, 1), fill(2, 1, 1), lose(1, 1)), 1, 3, 1, 2, false, ints(1), ints(1)}, {jars(2, fill(1, 1, 1), fill(2, 1, 2), lose(1, 1)), 1, 3, 1, 2, true, ints(1), ints(1)}, {jars(2, fill(1, 1, 2), fill(2, 1, 2), lose(1, 3)), 1, 3, 1, 2, false, ints(1), ints(1)}, {jars(2, fill(1, 1, 2), fill(2, 1, 2), lose(1, 4)), 1, 3, 1, 2, false, nil, nil}, {jars(2, fill(1, 1, 2), fill(2, 1, 2), rinse(1)), 1, 3, 1, 2, false, nil, nil},
		{jars(2, fill(1, 1, 2), rinse(1), fill(1, 1, 1)), 1, 3, 1, 2, false, ints(3), ints(3)}, {jars(2, fill(1, 1, 2), rinse(1), fill(2, 1, 1)), 1, 3, 1, 2, false, nil, nil}, {jars(2, fill(1, 1, 2), pour(1, 2, 2), rinse(1), pour(2, 1, 2)), 1, 4, 1, 2, false, ints(1, 2, 4), ints(1)}, {jars(2, fill(1, 1, 2), pour(1, 2, 1), pour(1, 2, 1)), 2, 3, 1, 2, false, ints(1, 2), ints(1)},
		{jars(2, fill(1, 1, 2), fill(1, 1, 2), pour(1, 2, 3)), 2, 3, 1, 2, false, ints(1, 3), ints(3)}, {jars(2, fill(1, 1, 2), fill(1, 2, 2), pour(1, 2, 2)), 2, 3, 1, 2, false, ints(2), ints(1, 2)}, {jars(2, fill(1, 1, 2), fill(1, 1, 2), fill(1, 2, 1), pour(1, 2, 3), fill(2, 2, 1)), 2, 5, 1, 2, true, ints(3), ints(3, 4)}, {jars(2, fill(1, 1, 1), fill(1, 1, 1), fill(1, 1, 1)), 1, 3, 1, 2, false, ints(1), ints(1, 2, 3)},
		{long, 4, 5, 1, 1, false, ints(1, 5), ints(1)}, {long, 4, 4, 1, 1, false, ints(1, 2, 3, 4), ints(1)}, {twin, 4, 5, 1, 1, false, ints(1, 2, 5), ints(1)}, {twin, 4, 4, 1, 1, false, ints(1, 3, 4), ints(1)}, {three, 4, 6, 1, 1, false, ints(6), ints(1, 6)}, {three, 4, 5, 1, 1, false, ints(1, 2, 4), ints(1)},
	} {
		met, e := mix.Met(x.m, x.vessel, x.after, x.from, x.others)
		l, f := mix.Path(x.m, x.vessel, x.after, x.from)
		w, g := mix.Watch(x.m, x.vessel, x.after, x.from)
		if x.others == x.from {
			met, e = x.met, e-api.ErrArg
		}
		want := api.OK
		if x.path == nil {
			want = api.ErrNone
		}
		if met != x.met || e != api.OK || !slices.Equal(l, x.path) || f != want || !slices.Equal(w, x.watch) || g != want {
			t.Error(i, met, e, l, f, w, g)
		}
	}
}

// P4.4: of several lists of as many acts the one that is before all others.
func TestWatchFirst(t *testing.T) {
	// Two fillings, each with a pouring into 3 behind it: with both before them, the fillings; where the second one is needed for both, it alone.
	for i, x := range []struct {
		m     api.Mix
		watch []int
	}{
		{jars(1, fill(1, 1, 1), fill(1, 2, 1), pour(1, 3, 1), pour(2, 3, 1)), ints(1, 2)}, {jars(1, fill(1, 1, 1), pour(1, 3, 1), fill(1, 2, 1), pour(2, 3, 1)), ints(1, 3)}, {jars(1, fill(1, 1, 1), fill(1, 1, 1), fill(1, 2, 1), pour(1, 3, 2), pour(2, 3, 1)), ints(3, 4)}, {jars(1, fill(1, 1, 1), fill(1, 1, 1), fill(1, 2, 1), fill(1, 2, 1), pour(1, 3, 2), pour(2, 3, 2)), ints(5, 6)}, {jars(1, fill(1, 1, 1), fill(1, 1, 1), pour(1, 2, 2), fill(1, 2, 1), pour(2, 3, 3), fill(1, 3, 1)), ints(5, 6)},
		{jars(1, fill(1, 1, 1), fill(1, 1, 1), pour(1, 2, 2), pour(2, 4, 2), pour(4, 3, 2)), ints(3)}, {jars(1, slices.Repeat([]api.Act{fill(1, 3, 1)}, 12)...), ints(1, 2, 3, 4, 5, 6, 7, 8, 9, 10, 11, 12)},
	} {
		if l, e := mix.Watch(x.m, 3, len(x.m.Acts), 1); !slices.Equal(l, x.watch) || e != api.OK {
			t.Error(i, l, e)
		}
	}
}

// P4.5: the chapter's example, tastes, and pourings that cannot be.
func TestSafe(t *testing.T) {
	for i, x := range []struct {
		m                         api.Mix
		from, to, drops, fountain int
		k                         uint8
		e                         api.Errno
	}{
		{chapter(), 3, 1, 1, 1, api.KnownOpen, api.OK}, {chapter(), 3, 1, 1, 2, api.KnownNo, api.OK}, {chapter(), 1, 3, 1, 1, api.KnownOpen, api.OK}, {chapter(), 1, 3, 1, 2, api.KnownNo, api.OK}, {chapter(taste(1, 3, 5, 1, 2, 2)), 3, 1, 2, 1, api.KnownYes, api.OK}, {chapter(taste(1, 3, 5, 1, 1, 1)), 3, 1, 2, 1, api.KnownNo, api.OK}, {chapter(taste(1, 3, 5, 1, 1, 1)), 3, 1, 1, 1, api.KnownOpen, api.OK}, {chapter(taste(1, 2, 4, 1, 0, 0)), 3, 1, 2, 1, api.KnownOpen, api.OK},
		{jars(1, fill(1, 1, 1)), 1, 2, 1, 1, api.KnownYes, api.OK}, {jars(2, fill(1, 1, 1)), 1, 2, 1, 2, api.KnownNo, api.OK}, {jars(2, fill(1, 1, 3), fill(2, 2, 3)), 1, 2, 3, 1, api.KnownNo, api.OK}, {jars(1, append(rinses(10), fill(1, 1, 12))...), 1, 2, 12, 1, api.KnownYes, api.OK},
		{chapter(), 4, 1, 1, 1, 0, api.ErrNone}, {chapter(), 1, 4, 1, 1, 0, api.ErrNone}, {chapter(), 1, 4, 1, 3, 0, api.ErrNone}, {chapter(), 1, 1, 1, 3, 0, api.ErrArg}, {jars(1, rinses(12)...), 1, 1, 0, 1, 0, api.ErrFull}, {jars(1, append(rinses(11), fill(1, 1, 12))...), 1, 2, 12, 1, 0, api.ErrFull},
		{chapter(), 1, 1, 1, 1, 0, api.ErrAct}, {chapter(), 1, 3, 3, 1, 0, api.ErrAct}, {chapter(), 1, 3, 0, 1, 0, api.ErrAct}, {chapter(), 1, 3, -1, 1, 0, api.ErrAct}, {chapter(), 1, 3, low, 1, 0, api.ErrAct}, {chapter(), 1, 3, huge, 1, 0, api.ErrAct}, {chapter(), 2, 3, 3, 1, 0, api.ErrAct}, {chapter(taste(1, 1, 5, 1, 3, 3)), 1, 3, 0, 1, 0, api.ErrAct},
		{chapter(taste(1, 1, 5, 1, 3, 3)), 3, 1, 1, 1, 0, api.ErrBad}, {chapter(taste(1, 1, 5, 1, 3, 3)), 3, 1, 1, 2, api.KnownNo, api.OK},
	} {
		if k, e := mix.Safe(x.m, x.from, x.to, x.drops, x.fountain); k != x.k || e != x.e {
			t.Error(i, k, e)
		}
	}
}

// P4.6: the chapter's example, several fountains, and too many false tastes.
func TestWrong(t *testing.T) {
	stays, goes := taste(1, 2, 4, 1, 2, 2), taste(2, 3, 5, 1, 1, 2)
	never := func(number, fountain int) api.Taste { return taste(number, 1, 0, fountain, 1, 1) }
	for i, x := range []struct {
		m api.Mix
		l []int
		e api.Errno
	}{
		{chapter(stays, goes), ints(1), api.OK}, {chapter(), nil, api.OK}, {chapter(stays), nil, api.OK}, {chapter(goes), nil, api.OK}, {jars(4), nil, api.OK}, {api.Mix{Fountains: 1}, nil, api.OK}, {chapter(stays, goes, taste(7, 2, 5, 1, 2, 2)), ints(2), api.OK}, {chapter(stays, goes, taste(7, 3, 4, 1, 1, 2)), ints(1), api.OK},
		// Two fountains together would be more than there is: each one is regarded alone.
		{chapter(stays, taste(2, 2, 4, 2, 2, 2)), nil, api.OK},
		{chapter(never(1, 1)), ints(1), api.OK}, {chapter(never(1, 2), never(2, 1)), ints(1, 2), api.OK}, {chapter(never(3, 1), never(5, 2), never(9, 1)), ints(3, 5, 9), api.OK}, {chapter(never(3, 2), never(5, 1), never(9, 2), stays2()), ints(3, 5, 9), api.OK}, {chapter(never(3, 1), never(5, 2), never(9, 1), never(10, 2)), nil, api.ErrMany}, {chapter(never(3, 1), never(5, 1), never(9, 1), never(10, 1)), nil, api.ErrMany}, {chapter(never(3, 1), never(5, 1), never(9, 1)), ints(3, 5, 9), api.OK}, {chapter(never(3, 2), never(5, 2), never(9, 2), taste(11, 2, 4, 1, 0, 0), taste(12, 2, 4, 1, 1, 1)), nil, api.ErrMany},
		{chapter(never(3, 2), taste(11, 2, 4, 1, 0, 0), taste(12, 2, 4, 1, 1, 1)), ints(3, 11), api.OK}, {chapter(taste(1, 2, 4, 1, 0, 0), never(3, 2), taste(12, 2, 4, 1, 1, 1)), ints(1, 3), api.OK},
		{chapter(taste(5, 1, 1, 1, 0, 3), taste(6, 1, 1, 1, 0, 2), taste(8, 1, 1, 1, huge, huge)), ints(5, 6, 8), api.OK},
	} {
		if l, e := mix.Wrong(x.m); !slices.Equal(l, x.l) || e != x.e {
			t.Error(i, l, e)
		}
	}
}

// stays2 is a taste of the fountain 2 that can be true.
func stays2() api.Taste { return taste(77, 2, 4, 2, 1, 2) }
