package mix_test

import (
	"slices"
	"testing"

	"aguador/api"
	"aguador/mix"
)

// P4.7: a taste is put in its place.
func TestPut(t *testing.T) {
	for i, x := range []struct {
		m  api.Mix
		x  api.Taste
		at int
		e  api.Errno
	}{
		{chapter(), taste(1, 1, 5, 2, 0, huge), 0, api.OK}, {chapter(), taste(9999, 3, 0, 1, 7, 7), 0, api.OK}, {twos(3), taste(1, 1, 0, 1, 0, 0), 0, api.OK}, {twos(3), taste(3, 2, 5, 1, 0, 0), 1, api.OK}, {twos(7), taste(5, 1, 0, 1, 9, 9), 2, api.OK}, {twos(7), taste(15, 1, 0, 1, 9, 9), 7, api.OK}, {twos(3), taste(7, 3, 5, 2, huge, huge), 3, api.OK},
		{twos(8), taste(1, 1, 0, 1, 0, 0), 0, api.ErrFull}, {twos(8), api.Taste{}, 0, api.ErrFull}, {great(), taste(4, 9999, 0, 1, 0, 0), 0, api.ErrFull}, {twos(7), taste(4, 1, 0, 1, 0, 0), 0, api.ErrTaste}, {twos(7), taste(14, 1, 0, 1, 0, 0), 0, api.ErrTaste}, {twos(7), taste(2, 1, 0, 1, 0, 0), 0, api.ErrTaste}, {twos(2), twos(2).Tastes[1], 0, api.ErrTaste}, {api.Mix{Fountains: 1}, taste(1, 1, 0, 1, 0, 0), 0, api.ErrTaste}, {chapter(), api.Taste{}, 0, api.ErrTaste},
	} {
		checkPut(t, i, x.m, x.x, x.at, x.e)
	}
	for i, x := range badTastes() {
		checkPut(t, i, chapter(), x, 0, api.ErrTaste)
		checkPut(t, i, twos(7), x, 0, api.ErrTaste)
		checkPut(t, i, twos(8), x, 0, api.ErrFull)
	}
}

func checkPut(t *testing.T, i int, m api.Mix, x api.Taste, at int, e api.Errno) {
	t.Helper()
	want := api.Mix{}
	if e == api.OK {
		want = m
		want.Tastes = slices.Insert(slices.Clone(m.Tastes), at, x)
	}
	if y, f := mix.Put(m, x); !same(y, want) || f != e {
		t.Error(i, y, f)
	}
}

// P4.7: only Numbers of tastes, in increasing order, no one twice.
func TestStrike(t *testing.T) {
	all := twos(4).Tastes
	for i, x := range []struct {
		l    []int
		want []api.Taste
		e    api.Errno
	}{
		{nil, all, api.OK}, {ints(), all, api.OK}, {ints(2), all[1:], api.OK}, {ints(8), all[:3], api.OK}, {ints(4, 6), []api.Taste{all[0], all[3]}, api.OK}, {ints(2, 4, 6, 8), nil, api.OK},
		{ints(4, 2), nil, api.ErrTaste}, {ints(2, 2), nil, api.ErrTaste}, {ints(3), nil, api.ErrTaste}, {ints(0), nil, api.ErrTaste}, {ints(-2), nil, api.ErrTaste}, {ints(2, 10), nil, api.ErrTaste}, {ints(2, 4, 6, 8, 10), nil, api.ErrTaste}, {ints(low), nil, api.ErrTaste}, {ints(2, huge), nil, api.ErrTaste},
	} {
		want := api.Mix{}
		if x.e == api.OK {
			want = chapter(x.want...)
		}
		if y, e := mix.Strike(twos(4), x.l); !same(y, want) || e != x.e {
			t.Error(i, y, e)
		}
	}
	if y, e := mix.Strike(api.Mix{Fountains: 1}, nil); !same(y, api.Mix{Fountains: 1}) || e != api.OK {
		t.Error(y, e)
	}
}

// P4.7: acts up to the limit, and as the last one.
func TestDo(t *testing.T) {
	for i, x := range []struct {
		m api.Mix
		x api.Act
		e api.Errno
	}{
		{jars(1), rinse(1), api.OK}, {jars(1), fill(1, 4, 12), api.OK}, {jars(1, rinses(11)...), fill(1, 4, 12), api.OK}, {jars(1, rinses(12)...), rinse(1), api.ErrFull}, {jars(1, rinses(12)...), api.Act{}, api.ErrFull}, {great(), rinse(9999), api.ErrFull}, {jars(1), api.Act{}, api.ErrAct}, {jars(1), pour(1, 2, 1), api.ErrAct}, {api.Mix{Fountains: 1}, rinse(1), api.ErrAct},
		// Fountains may have no truth.
		{chapter(taste(1, 1, 5, 1, 3, 3)), lose(1, 1), api.OK},
	} {
		want := api.Mix{}
		if x.e == api.OK {
			want = x.m
			want.Acts = append(slices.Clone(x.m.Acts), x.x)
		}
		if y, e := mix.Do(x.m, x.x); !same(y, want) || e != x.e {
			t.Error(i, y, e)
		}
	}
}

// P4.7: no act to undo, and tastes after all acts.
func TestUndo(t *testing.T) {
	for i, x := range []struct {
		m api.Mix
		e api.Errno
	}{
		{chapter(), api.OK}, {chapter(taste(1, 1, 4, 1, 0, 9)), api.OK}, {chapter(taste(1, 1, 4, 1, 7, 9), taste(2, 3, 0, 2, 1, 1)), api.OK}, {jars(1, rinse(1)), api.OK}, {jars(1, rinses(12)...), api.OK},
		{jars(1), api.ErrNone}, {api.Mix{Fountains: 1}, api.ErrNone}, {tasted(jars(1), taste(1, 1, 0, 1, 0, 0)), api.ErrNone}, {chapter(taste(1, 1, 5, 1, 0, 9)), api.ErrTaste}, {chapter(taste(1, 1, 5, 2, 7, 9), taste(2, 1, 4, 1, 0, 9)), api.ErrTaste}, {chapter(taste(1, 1, 0, 1, 0, 0), taste(2, 3, 5, 2, 0, 9)), api.ErrTaste}, {great(), api.ErrTaste},
	} {
		want := api.Mix{}
		if x.e == api.OK {
			want = x.m
			want.Acts = x.m.Acts[:len(x.m.Acts)-1]
		}
		if y, e := mix.Undo(x.m); !same(y, want) || e != x.e {
			t.Error(i, y, e)
		}
	}
}

// roomy is the chapter's mixed water with memory behind the ends of its lists, which must stay as it is.
func roomy() api.Mix {
	m := chapter(taste(1, 2, 4, 1, 1, 2), taste(4, 3, 4, 2, 0, 9))
	m.Vessels = append(make([]api.Vessel, 0, 6), m.Vessels...)
	m.Acts = append(make([]api.Act, 0, 14), m.Acts...)
	m.Tastes = append(make([]api.Taste, 0, 10), m.Tastes...)
	return m
}

// whole shows the memory of the lists up to its end.
func whole(m api.Mix) api.Mix {
	m.Vessels = m.Vessels[:cap(m.Vessels)]
	m.Acts = m.Acts[:cap(m.Acts)]
	m.Tastes = m.Tastes[:cap(m.Tastes)]
	return m
}

// spoil writes over all memory of what was told.
func (a told) spoil() {
	m := whole(a.m)
	for i := range a.l[:cap(a.l)] {
		a.l[:cap(a.l)][i] = 77
	}
	for i := range m.Vessels {
		m.Vessels[i].Id = 77
	}
	for i := range m.Acts {
		m.Acts[i].Drops = 77
	}
	for i := range m.Tastes {
		m.Tastes[i].Number = 77
	}
}

// full asks for something that each call answers of the mixed water that is roomy.
func full(numbers []int) given {
	return given{vessel: 3, after: 5, fountain: 1, other: 2, moved: 4, to: 1, drops: 1, numbers: numbers, act: fill(2, 1, 2), taste: taste(3, 1, 5, 1, 0, 9)}
}

// R3: no argument is written to, nothing is remembered, and no result shares memory with an argument or with another one.
func TestValues(t *testing.T) {
	m, numbers := roomy(), append(make([]int, 0, 4), 1, 4)
	unchanged := func() bool {
		return same(whole(m), whole(roomy())) && slices.Equal(numbers[:4], ints(1, 4, 0, 0))
	}
	fresh := calls(full(ints(1, 4)))
	for i, c := range calls(full(numbers)) {
		a := c.run(m)
		b := c.run(m)
		want := fresh[i].run(roomy())
		if !a.equal(want) || !b.equal(want) || a.e != api.OK {
			t.Error(c.name, a, b, want)
		}
		if !unchanged() {
			t.Error(c.name, "writes", whole(m), numbers[:4])
		}
		a.spoil()
		if !unchanged() || !b.equal(want) {
			t.Error(c.name, "shares memory", b)
		}
		if z := c.run(m); !z.equal(want) {
			t.Error(c.name, "remembers", z)
		}
	}
}

// R4: a nil list and an empty one are the same.
func TestNilAndEmpty(t *testing.T) {
	with := calls(given{vessel: 1, to: 2, fountain: 1, other: 2, moved: 1, act: rinse(1), taste: taste(1, 1, 0, 1, 0, 0)})
	without := calls(given{vessel: 1, to: 2, fountain: 1, other: 2, moved: 1, act: rinse(1), taste: taste(1, 1, 0, 1, 0, 0), numbers: ints()})
	for _, m := range []api.Mix{{}, {Fountains: 2}, {Fountains: 2, Vessels: jars(2).Vessels}} {
		empty := m
		empty.Acts, empty.Tastes = []api.Act{}, []api.Taste{}
		if m.Vessels == nil {
			empty.Vessels = []api.Vessel{}
		}
		for i := range with {
			if a, b := with[i].run(m), without[i].run(empty); !a.equal(b) {
				t.Error(with[i].name, a, b)
			}
		}
	}
}

// R5, R6, R7: whatever the arguments are, each call ends, and does not panic.
func TestAnyValue(t *testing.T) {
	r := &dice{state: 3}
	odd := ints(low, low+1, -1, 0, 1, 2, 3, 4, 5, 6, 8, 9, 12, 13, 9999, 10000, huge-1, huge)
	near := func() int {
		if r.upTo(0, 9) == 0 {
			return r.one(odd)
		}
		return r.upTo(1, 3)
	}
	answered := 0
	for range 6000 {
		m := chapter(taste(2, 2, 4, 1, 1, 2), taste(5, 3, 4, 2, 0, 9))
		for _, p := range []*int{&m.Fountains, &m.Vessels[0].Id, &m.Vessels[1].Size, &m.Acts[0].Kind, &m.Acts[1].From, &m.Acts[2].To, &m.Acts[3].Drops, &m.Acts[4].To, &m.Tastes[0].Number, &m.Tastes[0].Vessel, &m.Tastes[1].After, &m.Tastes[1].Fountain, &m.Tastes[0].Drops.Lo, &m.Tastes[1].Drops.Hi} {
			if r.upTo(0, 30) == 0 {
				*p = r.one(odd)
			}
		}
		g := given{
			vessel: near(), after: near(), fountain: near(), other: near(), moved: near(), to: near(), drops: near(), numbers: ints(near(), near()),
			act:   api.Act{Kind: near(), From: near(), To: near(), Drops: near()},
			taste: taste(near(), near(), near(), near(), near(), near()),
		}
		for _, c := range calls(g) {
			z := c.run(m)
			if (z.e == api.ErrMix) != (mix.Check(m) == api.ErrMix) || z.e != api.OK && !z.isZero() {
				t.Fatal(c.name, m, g, z)
			}
			if !same(z.m, api.Mix{}) && mix.Check(z.m) != api.OK {
				t.Fatal(c.name, m, g, z)
			}
			if z.e == api.OK && c.name != "Check" {
				answered++
			}
		}
	}
	if answered < 5000 {
		t.Error("too few calls answer:", answered)
	}
}

// R7: lists however long are looked at, and each call ends.
func TestLongLists(t *testing.T) {
	g := full(slices.Repeat(ints(1), 1<<20))
	expect(t, roomy(), g, api.ErrTaste, "Strike")
	long := []api.Mix{chapter(), chapter(), chapter()}
	long[0].Vessels = slices.Repeat([]api.Vessel{{Id: 1, Size: 1}}, 1<<20)
	long[1].Acts = rinses(1 << 20)
	long[2].Tastes = slices.Repeat([]api.Taste{taste(1, 1, 0, 1, 0, 0)}, 1<<20)
	for _, m := range long {
		for _, c := range calls(g) {
			if z := c.run(m); z.e != api.ErrMix || !z.isZero() {
				t.Error(c.name, z.e)
			}
		}
	}
}

// R7: mixed water of which the most can be open is told of, too.
func TestMostOpen(t *testing.T) {
	m := jars(2, fill(1, 1, 11), fill(2, 2, 11), pour(2, 3, 5), pour(1, 3, 5), lose(3, 4), fill(2, 1, 6), pour(1, 3, 6), pour(3, 2, 6), pour(2, 4, 6), fill(1, 4, 6), lose(4, 6), pour(2, 4, 1))
	for i := range api.MaxTastes {
		m.Tastes = append(m.Tastes, taste(i+1, 1+i%4, 12, 1, 13, 14))
	}
	if l, e := mix.Wrong(m); len(l) != 0 || e != api.ErrMany {
		t.Error(l, e)
	}
	m.Tastes = nil
	if x, e := mix.Gone(m, 1); x != span(0, 10) || e != api.OK {
		t.Error(x, e)
	}
}
