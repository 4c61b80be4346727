package warden_test

import (
	"fmt"
	"slices"
	"strings"
	"testing"

	"aguador/api"
	"aguador/fire"
	"aguador/floor"
	"aguador/queue"
	"aguador/warden"
)

// checkAnswers does lines, one after the other, and checks what is said, deed by deed and all at once.
func checkAnswers(t *testing.T, i any, p api.Post, lines, want []string) api.Post {
	t.Helper()
	l := heard(t, lines...)
	now := p
	for k, d := range l {
		next, s, e := warden.Do(now, d)
		if s != want[k] || e != api.OK {
			t.Error(i, lines[k], s, e, want[k])
		}
		now = next
	}
	q, said, e := warden.Run(p, l)
	if !slices.Equal(said, want) || !same(q, now) || e != api.OK {
		t.Error(i, "Run", said, e)
	}
	return now
}

// The chapter's examples.
func TestExamples(t *testing.T) {
	if d, e := warden.Hear("pour 1 2 3"); fmt.Sprint(d) != "{5 [1 2 3]}" || e != api.OK {
		t.Error("Hear", d, e)
	}
	if s, e := warden.Speak(deed(5, 1, 2, 3)); s != "pour 1 2 3" || e != api.OK {
		t.Error("Speak", s, e)
	}
	for _, s := range []string{"pour 1 2", "pour 01 2 3", "pour  1 2 3"} {
		expect(t, chapter(), given{s: s}, api.ErrSpeak, "Hear")
	}
	if is, n, e := warden.Holds(chapter(), order(1, 6, 4, 39)); !is || n != 40 || e != api.OK {
		t.Error("Holds", is, n, e)
	}
	if is, n, e := warden.Holds(chapter(), order(1, 6, 4, 40)); is || n != 0 || e != api.OK {
		t.Error("Holds", is, n, e)
	}
	if l, e := warden.Warns(chapter()); len(l) != 0 || e != api.OK {
		t.Error("Warns", l, e)
	}
	if l, e := warden.Touch(deed(api.VerbClose, 1)); !slices.Equal(l, ints(3, 6, 10)) || e != api.OK {
		t.Error("Touch", l, e)
	}
	for i, x := range [][2]string{
		{"guard 1 1; pour 3 1 1", "ok; no 122"}, {"guard 1 1; fill 1 1 4", "ok; ok"},
		{"stop 10; join 9 3 1; join 8 3 1", "ok warn 3 1; ok; ok calm 3"},
		{"pay 4 1 40; ask 6 4 0", "ok; not"}, {"ask 5 1 0; ask 9 0 0", "so 2; no 124"},
	} {
		checkAnswers(t, i, chapter(), strings.Split(x[0], "; "), strings.Split(x[1], "; "))
	}
	s, e := warden.Write(chapter())
	if rows := strings.Split(s, "\n"); len(rows) != 12 || rows[9] != "guards 0" || rows[10] != "orders 1 3 8 3 5" || rows[11] != "" || e != api.OK {
		t.Errorf("Write %q %v", s, e)
	}
	if n, e := warden.First(chapter(), deeds(deed(18, 10), deed(18, 10))); n != 1 || e != api.OK {
		t.Error("First", n, e)
	}
	// The example of the document: a guarded vessel, and water that may not get there.
	checkAnswers(t, "document", chapter(), []string{"rinse 1", "guard 1 1", "rinse 2", "guard 2 2", "fill 2 1 1"}, []string{"ok", "ok", "ok", "ok", "no 122"})
}

// P12.1: what is valid, with each part, and up to the limits of guards and orders.
func TestCheck(t *testing.T) {
	for i, f := range goodChanges() {
		for _, p := range []api.Post{chapter(f), rich(f)} {
			if e := warden.Check(p); e != api.OK {
				t.Error(i, e, p)
			}
		}
	}
	for i, f := range badChanges() {
		checkBad(t, i, chapter(f))
		checkBad(t, i, rich(f))
	}
	checkBad(t, "nothing", api.Post{})
}

func noOrders(p *api.Post) { p.Orders = nil }

func someOrders(l ...api.Order) func(p *api.Post) { return func(p *api.Post) { p.Orders = l } }

// someGuards guards vessels of which 1 holds water of the fountain 1 alone, 2 of both, and 4 none; 3 may hold either. There is a vessel 9999, too, which is empty.
func someGuards(l ...api.Guard) func(p *api.Post) {
	return func(p *api.Post) {
		p.Mix.Vessels = append(p.Mix.Vessels, api.Vessel{Id: 9999, Size: 1})
		p.Guards = l
	}
}

// orderRow is so many orders, with the Numbers from 1 on.
func orderRow(many int) (l []api.Order) {
	for n := range many {
		l = append(l, order(n+1, 1+n%8, n, 0))
	}
	return l
}

func goodChanges() []func(p *api.Post) {
	l := []func(p *api.Post){
		func(*api.Post) {}, noOrders, someOrders(orderRow(8)...), someOrders(order(1, 1, 0, 0), order(9999, 8, 1000000, 1000000)), someOrders(order(4, 3, 9, 9), order(5, 3, 9, 9)),
		someGuards(), someGuards(guard(1, 1)), someGuards(guard(9999, 1)), someGuards(guard(9999, 2)), someGuards(guard(1, 1), guard(9999, 2)), someGuards(guard(1, 1), guard(9999, 1)),
		func(p *api.Post) { p.Rates = api.Rates{Skin: 1000, Half: 1000, Barrel: 1000, Paid: 1000} },
		func(p *api.Post) { p.Rates = api.Rates{} },
		func(p *api.Post) {
			for _, x := range []*api.Town{&p.Town, &p.Rounds.Town, &p.Bell.Town} {
				x.Links = nil
			}
			p.Bell.Town.Links = []api.Link{}
		},
	}
	for kind := range 8 {
		l = append(l, someOrders(order(1, kind+1, 0, 1000000)), someOrders(order(1, kind+1, 1000000, 0)))
	}
	return l
}

func badChanges() []func(p *api.Post) {
	l := []func(p *api.Post){
		func(p *api.Post) { p.Town.Places = nil },
		func(p *api.Post) { p.Town.Places[0] = 9 },
		func(p *api.Post) { p.Town, p.Rounds.Town, p.Bell.Town = api.Town{}, api.Town{}, api.Town{} },
		func(p *api.Post) { p.Town.Links[0].Steps = 1 },
		func(p *api.Post) { p.Town.Links = p.Town.Links[:2] },
		func(p *api.Post) { p.Town.Places = append(p.Town.Places, 5) },
		func(p *api.Post) { p.Rounds.Town.Links[1].Paces = 7 },
		func(p *api.Post) { p.Rounds.Town.Links = p.Rounds.Town.Links[1:] },
		func(p *api.Post) { p.Rounds.Town.Links[0].From, p.Rounds.Town.Links[0].To = 2, 1 },
		func(p *api.Post) { p.Rounds.Town.Places = append(p.Rounds.Town.Places, 5) },
		func(p *api.Post) { p.Bell.Town.Links[2].Id = 4 },
		func(p *api.Post) { p.Bell.Town.Links = nil },
		func(p *api.Post) { p.Bell.Town.Places = append(p.Bell.Town.Places, 5) },
		func(p *api.Post) { p.Dawn.Fill.Lo = 0 }, func(p *api.Post) { p.Dawn.Comers[0].Guild = 4 },
		func(p *api.Post) { p.Mix.Fountains = 0 }, func(p *api.Post) { p.Mix.Acts[4].Drops = 4 },
		func(p *api.Post) { p.Rounds.Days = 0 }, func(p *api.Post) { p.Rounds.From = 10 },
		func(p *api.Post) { p.Tally.Id = 0 }, func(p *api.Post) { p.Tally.Foil = slices.Repeat(ints(1), 13) }, func(p *api.Post) { p.Tally.Stock = ints(5) },
		func(p *api.Post) { p.Floors.Ids[0] = 0 }, func(p *api.Post) { p.Floors.Bills[1].Payer = 5 },
		func(p *api.Post) { p.Supply = api.Supply{} }, func(p *api.Post) { p.Supply.Founts[0].Spring.Weeks = 11 },
		func(p *api.Post) { p.Bell.Place = 5 }, func(p *api.Post) { p.Bell.Wells[0].Every = 16 },
		someOrders(orderRow(9)...), someOrders(order(2, 1, 0, 0), order(1, 1, 0, 0)), someOrders(order(2, 1, 0, 0), order(2, 1, 0, 0)), someOrders(order(2, 1, 0, 0), order(3, 1, 0, 0), order(3, 2, 0, 0)), someOrders(order(1, 5, 0, 0), order(2, 9, 0, 0)), someOrders(slices.Repeat(orders(order(1, 1, 0, 0)), 1<<16)...), someOrders(order(1, 3, 0, 0), order(10000, 3, 0, 0)),
		someGuards(guard(2, 1)), someGuards(guard(2, 2)), someGuards(guard(3, 1)), someGuards(guard(3, 2)), someGuards(guard(1, 2)), someGuards(guard(1, 0)), someGuards(guard(1, 3)), someGuards(guard(9999, 3)), someGuards(guard(9999, 0)), someGuards(guard(9999, huge)), someGuards(guard(9999, low)), someGuards(guard(1, 1), guard(1, 1)), someGuards(guard(9999, 1), guard(9999, 2)), someGuards(guard(9999, 2), guard(1, 1)), someGuards(guard(1, 1), guard(2, 2), guard(9999, 1)), someGuards(guard(1, 1), guard(9999, 1), guard(10000, 1)), someGuards(slices.Repeat(guards(guard(1, 1)), 1<<16)...),
		// A taste that cannot be true: then nothing is known of the fountain 1, of which the vessel holds all.
		func(p *api.Post) {
			p.Guards = guards(guard(1, 1))
			p.Mix.Tastes = []api.Taste{{Number: 1, Vessel: 1, After: 5, Fountain: 1, Drops: span(9, 9)}}
		},
	}
	for _, n := range ints(0, 4, -1, 10000, huge, low) {
		l = append(l, someGuards(guard(n, 1)))
	}
	for _, n := range ints(0, -1, 10000, huge, low) {
		l = append(l, someOrders(order(n, 5, 0, 0)))
	}
	for _, n := range ints(0, 9, -1, huge, low) {
		l = append(l, someOrders(order(1, n, 0, 0)))
	}
	for _, n := range ints(-1, 1000001, huge, low) {
		l = append(l, someOrders(order(1, 5, n, 0)), someOrders(order(1, 5, 0, n)))
	}
	for _, n := range ints(-1, 1001, huge, low) {
		l = append(l,
			func(p *api.Post) { p.Rates.Skin = n }, func(p *api.Post) { p.Rates.Half = n },
			func(p *api.Post) { p.Rates.Barrel = n }, func(p *api.Post) { p.Rates.Paid = n })
	}
	return l
}

// allDeeds is a valid deed of each verb, with the least, and with the most numbers, each with numbers that differ.
func allDeeds() (l []api.Deed) {
	for i, most := range ints(6, 4, 4, 3, 3, 2, 1, 6, 5, 8, 1, 1, 15, 3, 4, 3, 3, 1, 1, 2, 4, 1, 3) {
		least := most
		switch i + 1 {
		case api.VerbHire:
			least = 4
		case api.VerbBill:
			least = 5
		}
		args := ints(4, 3, 1, 2, 5, 6, 7, 8, 9, 10, 11, 12, 13, 14, 0)
		l = append(l, deed(i+1, args[:least]...), deed(i+1, args[:most]...))
	}
	return l
}

// wrongDeeds is deeds that are not valid.
func wrongDeeds() []api.Deed {
	l := deeds(api.Deed{}, deed(0, 1), deed(-1, 1), deed(24, 1), deed(huge, 1), deed(low, 1), deed(api.VerbHire, 1, 2, 2, 3), deed(api.VerbHire, 1, 2, -1, 3), deed(api.VerbHire, 1, 2, 999999999, 3, 4), deed(api.VerbJoin, 1, 2, 2), deed(api.VerbJoin, 1, 2, huge), deed(api.VerbBill, 1, 2, 3, 4), deed(api.VerbBill, 1, 2, 3, 4, 5, 6), deed(api.VerbBill, slices.Repeat(ints(1), 14)...), deed(api.VerbBill, slices.Repeat(ints(1), 17)...), deed(api.VerbStop, slices.Repeat(ints(1), 1<<16)...))
	for i, d := range allDeeds() {
		if i%2 == 0 {
			l = append(l, deed(d.Verb, d.Args[:len(d.Args)-1]...), deed(d.Verb))
			if d.Verb == api.VerbBill {
				l = append(l, deed(d.Verb, d.Args[:3]...))
			}
		} else {
			l = append(l, deed(d.Verb, append(slices.Clone(d.Args), 1)...), deed(d.Verb, append(slices.Clone(d.Args), 1, 2)...))
		}
		for at := range d.Args {
			for _, n := range ints(-1, 1000000000, huge, low) {
				args := slices.Clone(d.Args)
				args[at] = n
				l = append(l, deed(d.Verb, args...))
			}
		}
	}
	return l
}

// P12.1, R1: errors in their order: of the post, of too many deeds, of deeds.
func TestErrors(t *testing.T) {
	good, bad := deed(api.VerbAsk, 5, 0, 0), deed(api.VerbAsk, 5, 0)
	for i, x := range []struct {
		l []api.Deed
		e api.Errno
	}{
		{nil, api.OK}, {deeds(good), api.OK}, {slices.Repeat(deeds(good), 40), api.OK}, {slices.Repeat(deeds(good), 41), api.ErrMany}, {slices.Repeat(deeds(bad), 41), api.ErrMany}, {make([]api.Deed, 1<<16), api.ErrMany},
		{deeds(bad), api.ErrSpeak}, {deeds(good, bad), api.ErrSpeak}, {deeds(bad, good), api.ErrSpeak}, {append(slices.Repeat(deeds(good), 39), bad), api.ErrSpeak}, {deeds(deed(api.VerbStop, 99), bad), api.ErrSpeak},
	} {
		for _, p := range []api.Post{chapter(), rich()} {
			expect(t, p, given{l: x.l}, x.e, "Run", "First")
		}
		if t.Failed() {
			t.Fatal(i)
		}
	}
	for _, d := range wrongDeeds() {
		for _, p := range []api.Post{chapter(), rich()} {
			expect(t, p, given{d: d, l: deeds(d)}, api.ErrSpeak, "Speak", "Touch", "Why", "Do", "Run", "First")
		}
	}
	for _, d := range allDeeds() {
		for _, p := range []api.Post{chapter(), rich()} {
			expect(t, p, given{d: d, l: deeds(d)}, api.OK, "Speak", "Touch", "Why", "Do", "Run", "First")
		}
	}
	for _, p := range []api.Post{chapter(), rich()} {
		for _, number := range ints(0, -1, 10000, huge, low) {
			expect(t, p, given{x: order(number, 5, 0, 0)}, api.OK, "Holds")
		}
		for _, n := range ints(0, 9, -1, huge, low) {
			expect(t, p, given{x: order(1, n, 0, 0)}, api.ErrStand, "Holds")
		}
		for _, n := range ints(-1, 1000001, huge, low) {
			expect(t, p, given{x: order(1, 1, n, 0)}, api.ErrStand, "Holds")
			expect(t, p, given{x: order(1, 1, 0, n)}, api.ErrStand, "Holds")
		}
		expect(t, p, given{x: api.Order{}}, api.ErrStand, "Holds")
	}
}

// P12.2, P12.14: the line of each verb, with the fewest and with the most numbers; and lines that tell nothing.
func TestLines(t *testing.T) {
	for i, s := range strings.Split("read 4 3 1 2 5 6; note 4 3 1 2; come 4 3 1 2; fill 4 3 1; pour 4 3 1; lose 4 3; rinse 4; taste 4 3 1 2 5 6; see 4 3 1 2 5; hire 4 3 1 2; hire 4 3 1 2 5 6 7 8; dismiss 4; notch 4; bill 4 3 1 2 5; bill 4 3 1 2 5 6 7 8 9 10 11 12 13 14 0; pay 4 3 1; need 4 3 1 2; claim 4 3 1; join 4 3 1; stop 4; close 4; guard 4 3; order 4 3 1 2; drop 4; ask 4 3 1", "; ") {
		all := slices.CompactFunc(allDeeds(), func(a, b api.Deed) bool { return fmt.Sprint(a) == fmt.Sprint(b) })
		if len(all) != 25 {
			t.Fatal("not as said", len(all))
		}
		d, e := warden.Hear(s)
		if fmt.Sprint(d) != fmt.Sprint(all[i]) || e != api.OK {
			t.Error("Hear", s, d, e)
		}
		if again, e := warden.Speak(all[i]); again != s || e != api.OK {
			t.Error("Speak", s, again, e)
		}
	}
	for _, s := range []string{"stop 0", "stop 1", "stop 9", "stop 10", "stop 100", "stop 109", "stop 999999999", "stop 900000000", "stop 123456789", "hire 0 0 0 0", "join 0 0 0", "bill 0 0 0 0 0"} {
		d, e := warden.Hear(s)
		if again, f := warden.Speak(d); again != s || e != api.OK || f != api.OK {
			t.Error(s, d, e, again, f)
		}
	}
	for _, s := range []string{"", " ", "  ", "\n", "stop", "stop ", "stop  1", " stop 1", "stop 1 ", "stop\t1", "stop 1\n", "stop 1\r", "\x00stop 1", "stop 1\x00", "stop  ", "1", " 1", "0 1", "18 10", "stop x", "stop 1x", "stop x1", "stop -1", "stop +1", "stop 1.", "stop 1.0", "stop 0x1", "stop 1e1", "stop 1_0", "stop 00", "stop 01", "stop 010", "stop 1000000000", "stop 9999999999", "stop 18446744073709551617", "stop 9223372036854775808", "stop 0000000000001", "stop \u0663", "stop \xff", "stop 1\xff", "Stop 1", "STOP 1", "stops 1", "sto 1", "stop1", "stop,1", "stop\u00a01", "halt 1", "stop " + strings.Repeat("1", 1<<20), strings.Repeat("stop ", 1<<16), "stop" + strings.Repeat(" 1", 1<<16), strings.Repeat("stop 1\n", 2)} {
		expect(t, api.Post{}, given{s: s}, api.ErrSpeak, "Hear")
	}
}

// P12.4: what each verb touches.
func TestTouch(t *testing.T) {
	want := map[int]string{1: "[9]", 2: "[2]", 3: "[2]", 4: "[4]", 5: "[4]", 6: "[4]", 7: "[4]", 8: "[4]", 9: "[6]", 10: "[6]", 11: "[6]", 12: "[7]", 13: "[8]", 14: "[8]", 15: "[9]", 16: "[10]", 17: "[10]", 18: "[10]", 19: "[3 6 10]", 20: "[4 12]", 21: "[12]", 22: "[12]", 23: "[]"}
	for _, d := range allDeeds() {
		if l, e := warden.Touch(d); fmt.Sprint(l) != want[d.Verb] || e != api.OK {
			t.Error(d, l, e)
		}
	}
}

// P12.3: when each kind of order holds, and its value, at the ends of what it regards.
func TestHolds(t *testing.T) {
	for i, x := range []struct {
		p          api.Post
		kind, a, b int
		is         bool
		value      int
	}{
		// The fountain 1 surely gives 26 in the week 0, 18 in the week 1, 10 in 2 and 2 in 3.
		{rich(), 1, 1, 2, false, 0}, {rich(), 1, 1, 3, true, 3}, {rich(), 1, 1, 10, true, 3}, {rich(), 1, 1, 11, true, 2}, {rich(), 1, 1, 26, true, 1}, {rich(), 1, 1, 27, true, 0}, {rich(), 1, 1, 1000000, true, 0}, {rich(), 1, 2, 5, true, 3}, {rich(), 1, 2, 4, true, 4}, {rich(), 1, 0, 27, false, 0}, {rich(), 1, 3, 27, false, 0}, {rich(), 1, 1, 0, false, 0},
		// Of the comers 4 ends from 10 to 15.
		{chapter(), 2, 4, 15, false, 0}, {chapter(), 2, 4, 14, true, 15}, {chapter(), 2, 4, 9, true, 15}, {chapter(), 2, 4, 0, true, 15}, {chapter(), 2, 2, 7, true, 8}, {chapter(), 2, 2, 8, false, 0}, {chapter(), 2, 4, 1000000, false, 0}, {chapter(), 2, 5, 0, false, 0}, {chapter(), 2, 0, 0, false, 0},
		{chapter(func(p *api.Post) { p.Dawn.Notes = []api.Begun{{Number: 1, Comer: 1, At: span(9, 9)}} }), 2, 4, 0, false, 0},
		// Two drops in 3 may be of either fountain; 1 holds two of 1, and 2 two of both.
		{chapter(), 3, 1, 1, false, 0}, {chapter(), 3, 1, 2, true, 2}, {chapter(), 3, 3, 1, true, 2}, {chapter(), 3, 3, 2, true, 2}, {chapter(), 3, 2, 1, true, 2}, {chapter(), 3, 3, 0, false, 0}, {chapter(), 3, 3, 3, false, 0}, {chapter(), 3, 4, 1, false, 0}, {chapter(), 3, 0, 1, false, 0},
		{chapter(func(p *api.Post) { p.Mix.Acts = nil }), 3, 1, 2, false, 0}, {chapter(func(p *api.Post) { p.Mix.Acts = p.Mix.Acts[:2] }), 3, 2, 1, true, 3}, {chapter(func(p *api.Post) {
			p.Mix.Tastes = []api.Taste{{Number: 1, Vessel: 1, After: 5, Fountain: 1, Drops: span(3, 3)}}
		}), 3, 1, 1, false, 0},
		// With what is brought neither home runs dry; without it each one may on the day 2, ahead of the days of the rounds, be it one that pays or not.
		{rich(), 4, 10, 0, false, 0}, {rich(func(p *api.Post) { p.Rounds.Homes[0].Jar.Brings = nil }), 4, 10, 0, true, 2}, {rich(func(p *api.Post) { p.Rounds.Homes[1].Jar.Brings = nil }), 4, 20, 1000000, true, 2}, {rich(func(p *api.Post) { p.Rounds.Homes[0].Jar.Brings = nil }), 4, 11, 0, false, 0}, {chapter(), 4, 10, 0, false, 0},
		// Two notches are false.
		{chapter(), 5, 0, 0, true, 2}, {chapter(), 5, 1, 1000000, true, 2}, {chapter(), 5, 2, 0, false, 0}, {chapter(), 5, 3, 0, false, 0}, {chapter(), 5, 1000000, 0, false, 0},
		// The floors are owed 66, 27, -53 and -40.
		{chapter(), 6, 4, 39, true, 40}, {chapter(), 6, 4, 40, false, 0}, {chapter(), 6, 4, 0, true, 40}, {chapter(), 6, 3, 52, true, 53}, {chapter(), 6, 3, 53, false, 0}, {chapter(), 6, 1, 0, false, 0}, {chapter(), 6, 2, 0, false, 0}, {chapter(), 6, 0, 0, false, 0}, {chapter(), 6, 5, 0, false, 0}, {chapter(func(p *api.Post) { p.Floors.Bills = nil }), 6, 1, 0, false, 0},
		{chapter(func(p *api.Post) { p.Floors = api.Floors{} }), 6, 1, 0, false, 0},
		// There is enough without streets; a street that needs 3 to 5 of 0 to 9 may not have it; one that needs 10 has not.
		{chapter(), 7, 0, 0, false, 0}, {chapter(need(3, 5)), 7, 0, 1000000, true, 1}, {chapter(need(10, 12)), 7, 0, 0, true, 0}, {chapter(need(0, 0)), 7, 0, 0, false, 0}, {chapter(need(3, 5)), 7, 1, 0, false, 0}, {chapter(need(3, 5)), 7, 1000000, 0, false, 0},
		// By 2 none is there, by 3 one, by 4 two, by 5 three, and by 7 all four.
		{chapter(), 8, 3, 5, false, 0}, {chapter(), 8, 4, 5, true, 3}, {chapter(), 8, 3, 4, true, 2}, {chapter(), 8, 1, 2, true, 0}, {chapter(), 8, 1, 3, false, 0}, {chapter(), 8, 0, 0, false, 0}, {chapter(), 8, 4, 1000000, false, 0}, {chapter(), 8, 5, 1000000, true, 4}, {chapter(), 8, 1000000, 7, true, 4},
	} {
		for _, number := range ints(0, 3, -1, huge, low) {
			if is, n, e := warden.Holds(x.p, order(number, x.kind, x.a, x.b)); is != x.is || n != x.value || e != api.OK {
				t.Error(i, is, n, e)
			}
		}
		want := "not"
		if x.is {
			want = fmt.Sprint("so ", x.value)
		}
		checkAnswers(t, i, x.p, []string{fmt.Sprintf("ask %d %d %d", x.kind, x.a, x.b)}, []string{want})
		x.p.Orders = orders(order(1, 5, 99, 0), order(7, x.kind, x.a, x.b), order(8, 8, 9, 9))
		if l, e := warden.Warns(x.p); slices.Contains(l, 7) != x.is || l[len(l)-1] != 8 || len(l) > 2 || e != api.OK {
			t.Error(i, l, e)
		}
	}
}

// need has a street that needs so much of the fountain 1.
func need(lo, hi int) func(p *api.Post) {
	return func(p *api.Post) {
		p.Supply.Streets = []api.Street{{Id: 7, Need: span(lo, hi), Draws: ints(1)}}
	}
}

// P12.5: what each verb does is done by its layer, with each number in its place.
func TestDeeds(t *testing.T) {
	for i, x := range []struct {
		line   string
		change func(p *api.Post)
	}{
		{"read 2 9 1 3 4 5", func(p *api.Post) {
			s := &p.Supply.Founts[1].Spring
			s.Readings = append(s.Readings, api.Reading{Number: 9, Week: 1, Bucket: 3, Songs: span(4, 5)})
		}},
		{"note 9 1 3 4", func(p *api.Post) {
			p.Dawn.Notes = append(p.Dawn.Notes, api.Begun{Number: 9, Comer: 1, At: span(3, 4)})
		}},
		{"come 9 2 5 3", func(p *api.Post) {
			p.Dawn.Comers = append(p.Dawn.Comers, api.Comer{Id: 9, Guild: 2, Come: 5, Skins: 3})
		}},
		{"fill 1 2 3", act(api.Act{Kind: api.ActFill, From: 1, To: 2, Drops: 3})}, {"pour 3 2 1", act(api.Act{Kind: api.ActPour, From: 3, To: 2, Drops: 1})}, {"lose 3 2", act(api.Act{Kind: api.ActLose, From: 3, Drops: 2})}, {"rinse 2", act(api.Act{Kind: api.ActRinse, From: 2})},
		{"taste 9 3 5 2 1 4", func(p *api.Post) {
			p.Mix.Tastes = append(p.Mix.Tastes, api.Taste{Number: 9, Vessel: 3, After: 5, Fountain: 2, Drops: span(1, 4)})
		}},
		{"see 10 9 2 3 4", func(p *api.Post) {
			j := &p.Rounds.Homes[0].Jar
			j.Sights = append(j.Sights, api.Sight{Id: 9, Day: 2, Pints: span(3, 4)})
		}},
		{"hire 9 4 1 2 10 20", func(p *api.Post) {
			p.Rounds.Carriers = append(p.Rounds.Carriers, api.Carrier{Id: 9, Base: 4, Donkey: true, Skins: 2, Homes: ints(10, 20)})
		}},
		{"hire 9 4 0 2", func(p *api.Post) {
			p.Rounds.Carriers = append(p.Rounds.Carriers, api.Carrier{Id: 9, Base: 4, Skins: 2})
		}},
		{"dismiss 6", func(p *api.Post) { p.Rounds.Carriers = p.Rounds.Carriers[:1] }},
		{"notch 3", func(p *api.Post) { p.Tally.Stock, p.Tally.Foil = append(p.Tally.Stock, 3), append(p.Tally.Foil, 3) }},
		{"bill 9 4 50 1 9 3 2", func(p *api.Post) {
			p.Floors.Bills = append(p.Floors.Bills, api.Bill{Number: 9, Payer: 4, Pence: 50, Stakes: []api.Stake{{Floor: 1, Parts: 9}, {Floor: 3, Parts: 2}}})
		}},
		{"pay 4 1 40", func(p *api.Post) {
			p.Floors.Paid = append(p.Floors.Paid, api.Payment{From: 4, To: 1, Pence: 40})
		}},
		{"need 11 5 9 4", func(p *api.Post) { p.Supply.Streets[1].Need, p.Supply.Streets[1].Least = span(5, 9), 4 }},
		{"claim 9 4 7", func(p *api.Post) {
			p.Bell.Claims = append(p.Bell.Claims, api.Claim{Number: 9, Porter: 4, Minute: 7})
		}},
		{"join 9 2 1", func(p *api.Post) {
			p.Bell.Porters = append(p.Bell.Porters, api.Porter{Id: 9, At: 2, Full: true})
		}},
		{"join 9 2 0", func(p *api.Post) { p.Bell.Porters = append(p.Bell.Porters, api.Porter{Id: 9, At: 2}) }},
		{"stop 12", func(p *api.Post) { p.Bell.Wells = p.Bell.Wells[:1] }},
		{"close 2", func(p *api.Post) {
			for _, x := range []*api.Town{&p.Town, &p.Rounds.Town, &p.Bell.Town} {
				x.Links = slices.Delete(x.Links, 1, 2)
			}
		}},
		{"order 9 7 5 6", func(p *api.Post) { p.Orders = slices.Insert(p.Orders, 2, order(9, 7, 5, 6)) }},
		{"order 1 7 5 6", func(p *api.Post) { p.Orders = slices.Insert(p.Orders, 0, order(1, 7, 5, 6)) }},
		{"drop 3", func(p *api.Post) { p.Orders = slices.Delete(p.Orders, 1, 2) }},
		{"ask 5 0 0", func(p *api.Post) {}},
	} {
		// Another fountain is of no matter where nothing is guarded.
		free := func(p *api.Post) { p.Guards = nil }
		d := heard(t, x.line)[0]
		why, e := warden.Why(rich(free), d)
		p, s, f := warden.Do(rich(free), d)
		if want := rich(free, x.change); !same(p, want) || strings.HasPrefix(s, "no ") || why != api.OK || e != api.OK || f != api.OK {
			t.Error(i, x.line, p, s, why, e, f)
		}
	}
}

func act(x api.Act) func(p *api.Post) {
	return func(p *api.Post) { p.Mix.Acts = append(p.Mix.Acts, x) }
}

// P12.5, R1: by what deeds are denied, and which error is first.
func TestDenied(t *testing.T) {
	full := func(p *api.Post) {
		p.Orders = orderRow(8)
		p.Dawn.Comers = append(p.Dawn.Comers, api.Comer{Id: 5, Guild: 1, Skins: 1}, api.Comer{Id: 6, Guild: 1, Skins: 1})
		p.Tally.Stock = slices.Repeat(ints(1), 12)
		p.Mix.Acts = slices.Repeat([]api.Act{{Kind: api.ActRinse, From: 1}}, 12)
		p.Mix.Tastes = nil
		p.Rounds.Carriers = append(p.Rounds.Carriers, api.Carrier{Id: 7, Base: 1, Skins: 1})
		p.Bell.Porters = append(p.Bell.Porters, api.Porter{Id: 5, At: 1}, api.Porter{Id: 6, At: 1})
		p.Floors.Paid = slices.Repeat(p.Floors.Paid[:1], 12)
	}
	for i, x := range []struct {
		p     api.Post
		lines string
		want  string
	}{
		{rich(), "read 3 9 0 1 0 9; read 0 0 0 0 9 0; read 1 1 0 1 0 9; read 1 9 4 1 0 9; read 1 9 0 41 0 9; read 1 9 0 1 9 8; read 1 9 0 1 0 100; read 2 9 4 1 0 9", "no 6; no 6; no 12; no 12; no 12; no 12; no 12; ok"},
		{rich(), "note 4 1 0 9; note 0 1 0 9; note 9 5 0 9; note 9 1 9 8; note 10000 1 0 0", "no 22; no 22; no 22; no 22; no 22"},
		{rich(), "come 4 1 0 1; come 0 1 0 1; come 9 4 0 1; come 9 0 0 1; come 9 1 241 1; come 9 1 0 6; come 9 1 0 0", "no 2; no 2; no 2; no 2; no 2; no 2; no 2"},
		{rich(), "fill 3 1 1; fill 0 1 1; fill 1 4 1; fill 1 1 5; fill 1 1 0; fill 2 1 5; fill 2 1 4; pour 1 1 1; pour 3 1 5; pour 3 1 3; pour 3 1 2; pour 1 4 1; lose 1 3; lose 1 0; lose 4 1; rinse 4; rinse 0", "no 41; no 41; no 41; no 41; no 41; no 41; no 122; no 41; no 41; no 41; no 122; no 41; no 41; no 41; no 41; no 41; no 41"},
		{rich(), "taste 5 1 0 1 0 0; taste 9 4 0 1 0 0; taste 9 1 6 1 0 0; taste 9 1 0 3 0 0; taste 9 1 0 1 1 0; taste 0 1 0 1 0 0; taste 9 1 5 1 3 3; taste 9 1 5 1 2 2; taste 10 3 5 2 0 0; taste 11 1 5 2 9 9", "no 42; no 42; no 42; no 42; no 42; no 42; no 122; ok; ok; ok"},
		{rich(), "see 11 9 0 0 9; see 10 1 0 0 9; see 10 9 7 0 9; see 10 9 0 0 13; see 10 9 0 9 8; see 10 0 0 0 9; see 10 9 3 0 9; see 10 9 6 0 9; see 10 9 2 0 9; see 20 9 3 0 9; see 20 8 2 0 9", "no 6; no 52; no 52; no 52; no 52; no 52; no 60; no 60; ok; no 60; ok"},
		{rich(), "hire 5 1 0 1; hire 9 5 0 1; hire 9 1 0 0; hire 9 1 0 5; hire 9 1 0 1 11; hire 9 1 0 1 20 10; hire 9 1 0 1 10 10; hire 0 1 0 1; hire 9 1 0 1; hire 10 1 0 1; hire 10 5 0 1; dismiss 4; dismiss 9; dismiss 9", "no 64; no 64; no 64; no 64; no 64; no 64; no 64; no 64; ok; no 9; no 9; no 6; ok; no 6"},
		{rich(), "notch 0; notch 5; notch 4", "no 72; no 72; ok"},
		{rich(), "bill 1 1 9 1 1; bill 9 5 9 1 1; bill 9 1 0 1 1; bill 9 1 1000001 1 1; bill 9 1 9 5 1; bill 9 1 9 2 1 1 1; bill 9 1 9 1 1 1 1; bill 9 1 9 1 10; bill 9 1 9 1 0; bill 0 1 9 1 1", "no 81; no 81; no 81; no 81; no 81; no 81; no 81; no 81; no 81; no 81"},
		{rich(), "pay 1 3 5; pay 3 1 5; pay 1 3 0; pay 3 1 1000001; pay 2 4 5; pay 4 2 5; pay 1 1 5; pay 5 1 5; pay 1 5 5; pay 1 2 0; pay 1 2 1000001; pay 3 3 1; pay 1 4 1; pay 2 3 1000000", "no 83; no 83; no 83; no 83; no 83; no 83; no 82; no 82; no 82; no 82; no 82; no 82; ok; ok"},
		{rich(), "need 8 3 5 2; need 0 9 5 6; need 7 5 4 1; need 7 3 101 2; need 7 3 5 4; need 7 3 5 3; need 11 100 100 100; need 11 0 0 1; need 7 0 0 0", "no 6; no 6; no 92; no 92; no 92; ok; ok; no 92; ok"},
		{rich(), "claim 1 1 1; claim 9 5 1; claim 0 1 1; claim 9 1 0; join 1 1 0; join 9 5 0; join 0 1 0; join 10000 1 0; stop 11; stop 12; stop 12", "no 101; no 101; no 101; ok; no 102; no 102; no 102; no 102; no 6; ok; no 6"},
		{rich(), "close 4; close 0; close 3; close 3", "no 34; no 34; ok; no 34"},
		{rich(), "guard 4 1; guard 4 3; guard 1 3; guard 1 0; guard 1 2; guard 1 1; guard 3 1; guard 3 2; guard 2 1; rinse 3; guard 3 2; guard 3 1; guard 3 2", "no 6; no 6; no 2; no 2; no 122; no 123; no 122; no 122; no 122; ok; ok; no 123; no 123"},
		{rich(), "order 2 1 0 0; order 3 9 0 0; order 0 1 0 0; order 10000 1 0 0; order 4 0 0 0; order 4 9 0 0; order 4 1 1000001 0; order 4 1 0 1000001; drop 4; drop 0; drop 10000; drop 3; drop 3; ask 0 0 0; ask 9 0 0; ask 1 1000001 0; ask 1 0 1000001; ask 1 0 1000000", "no 124; no 124; no 124; no 124; no 124; no 124; no 124; no 124; no 6; no 6; no 6; ok calm 3; no 6; no 124; no 124; no 124; no 124; not"},
		{rich(full), "come 9 1 0 1; come 9 9 9 9; fill 1 1 1; fill 9 9 9; pour 1 2 1; lose 1 1; rinse 1; rinse 9; notch 1; notch 5; hire 9 1 0 1; hire 9 9 0 9; join 9 1 0; join 9 9 0; pay 1 2 5; pay 1 1 0; pay 1 3 5; order 9 1 0 0; order 0 9 0 0", "no 9; no 9; no 9; no 9; no 9; no 9; no 9; no 9; no 9; no 72; no 9; no 9; no 9; no 9; no 9; no 9; no 83; no 9; no 9"},
		// Where nothing is known of a fountain, a vessel is neither safe nor not.
		{chapter(), "taste 1 1 5 1 9 9; guard 1 1; guard 1 2; rinse 1; guard 1 1; guard 1 2", "ok; no 8; no 122; ok; no 8; ok"},
		// Guards come in the order of vessels.
		{chapter(), "rinse 3; guard 3 2; guard 1 1; rinse 2; guard 2 2; fill 1 2 1; fill 2 2 2; pour 2 3 1; pour 2 1 1; pour 1 3 1", "ok; ok; ok; ok; ok; no 122; ok; ok; no 122; no 122"},
	} {
		lines, want := strings.Split(x.lines, "; "), strings.Split(x.want, "; ")
		if len(lines) != len(want) {
			t.Fatal(i, len(lines), len(want))
		}
		p := checkAnswers(t, i, x.p, lines, want)
		if e := warden.Check(p); e != api.OK {
			t.Error(i, e, p)
		}
		l := heard(t, lines...)
		for k, d := range l {
			q, _, e := warden.Run(x.p, l[:k])
			why, f := warden.Why(q, d)
			no := 0
			fmt.Sscanf(want[k], "no %d", &no)
			if int(why) != no || e != api.OK || f != api.OK {
				t.Error(i, lines[k], why, f)
			}
			next, _, _ := warden.Do(q, d)
			if no > 0 && !same(next, q) {
				t.Error(i, lines[k], "changed", next)
			}
		}
		first := slices.IndexFunc(want, func(s string) bool { return strings.HasPrefix(s, "no ") })
		if n, e := warden.First(x.p, l); n != first || e != api.OK {
			t.Error(i, "First", n, e)
		}
	}
}

// P12.9: orders warn as they begin to hold, and calm as they do no longer, or are dropped; of several, in the order of their Numbers.
func TestAnswers(t *testing.T) {
	for i, x := range [][2]string{
		{"order 1 5 1 9; order 2 5 2 0; notch 1; drop 2; drop 1", "ok warn 1 2; ok; ok; ok; ok calm 1"},
		// By 5 three are there; without the well one, and with one more two.
		{"order 2 8 1 5; order 9 8 2 5; order 10 8 2 5; order 1 8 4 5; stop 10; join 9 3 1; drop 3; join 8 3 1; drop 1", "ok; ok; ok; ok warn 1 3; ok warn 3 1 warn 9 1 warn 10 1; ok calm 9 calm 10; ok calm 3; ok; ok calm 1"},
		// Its value changes, and it holds still.
		{"order 1 6 4 0; bill 9 1 7 4 1; ask 6 4 0; pay 4 1 46; pay 4 1 1; bill 10 1 5 4 1", "ok warn 1 40; ok; so 47; ok; ok calm 1; ok warn 1 5"},
		// What warned is there no more: it warns again with another one of its Number.
		{"order 1 5 0 0; drop 1; order 1 5 1 0; drop 1; order 1 5 2 0; drop 1", "ok warn 1 2; ok calm 1; ok warn 1 2; ok calm 1; ok; ok"},
		{"order 1 3 3 1; order 4 3 3 2; rinse 3; fill 2 3 1; drop 4", "ok warn 1 2; ok warn 4 2; ok calm 1 calm 4; ok warn 1 1; ok"},
		// What is denied says no more, though it would warn.
		{"order 1 2 4 20; come 9 1 0 9; come 9 1 0 5", "ok; no 2; ok warn 1 30"},
		{"order 9999 5 0 0; order 1 5 1 0", "ok warn 9999 2; ok warn 1 2"},
	} {
		checkAnswers(t, i, chapter(), strings.Split(x[0], "; "), strings.Split(x[1], "; "))
	}
	// What holds at first does not warn, and calms as it does no longer.
	p := chapter(someOrders(order(3, 8, 4, 5), order(4, 5, 1, 0)))
	checkAnswers(t, "held", p, []string{"ask 8 4 5", "drop 4", "join 9 3 1"}, []string{"so 3", "ok calm 4", "ok calm 3"})
	if q, l, e := warden.Run(p, nil); !same(q, p) || len(l) != 0 || e != api.OK {
		t.Error("none", q, l, e)
	}
	if n, e := warden.First(p, nil); n != 0 || e != api.OK {
		t.Error("none", n, e)
	}
}

// P12.6: the file of a post, row by row.
func TestFile(t *testing.T) {
	for _, x := range []struct {
		p    api.Post
		file string
	}{
		{rich(), richFile},
		{chapter(noOrders), "town 4 1 2 3 4 3 1 1 2 0 6 2 2 3 0 3 3 3 4 0 12\ndawn 0 2 3 3 1 2 2 4 1 2 0 1 2 1 3 1 3 3 0 1 4 2 1 2 0\nmix 2 3 1 6 2 5 3 4 5 1 1 1 4 1 2 2 3 2 1 2 2 2 2 3 3 3 3 0 1 0\nrounds 0 1 1 0 0\ntally 1 1 4 1 1 2 4 4 1 2 3 4\nrates 0 0 0 0\nfloors 4 1 2 3 4 0 2 1 1 100 3 1 1 2 1 3 1 2 2 60 2 3 1 4 2 0\nsupply 1 1 1 9 0 1 1 0 0 0 0 0\nbell 10 20 0 0 3 1 10 2 2 4 1 1 0 2 2 0 3 4 1 4 1 0 0\nguards 0\norders 0\n"},
		{bare(), "town 1 1 0\ndawn 0 1 1 0 0 0\nmix 1 0 0 0\nrounds 0 1 1 0 0\ntally 1 1 0 0\nrates 0 0 0 0\nfloors 0 0 0 0\nsupply 1 1 1 0 0 1 1 0 0 0 0 0\nbell 0 0 0 0 1 0 0 0\nguards 0\norders 0\n"},
	} {
		s, e := warden.Write(x.p)
		if s != x.file || e != api.OK {
			t.Errorf("%q %v", s, e)
		}
		p, e := warden.Read(x.file)
		if !same(p, x.p) || e != api.OK {
			t.Error(p, e)
		}
		if answers, after, e := warden.Carry(x.file); answers != "" || after != x.file || e != api.OK {
			t.Errorf("%q %q %v", answers, after, e)
		}
	}
}

// bare has as little as a post can have.
func bare() api.Post {
	town := api.Town{Places: ints(1)}
	return copied(api.Post{
		Town: town, Dawn: api.Dawn{Fill: span(1, 1)}, Mix: api.Mix{Fountains: 1}, Rounds: api.Rounds{Town: town, Days: 1, Pints: 1},
		Tally:  api.Tally{Id: 1, House: 1},
		Supply: api.Supply{Founts: []api.Fount{{Id: 1, Spring: api.Spring{Weeks: 1, Song: span(1, 1)}}}},
		Bell:   api.Bell{Town: town, Place: 1},
	})
}

// P12.6: what is the file of a valid post, and what is none.
func TestFiles(t *testing.T) {
	for _, x := range []struct {
		old, new string
		e        api.Errno
	}{
		{"rates 6 3 40 10", "rates 0 0 0 0", api.OK}, {"rates 6 3 40 10", "rates 1000 1000 1000 1000", api.OK}, {"rates 6 3 40 10", "rates 6 3 40 1001", api.ErrFile}, {"rates 6 3 40 10", "rates 6 3 40", api.ErrFile}, {"rates 6 3 40 10", "rates 6 3 40 10 0", api.ErrFile}, {"rates 6 3 40 10", "rates", api.ErrFile}, {"rates 6 3 40 10", "rate 6 3 40 10", api.ErrFile}, {"rates 6 3 40 10", "Rates 6 3 40 10", api.ErrFile}, {"rates 6 3 40 10", " rates 6 3 40 10", api.ErrFile}, {"rates 6 3 40 10", "rates 6 3 40 10 ", api.ErrFile}, {"rates 6 3 40 10", "rates  6 3 40 10", api.ErrFile}, {"rates 6 3 40 10", "rates 06 3 40 10", api.ErrFile}, {"rates 6 3 40 10", "rates 6 3 40 -10", api.ErrFile}, {"rates 6 3 40 10", "rates 6 3 40 x", api.ErrFile}, {"rates 6 3 40 10", "rates 6 3 40 10\r", api.ErrFile}, {"rates 6 3 40 10", "rates 6 3 40 18446744073709551616", api.ErrFile}, {"rates 6 3 40 10", "rates 6 3 40 18446744073709551626", api.ErrFile}, {"rates 6 3 40 10", "rates\t6 3 40 10", api.ErrFile}, {"rates 6 3 40 10\n", "", api.ErrFile}, {"rates 6 3 40 10\n", "rates 6 3 40 10\n\n", api.ErrFile}, {"rates 6 3 40 10\n", "rates 6 3 40 10\nrates 6 3 40 10\n", api.ErrFile}, {"rates 6 3 40 10\n", "rates 6 3 40 10 ", api.ErrFile},
		{"orders 3 2 5 1 17 3 8 4 5 9999 6 4 30\n", "orders 3 2 5 1 17 3 8 4 5 9999 6 4 30", api.ErrFile}, {"orders 3 2 5 1 17 3 8 4 5 9999 6 4 30\n", "", api.ErrFile}, {"orders 3 2 5", "orders 9223372036854775807 2 5", api.ErrFile}, {"orders 3 2 5", "orders 2 2 5", api.ErrFile}, {"orders 3 2 5", "orders 4 2 5", api.ErrFile}, {"orders 3 2 5 1 17 3 8 4 5", "orders 3 3 5 1 17 3 8 4 5", api.ErrFile}, {"orders 3 2 5 1 17", "orders 3 2 9 1 17", api.ErrFile}, {"orders 3 2 5 1 17", "orders 3 2 5 1 1000000", api.OK}, {"orders 3 2 5 1 17", "orders 3 2 5 1 1000001", api.ErrFile}, {"orders 3 2 5 1 17 3 8 4 5 9999 6 4 30", "orders 0", api.OK},
		{"guards 1 1 1", "guards 0", api.OK}, {"guards 1 1 1", "guards 1 1 2", api.ErrFile}, {"guards 1 1 1", "guards 1 2 1", api.ErrFile}, {"guards 1 1 1", "guards 1 3 1", api.ErrFile}, {"guards 1 1 1", "guards 2 1 1 1 1", api.ErrFile}, {"guards 1 1 1", "guards 1 1", api.ErrFile},
		{"town 4 1 2 3 4", "town 4 1 2 4 3", api.ErrFile}, {"town 4 1 2 3 4", "town 5 1 2 3 4 9999", api.OK}, {"town 4", "town 0", api.ErrFile}, {"town 4 1 2 3 4 3 1 1 2 0 6 2 2 3 0 3 3 3 4 0 12", "town 4 1 2 3 4 0", api.OK}, {"town 4", "4 town", api.ErrFile},
		{"dawn 1 2 3", "dawn 240 2 3", api.OK}, {"dawn 1 2 3", "dawn 241 2 3", api.ErrFile}, {"dawn 1 2 3", "dawn 1 3 2", api.ErrFile}, {"7 2 0 9223372036854775807\nmix", "7 2 0 9223372036854775808\nmix", api.ErrFile}, {"7 2 0 9223372036854775807\nmix", "7 2 0 0\nmix", api.OK}, {"7 2 0 9223372036854775807\nmix", "7 2 0 9223372036854775806\nmix", api.OK}, {"7 2 0 9223372036854775807\nmix", "7 2 0 92233720368547758070\nmix", api.ErrFile},
		{"1 12 7 6 8 1 3 10 14 0 2", "0 12 7 6 8 1 3 10 14 0 2", api.OK}, {"1 12 7 6 8 1 3 10 14 0 2", "2 12 7 6 8 1 3 10 14 0 2", api.ErrFile}, {"1 12 7 6 8 1 3 10 14 0 2", "1 12 7 6 8 1 3 10 14 1 2", api.OK}, {"1 12 7 6 8 1 3 10 14 0 2", "1 12 7 6 8 1 3 10 14 2 2", api.ErrFile}, {"1 12 7 6 8 1 3 10 14 0 2", "1 12 7 6 8 1 3 10 14 256 2", api.ErrFile}, {"1 12 7 6 8 1 3 10 14 0 2", "1 12 7 6 8 1 3 10 14 257 2", api.ErrFile},
		{"2 5 3 1 1 2", "2 5 3 0 1 2", api.OK}, {"2 5 3 1 1 2", "2 5 3 2 1 2", api.ErrFile}, {"3 4 1 4 1 0 2", "3 4 0 4 1 1 2", api.OK}, {"3 4 1 4 1 0 2", "3 4 2 4 1 0 2", api.ErrFile},
		{"tally 8 9 4 1 1 2 4 4 1 2 3 4", "tally 9999 9999 0 12 1 1 1 1 1 1 1 1 1 1 1 1", api.OK}, {"tally 8 9 4 1 1 2 4 4 1 2 3 4", "tally 8 9 13 1 1 1 1 1 1 1 1 1 1 1 1 1 0", api.ErrFile},
	} {
		s := changed(t, x.old, x.new)
		if x.e != api.OK {
			expect(t, api.Post{}, given{file: s}, x.e, "Read", "Carry")
			expect(t, api.Post{}, given{file: s + "stop 10\n"}, x.e, "Read", "Carry")
			expect(t, api.Post{}, given{file: s + "stop"}, x.e, "Read", "Carry")
			continue
		}
		p, e := warden.Read(s)
		again, f := warden.Write(p)
		answers, after, g := warden.Carry(s)
		if again != s || answers != "" || after != s || e != api.OK || f != api.OK || g != api.OK {
			t.Error(x.new, e, f, g, again)
		}
	}
	for _, s := range []string{"", "\n", " ", "town", strings.Repeat("\n", 10), strings.Repeat("\n", 11), strings.Repeat("\n", 12), strings.Repeat(richFile, 2)[len(richFile)-1:], richFile[1:], "\n" + richFile} {
		expect(t, api.Post{}, given{file: s}, api.ErrFile, "Read", "Carry")
	}
	for _, s := range []string{"\n", " ", "stop 10\n", richFile} {
		expect(t, api.Post{}, given{file: richFile + s}, api.ErrFile, "Read")
	}
}

// P12.6, P12.13: a summer's lines, up to as many as there may be.
func TestCarry(t *testing.T) {
	asks := func(many int) string { return strings.Repeat("ask 5 0 0\n", many) }
	for _, x := range []struct {
		lines string
		e     api.Errno
	}{
		{"", api.OK}, {asks(1), api.OK}, {asks(40), api.OK}, {asks(41), api.ErrMany}, {asks(1000), api.ErrMany}, {asks(41) + "\n", api.ErrSpeak}, {asks(41) + "ask 5 0\n", api.ErrSpeak}, {asks(41) + "ask 5 0 0", api.ErrSpeak}, {"ask 5 0\n" + asks(41), api.ErrSpeak}, {asks(40) + "ask 5 0 0", api.ErrSpeak},
		{"\n", api.ErrSpeak}, {"\n\n", api.ErrSpeak}, {"ask 5 0 0", api.ErrSpeak}, {"ask 5 0 0\n\n", api.ErrSpeak}, {"\nask 5 0 0\n", api.ErrSpeak}, {"ask 5 0 0\nask 5 0 0", api.ErrSpeak}, {"ask 5 0 0\n ", api.ErrSpeak}, {"ask 5 0 0\r\n", api.ErrSpeak}, {" ask 5 0 0\n", api.ErrSpeak}, {"ask 5 0 0 \n", api.ErrSpeak}, {"stop 10\nstop\n", api.ErrSpeak}, {"guards 1 1 1\n", api.ErrSpeak}, {"orders 0\n", api.ErrSpeak}, {richFile, api.ErrSpeak}, {"order 1 1 1 1\n", api.OK}, {"stop 99\n", api.OK}, {"ask 9 0 0\n", api.OK},
	} {
		expect(t, api.Post{}, given{file: richFile + x.lines}, x.e, "Carry")
		expect(t, api.Post{}, given{file: changed(t, "town 4", "town 3") + x.lines}, api.ErrFile, "Carry")
	}
	lines := "order 4 1 1 20\nstop 10\nstop 10\npay 3 1 5\nclose 2\nguard 1 1\nfill 2 1 1\npour 3 2 1\nask 6 4 39\nneed 7 0 3 0\ndrop 3\nbill 3 4 10 1 1\ndrop 9999\n"
	answers, after, e := warden.Carry(richFile + lines)
	if want := "ok warn 4 1\nok\nno 6\nno 83\nok\nno 123\nno 122\nok\nso 40\nok\nok calm 3\nok calm 9999\nok\n"; answers != want || e != api.OK {
		t.Errorf("%q %v", answers, e)
	}
	want := changed(t, "4 3 1 1 2 0 6 2 2 3 0 3 3 3 4 0 12\n", "4 2 1 1 2 0 6 3 3 4 0 12\n")
	for _, x := range [][2]string{
		{"3 0 1 2 5 2 4 1", "3 0 1 2 3 2 1 2 5 2 4 1"}, {"5 1 1 1 4 1 2", "6 1 1 1 4 1 2"}, {"2 10 2 2 12 3 15", "1 12 3 15"},
		{"2 7 3 5 2 2 1 2", "2 7 0 3 0 2 1 2"}, {"2 1 1 100 3 1 1 2 1 3 1 2 2 60 2 3 1 4 2 2", "3 1 1 100 3 1 1 2 1 3 1 2 2 60 2 3 1 4 2 3 4 10 1 1 1 2"}, {"orders 3 2 5 1 17 3 8 4 5 9999 6 4 30", "orders 2 2 5 1 17 4 1 1 20"},
	} {
		if strings.Count(want, x[0]) != 1 {
			t.Fatal("not there once:", x[0])
		}
		want = strings.Replace(want, x[0], x[1], 1)
	}
	if after != want {
		t.Errorf("%q", after)
	}
}

// P12.7: what the layers below tell of the parts after the deeds is what they would tell if they had done them.
func TestLayersBelow(t *testing.T) {
	p := checkAnswers(t, "layers", chapter(), []string{"note 1 3 2 2", "stop 10", "pay 3 1 53"}, []string{"ok", "ok warn 3 1", "ok"})
	if x, e := queue.Begins(p.Dawn, 2); x != span(4, 5) || e != api.OK {
		t.Error(x, e)
	}
	if n, e := fire.By(p.Bell, 100); n != 1 || e != api.OK {
		t.Error(n, e)
	}
	if l, e := floor.Net(p.Floors); !slices.Equal(l, ints(13, 27, 0, -40)) || e != api.OK {
		t.Error(l, e)
	}
}
