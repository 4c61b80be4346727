package floor_test

import (
	"slices"
	"testing"

	"aguador/api"
	"aguador/floor"
	"aguador/tally"
)

// expectFloors checks what a call makes of floors: with an error, none.
func expectFloors(t *testing.T, i any, got, want api.Floors, e, wantE api.Errno) {
	t.Helper()
	if wantE != api.OK {
		want = api.Floors{}
	}
	if !same(got, want) || e != wantE {
		t.Error(i, got, e)
	}
}

// P8.7: a payment is the last one, made by any two.
func TestPay(t *testing.T) {
	paid := chapter()
	paid.Paid = times(11, pay(4, 1, 7))
	for i, f := range []api.Floors{chapter(), chapter(1, 3), paid, {Ids: ints(1, 3)}, {Ids: ints(1, 3), Quarrels: quarrels(1, 3)}} {
		for _, x := range pays(pay(3, 1, 53), pay(1, 3, 1), pay(3, 1, 1000000)) {
			want := f
			want.Paid = slices.Concat(f.Paid, pays(x))
			y, e := floor.Pay(f, x)
			expectFloors(t, i, y, want, e, api.OK)
		}
	}
	for i, x := range badPayments() {
		for _, f := range []api.Floors{chapter(), paid, {}} {
			y, e := floor.Pay(f, x)
			expectFloors(t, i, y, f, e, api.ErrPay)
		}
		y, e := floor.Pay(fullPaid(), x)
		expectFloors(t, i, y, chapter(), e, api.ErrFull)
	}
	y, e := floor.Pay(fullPaid(), pay(1, 2, 1))
	expectFloors(t, "full", y, chapter(), e, api.ErrFull)
}

// ofNumbers is floors with bills of these numbers, each with another payer and other pence.
func ofNumbers(l ...int) api.Floors {
	f := api.Floors{Ids: ints(1, 2, 3, 4)}
	for i, n := range l {
		f.Bills = append(f.Bills, bill(n, i%4+1, 10*i+1, 1, 1, 3, i%9+1))
	}
	return f
}

// P8.7: a bill is in its place.
func TestAdd(t *testing.T) {
	for i, x := range []struct {
		before []int
		number int
		at     int
		e      api.Errno
	}{
		{nil, 1, 0, api.OK}, {nil, 9999, 0, api.OK}, {ints(2, 4, 6), 1, 0, api.OK}, {ints(2, 4, 6), 3, 1, api.OK}, {ints(2, 4, 6), 5, 2, api.OK}, {ints(2, 4, 6), 7, 3, api.OK}, {ints(2, 4, 6), 9999, 3, api.OK}, {ints(1, 2, 3, 4, 5, 6, 7, 8, 9), 10, 9, api.OK}, {ints(2, 3, 4, 5, 6, 7, 8, 9, 10), 1, 0, api.OK},
		{ints(2, 4, 6), 2, 0, api.ErrBill}, {ints(2, 4, 6), 4, 0, api.ErrBill}, {ints(2, 4, 6), 6, 0, api.ErrBill}, {nil, 0, 0, api.ErrBill}, {nil, -1, 0, api.ErrBill}, {nil, 10000, 0, api.ErrBill}, {nil, huge, 0, api.ErrBill}, {nil, low, 0, api.ErrBill}, {ints(2, 4, 6), 10000, 0, api.ErrBill}, {ints(2, 4, 6), 0, 0, api.ErrBill}, {ints(2, 4, 6), low, 0, api.ErrBill}, {ints(2, 4, 6), huge, 0, api.ErrBill},
		{ints(1, 2, 3, 4, 5, 6, 7, 8, 9, 10), 11, 0, api.ErrFull}, {ints(1, 2, 3, 4, 5, 6, 7, 8, 9, 10), 1, 0, api.ErrFull},
	} {
		f := ofNumbers(x.before...)
		b := bill(x.number, 4, 9, 1, 2, 4, 9)
		want := ofNumbers(x.before...)
		want.Bills = slices.Insert(want.Bills, x.at, b)
		y, e := floor.Add(f, b)
		expectFloors(t, i, y, want, e, x.e)
	}
	for i, b := range badBills() {
		y, e := floor.Add(chapter(1, 3), b)
		expectFloors(t, i, y, chapter(), e, api.ErrBill)
		y, e = floor.Add(fullBills(), b)
		expectFloors(t, i, y, chapter(), e, api.ErrFull)
	}
}

// badBills is bills of which something is wrong.
func badBills() []api.Bill {
	l := bills(bill(3, 4, 9), bill(3, 4, 9, 2, 1, 1, 1), bill(3, 4, 9, 1, 1, 1, 1), bill(3, 4, 9, 1, 1, 3, 1, 2, 1), bill(3, 4, 9, 1, 1, 2, 1, 3, 1, 4, 1, 5, 1), api.Bill{})
	for _, n := range ints(0, -1, 5, huge, low) {
		l = append(l, bill(3, n, 9, 1, 9), bill(3, 4, 9, n, 9), bill(3, 4, 9, 1, 1, n, 1))
	}
	for _, n := range ints(0, -1, 1000001, huge, low) {
		l = append(l, bill(3, 4, n, 1, 9))
	}
	for _, n := range ints(0, -1, 10, huge, low) {
		l = append(l, bill(3, 4, 9, 1, n), bill(3, 4, 9, 1, 1, 2, n))
	}
	return l
}

func ofTally(stock, foil []int) api.Tally {
	return api.Tally{Id: 1, House: 1, Stock: stock, Foil: foil}
}

// P8.7, P8.16: the chapter's example, and what a tally comes to whatever its true list is.
func TestOfTally(t *testing.T) {
	most := slices.Repeat(ints(3), 12)
	for i, x := range []struct {
		t     api.Tally
		r     api.Rates
		pence int // 0: it is not known exactly, or not right
	}{
		{nine(), rates(), 9}, {ofTally(ints(3, 4, 1), ints(3, 4, 1)), rates(), 36}, {ofTally(ints(1), ints(1)), api.Rates{Skin: 1}, 1}, {ofTally(most, most), api.Rates{Barrel: 1000}, 12000}, {ofTally(ints(1, 4), ints(1, 4)), api.Rates{Skin: 11, Paid: 10}, 1},
		// It is not known which list is the true one, but they all come to as much.
		{ofTally(ints(1, 2), ints(1, 1)), api.Rates{Skin: 5, Half: 5}, 10}, {ofTally(ints(1, 2), ints(1)), api.Rates{Skin: 7}, 7}, {ofTally(ints(1, 3), ints(1, 4)), api.Rates{Skin: 7, Half: 1}, 7},
		{ofTally(ints(1, 2), ints(1, 1)), rates(), 0}, {ofTally(ints(1, 2), ints(1)), rates(), 0}, {ofTally(ints(1, 2), ints(1, 1)), api.Rates{Skin: 5, Half: 6}, 0}, {ofTally(nil, nil), rates(), 0}, {nine(), api.Rates{}, 0}, {ofTally(ints(4), ints(4)), rates(), 0}, {ofTally(ints(1, 4), ints(1, 4)), api.Rates{Skin: 10, Paid: 10}, 0}, {ofTally(ints(4), nil), rates(), 0},
	} {
		for _, n := range ints(0, 1, -7, 1000001, huge, low) {
			want, e := api.Floors{}, api.ErrBad
			if x.pence > 0 {
				want, e = chapter(1, 3), api.OK
				want.Bills = append(want.Bills, bill(3, 4, x.pence, 1, 1, 2, 3))
			}
			y, g := floor.OfTally(chapter(1, 3), bill(3, 4, n, 1, 1, 2, 3), x.t, x.r)
			expectFloors(t, i, y, want, g, e)
		}
	}
	f := ofNumbers(2, 4)
	y, e := floor.OfTally(f, bill(3, 2, 0, 1, 2), nine(), rates())
	want := ofNumbers(2, 4)
	want.Bills = slices.Insert(want.Bills, 1, bill(3, 2, 9, 1, 2))
	expectFloors(t, "in its place", y, want, e, api.OK)
}

// P8.7, R1: the errors of OfTally, in their order.
func TestOfTallyErrors(t *testing.T) {
	good, bad := bill(3, 4, 0, 1, 1), bill(2, 4, 0, 1, 1)
	none, open := ofTally(ints(5), nil), ofTally(ints(1), ints(2))
	wrong := api.Rates{Paid: 1001}
	for i, x := range []struct {
		f api.Floors
		b api.Bill
		t api.Tally
		r api.Rates
		e api.Errno
	}{
		{odd(), bad, none, wrong, api.ErrFloors}, {fullBills(), bad, none, wrong, api.ErrTally}, {fullBills(), bad, open, wrong, api.ErrRates}, {fullBills(), bad, open, rates(), api.ErrBad}, {fullBills(), bad, nine(), rates(), api.ErrFull}, {chapter(), bad, nine(), rates(), api.ErrBill}, {chapter(), good, nine(), rates(), api.OK},
		{chapter(), good, none, rates(), api.ErrTally}, {chapter(), good, api.Tally{House: 1}, rates(), api.ErrTally}, {chapter(), good, api.Tally{Id: 1, House: 10000}, rates(), api.ErrTally}, {chapter(), good, ofTally(nil, slices.Repeat(ints(1), 13)), rates(), api.ErrTally}, {chapter(), good, nine(), api.Rates{Skin: -1}, api.ErrRates}, {chapter(), good, nine(), api.Rates{Half: huge}, api.ErrRates}, {chapter(), good, nine(), api.Rates{Barrel: low}, api.ErrRates}, {fullBills(), good, nine(), rates(), api.ErrFull},
		// One that is not valid is said to be so, whatever it comes to.
		{chapter(), good, ofTally(nil, nil), wrong, api.ErrRates}, {chapter(), bad, ofTally(nil, nil), rates(), api.ErrBad},
	} {
		if y, e := floor.OfTally(x.f, x.b, x.t, x.r); e != x.e || e != api.OK && !same(y, api.Floors{}) {
			t.Error(i, y, e)
		}
	}
	for i, b := range badBills() {
		// What it comes to takes the place of the bill's own pence.
		e := api.ErrBill
		if b.Number == 3 && b.Payer == 4 && slices.Equal(b.Stakes, bill(3, 4, 1, 1, 9).Stakes) {
			e = api.OK
		}
		if y, g := floor.OfTally(chapter(), b, nine(), rates()); g != e || g != api.OK && !same(y, api.Floors{}) {
			t.Error(i, b, y, g)
		}
	}
}

// P8.16: what a tally comes to for sure is shared as by any bill.
func TestTallyIsShared(t *testing.T) {
	r := &dice{state: 41}
	shared := 0
	for range 1000 {
		var x api.Tally
		x.Id, x.House = r.upTo(1, 9), r.upTo(1, 9)
		for range r.upTo(0, 5) {
			x.Stock = append(x.Stock, r.upTo(1, 4))
		}
		x.Foil = slices.Clone(x.Stock)
		if r.upTo(0, 3) == 0 {
			x.Foil = append(x.Foil, r.upTo(1, 4))
		}
		p := api.Rates{Skin: r.upTo(0, 6), Half: r.upTo(0, 3), Barrel: r.upTo(0, 1000), Paid: r.upTo(0, 10)}
		b := bill(7, 2, 0, 1, r.upTo(1, 9), 3, r.upTo(1, 9))
		y, e := floor.OfTally(chapter(), b, x, p)
		s, g := tally.Owed(x, p)
		if g != api.OK {
			t.Fatal(x, p, g)
		}
		if s.Lo != s.Hi || s.Lo < 1 {
			if e != api.ErrBad {
				t.Error(x, p, e)
			}
			continue
		}
		shared++
		b.Pence = s.Lo
		want := chapter()
		want.Bills = append(want.Bills, b)
		expectFloors(t, x, y, want, e, api.OK)
		l, e := floor.Shares(y, 7)
		if !slices.Equal(l, sharesOf(want, b)) || e != api.OK {
			t.Error(x, p, l, e)
		}
		if n, e := floor.Net(y); !slices.Equal(n, netOf(want)) || e != api.OK {
			t.Error(x, p, n, e)
		}
	}
	if shared < 300 {
		t.Error("too few of a kind:", shared)
	}
}

// P8.7: each bill is struck, and all else is as it was; struck and added again, it is in its place.
func TestStrike(t *testing.T) {
	for _, f := range []api.Floors{chapter(1, 3), fullBills(), ofNumbers(5), ofNumbers(1, 9999), ofNumbers(2, 4, 6)} {
		f.Paid = pays(pay(1, 2, 3))
		for i, b := range f.Bills {
			want := copied(f)
			want.Bills = slices.Delete(want.Bills, i, i+1)
			y, e := floor.Strike(f, b.Number)
			expectFloors(t, b, y, want, e, api.OK)
			y, e = floor.Add(y, b)
			expectFloors(t, b, y, f, e, api.OK)
		}
	}
	y, e := floor.Strike(chapter(), 3)
	expectFloors(t, 3, y, chapter(), e, api.ErrNone)
}

// P8.7: a quarrel is in its place, and is mended.
func TestSplit(t *testing.T) {
	for i, x := range []struct {
		before []int
		q      api.Quarrel
		want   []int // nil: it cannot be
	}{
		{nil, quarrel(1, 2), ints(1, 2)}, {nil, quarrel(3, 4), ints(3, 4)}, {ints(1, 3, 2, 3), quarrel(1, 2), ints(1, 2, 1, 3, 2, 3)}, {ints(1, 3, 2, 3), quarrel(1, 4), ints(1, 3, 1, 4, 2, 3)}, {ints(1, 3, 2, 3), quarrel(2, 4), ints(1, 3, 2, 3, 2, 4)}, {ints(1, 3, 2, 3), quarrel(3, 4), ints(1, 3, 2, 3, 3, 4)}, {ints(2, 3), quarrel(1, 4), ints(1, 4, 2, 3)}, {ints(1, 4), quarrel(2, 3), ints(1, 4, 2, 3)}, {ints(1, 2, 1, 3, 1, 4, 2, 3, 3, 4), quarrel(2, 4), ints(1, 2, 1, 3, 1, 4, 2, 3, 2, 4, 3, 4)},
		{ints(1, 3), quarrel(1, 3), nil}, {ints(1, 3, 2, 3, 2, 4), quarrel(2, 3), nil}, {ints(1, 2, 1, 3, 1, 4, 2, 3, 2, 4, 3, 4), quarrel(3, 4), nil}, {ints(1, 3), quarrel(3, 1), nil}, {nil, quarrel(3, 1), nil}, {nil, quarrel(1, 1), nil}, {nil, quarrel(1, 5), nil}, {nil, quarrel(0, 1), nil}, {nil, quarrel(0, 0), nil}, {nil, quarrel(-1, 1), nil}, {nil, quarrel(low, huge), nil}, {nil, quarrel(low, 1), nil}, {nil, quarrel(1, huge), nil}, {ints(1, 3), quarrel(5, 6), nil},
	} {
		f := chapter(x.before...)
		y, e := floor.Split(f, x.q)
		if x.want == nil {
			expectFloors(t, i, y, f, e, api.ErrQuarrel)
			continue
		}
		expectFloors(t, i, y, chapter(x.want...), e, api.OK)
		z, e := floor.Mend(f, x.q)
		expectFloors(t, i, z, f, e, api.ErrNone)
		z, e = floor.Mend(y, x.q)
		expectFloors(t, i, z, f, e, api.OK)
	}
}

// P8.7: only what is a quarrel of theirs is mended, the other ones stay.
func TestMend(t *testing.T) {
	f := chapter(1, 2, 1, 3, 2, 4, 3, 4)
	for i, x := range []struct {
		q    api.Quarrel
		left []int
	}{{quarrel(1, 2), ints(1, 3, 2, 4, 3, 4)}, {quarrel(1, 3), ints(1, 2, 2, 4, 3, 4)}, {quarrel(2, 4), ints(1, 2, 1, 3, 3, 4)}, {quarrel(3, 4), ints(1, 2, 1, 3, 2, 4)}} {
		y, e := floor.Mend(f, x.q)
		expectFloors(t, i, y, chapter(x.left...), e, api.OK)
	}
	for _, q := range []api.Quarrel{{}, quarrel(1, 4), quarrel(2, 3), quarrel(2, 1), quarrel(4, 3), quarrel(1, 1), quarrel(1, 5), quarrel(0, 2), quarrel(low, huge)} {
		for _, g := range []api.Floors{f, chapter(), {}} {
			y, e := floor.Mend(g, q)
			expectFloors(t, q, y, g, e, api.ErrNone)
		}
	}
}

// roomy is a list with memory behind its end, which must stay as it is.
func roomy[T any](l ...T) []T { return append(make([]T, 0, len(l)+5), l...) }

// roomyOne is floors with memory behind the ends of all lists.
func roomyOne() api.Floors {
	f := chapter(1, 3, 2, 4)
	f.Ids, f.Quarrels, f.Paid, f.Bills = roomy(f.Ids...), roomy(f.Quarrels...), roomy(pay(1, 2, 3), pay(3, 4, 2)), roomy(f.Bills...)
	for i := range f.Bills {
		f.Bills[i].Stakes = roomy(f.Bills[i].Stakes...)
	}
	return f
}

// roomyGiven is what is told to each call so that none is denied.
func roomyGiven() given {
	b := bill(3, 4, 9, 1, 2, 3, 4)
	b.Stakes = roomy(b.Stakes...)
	x := nine()
	x.Stock, x.Foil = roomy(x.Stock...), roomy(x.Foil...)
	return given{number: 2, some: roomy(1, 2, 4), list: roomy(pay(3, 2, 1), pay(4, 1, 1)), payment: pay(3, 1, 5), bill: b, tally: x, rates: rates(), split: quarrel(2, 3), mend: quarrel(2, 4)}
}

// whole shows all memory behind a list.
func whole[T any](l []T) []T { return l[:cap(l)] }

func wholeFloors(f api.Floors) api.Floors {
	f.Ids, f.Quarrels, f.Paid, f.Bills = whole(f.Ids), whole(f.Quarrels), whole(f.Paid), slices.Clone(whole(f.Bills))
	for i := range f.Bills {
		f.Bills[i].Stakes = whole(f.Bills[i].Stakes)
	}
	return f
}

// isAsBefore reports whether all that a call was told, and the memory behind it, is as it was.
func isAsBefore(f api.Floors, g given) bool {
	h := roomyGiven()
	return same(wholeFloors(f), wholeFloors(roomyOne())) && slices.Equal(whole(g.some), whole(h.some)) && slices.Equal(whole(g.list), whole(h.list)) && slices.Equal(whole(g.bill.Stakes), whole(h.bill.Stakes)) && slices.Equal(whole(g.tally.Stock), whole(h.tally.Stock)) && slices.Equal(whole(g.tally.Foil), whole(h.tally.Foil))
}

// spoil writes over all memory of a list.
func spoil[T any](l []T, x T) {
	for i := range whole(l) {
		whole(l)[i] = x
	}
}

func (a told) spoil() {
	spoil(a.l, 77)
	spoil(a.pays, pay(77, 77, 77))
	for _, l := range a.groups {
		spoil(l, 77)
	}
	spoil(a.groups, nil)
	spoil(a.f.Ids, 77)
	spoil(a.f.Quarrels, quarrel(77, 77))
	spoil(a.f.Paid, pay(77, 77, 77))
	for _, x := range whole(a.f.Bills) {
		spoil(x.Stakes, api.Stake{Floor: 77, Parts: 77})
	}
	spoil(a.f.Bills, bill(77, 77, 77))
}

// R3: no argument is written to, nothing is remembered, and no result shares memory with an argument or with another one.
func TestValues(t *testing.T) {
	f, g := roomyOne(), roomyGiven()
	fresh := calls(roomyGiven())
	for i, c := range calls(g) {
		a, b := c.run(f), c.run(f)
		want := fresh[i].run(roomyOne())
		if !a.equal(want) || !b.equal(want) || a.e != api.OK {
			t.Error(c.name, a, b, want)
		}
		if !isAsBefore(f, g) {
			t.Fatal(c.name, "writes", wholeFloors(f), g)
		}
		a.spoil()
		if !isAsBefore(f, g) || !b.equal(want) {
			t.Fatal(c.name, "shares memory", b)
		}
		if z := c.run(f); !z.equal(want) {
			t.Error(c.name, "remembers", z)
		}
	}
}

// R3: what is told in one result does not share memory either.
func TestApart(t *testing.T) {
	f := owed(ints(1, 2, 3, 4, 5, 6), 1, -1, 2, -2, 3)
	all, _ := floor.Groups(f)
	if len(all) != 3 {
		t.Fatal(all)
	}
	for i, l := range all {
		spoil(l, 0)
		for k, other := range all {
			if k > i && (other[0] != 2*k+1 || other[1] != 2*k+2) {
				t.Error(i, k, other)
			}
		}
	}
	shared := []api.Stake{{Floor: 1, Parts: 2}, {Floor: 2, Parts: 3}}
	g := api.Floors{Ids: ints(1, 2, 3), Bills: []api.Bill{{Number: 1, Payer: 1, Pence: 5, Stakes: shared}, {Number: 2, Payer: 1, Pence: 5, Stakes: shared}}}
	y, _ := floor.Add(g, api.Bill{Number: 3, Payer: 1, Pence: 5, Stakes: shared})
	for i, x := range y.Bills {
		spoil(x.Stakes, api.Stake{})
		for k, other := range y.Bills {
			if k > i && (len(other.Stakes) != 2 || other.Stakes[0].Parts != 2) {
				t.Error(i, k, other)
			}
		}
	}
	if len(y.Bills) != 3 || shared[0].Parts != 2 {
		t.Error(y, shared)
	}
}

// R4: a nil list and an empty one are the same.
func TestNilAndEmpty(t *testing.T) {
	nils := api.Floors{Ids: ints(1, 2)}
	empty := api.Floors{Ids: ints(1, 2), Quarrels: []api.Quarrel{}, Bills: []api.Bill{}, Paid: []api.Payment{}}
	none := api.Floors{Ids: ints(), Quarrels: []api.Quarrel{}, Bills: []api.Bill{}, Paid: []api.Payment{}}
	g := given{payment: pay(1, 2, 1), bill: bill(1, 1, 1, 1, 1), tally: nine(), rates: rates(), split: quarrel(1, 2)}
	h := g
	h.some, h.list = ints(), []api.Payment{}
	with, without := calls(g), calls(h)
	for i := range with {
		for _, x := range [][2]api.Floors{{nils, empty}, {{}, none}} {
			a, b := with[i].run(x[0]), without[i].run(x[1])
			if !a.equal(b) {
				t.Error(with[i].name, a, b)
			}
		}
	}
}

// numbers is where all numbers of floors stand.
func numbers(f *api.Floors) (l []*int) {
	for i := range f.Ids {
		l = append(l, &f.Ids[i])
	}
	for i := range f.Quarrels {
		l = append(l, &f.Quarrels[i].A, &f.Quarrels[i].B)
	}
	for i := range f.Bills {
		x := &f.Bills[i]
		l = append(l, &x.Number, &x.Payer, &x.Pence)
		for k := range x.Stakes {
			l = append(l, &x.Stakes[k].Floor, &x.Stakes[k].Parts)
		}
	}
	for i := range f.Paid {
		l = append(l, &f.Paid[i].From, &f.Paid[i].To, &f.Paid[i].Pence)
	}
	return l
}

// R5, R6, R7: whatever the arguments are, each call ends, and does not panic; floors that are told are valid.
func TestAnyValue(t *testing.T) {
	r := &dice{state: 43}
	odd := ints(low, low+1, -1, 0, 1, 2, 3, 4, 5, 9, 10, 9999, 10000, 1000000, 1000001, huge-1, huge)
	near := func() int {
		if r.upTo(0, 9) == 0 {
			return r.one(odd)
		}
		return r.upTo(0, 5)
	}
	answered := 0
	for range 1500 {
		f := roomyOne()
		for _, p := range numbers(&f) {
			if r.upTo(0, 50) == 0 {
				*p = r.one(odd)
			}
		}
		g := given{
			number: near(), some: ints(near(), near()), list: pays(pay(near(), near(), near())), payment: pay(near(), near(), near()),
			bill: bill(near(), near(), near(), near(), near()), tally: nine(), rates: api.Rates{Skin: near(), Half: near()}, split: quarrel(near(), near()), mend: quarrel(near(), near()),
		}
		valid := floor.Check(f)
		for _, c := range calls(g) {
			z := c.run(f)
			if z.e == api.OK {
				answered++
			}
			if z.e == api.ErrPay && c.name == "Judge" {
				z.n = 0 // it tells the index with this error
			}
			if valid != api.OK && z.e != valid || z.e != api.OK && !z.isZero() {
				t.Fatal(c.name, f, g, z)
			}
			if e := floor.Check(z.f); e != api.OK {
				t.Fatal(c.name, f, g, z, e)
			}
		}
	}
	if answered < 4000 {
		t.Error("too few calls answer:", answered)
	}
}

// R7: lists however long are looked at, and each call ends.
func TestLongLists(t *testing.T) {
	many := 1 << 20
	long := chapter()
	long.Ids = slices.Repeat(ints(1), many)
	checkBad(t, "ids", long)
	long = chapter()
	long.Quarrels = slices.Repeat(quarrels(1, 2), many)
	checkBad(t, "quarrels", long)
	long = chapter()
	long.Bills = slices.Repeat(bills(bill(1, 1, 1, 1, 1)), many)
	checkBad(t, "bills", long)
	long = chapter()
	long.Paid = times(many, pay(1, 2, 1))
	checkBad(t, "paid", long)
	long = chapter()
	long.Bills[0].Stakes = slices.Repeat(bill(1, 1, 1, 1, 1).Stakes, many)
	checkBad(t, "stakes", long)
	y, e := floor.Add(chapter(), api.Bill{Number: 3, Payer: 1, Pence: 1, Stakes: long.Bills[0].Stakes})
	expectFloors(t, "bill", y, chapter(), e, api.ErrBill)
}
