package floor_test

import (
	"math"
	"slices"
	"testing"

	"aguador/api"
	"aguador/floor"
)

const (
	huge = math.MaxInt
	low  = math.MinInt
)

func ints(l ...int) []int { return l }

func pay(from, to, pence int) api.Payment { return api.Payment{From: from, To: to, Pence: pence} }

func pays(l ...api.Payment) []api.Payment { return l }

// times is a payment so many times.
func times(many int, x api.Payment) []api.Payment { return slices.Repeat(pays(x), many) }

func quarrel(a, b int) api.Quarrel { return api.Quarrel{A: a, B: b} }

// quarrels are those of pairs of numbers.
func quarrels(l ...int) (all []api.Quarrel) {
	for i := 0; i < len(l); i += 2 {
		all = append(all, quarrel(l[i], l[i+1]))
	}
	return all
}

// bill is one with stakes, which are pairs of a floor and its parts.
func bill(number, payer, pence int, stakes ...int) api.Bill {
	x := api.Bill{Number: number, Payer: payer, Pence: pence}
	for i := 0; i < len(stakes); i += 2 {
		x.Stakes = append(x.Stakes, api.Stake{Floor: stakes[i], Parts: stakes[i+1]})
	}
	return x
}

func bills(l ...api.Bill) []api.Bill { return l }

// chapter is the floors of the chapter's examples, with quarrels.
func chapter(l ...int) api.Floors {
	return api.Floors{Ids: ints(1, 2, 3, 4), Quarrels: quarrels(l...), Bills: bills(bill(1, 1, 100, 1, 1, 2, 1, 3, 1), bill(2, 2, 60, 3, 1, 4, 2))}
}

// owed is floors of these Ids that are owed so much; the last one is owed what is left to 0. What the floors get is passed on from floor to floor.
func owed(ids []int, l ...int) api.Floors {
	f := api.Floors{Ids: ids}
	sum := 0
	for i := range len(ids) - 1 {
		sum += l[i]
		switch {
		case sum > 0:
			f.Paid = append(f.Paid, pay(ids[i], ids[i+1], sum))
		case sum < 0:
			f.Paid = append(f.Paid, pay(ids[i+1], ids[i], -sum))
		}
	}
	return f
}

// with is floors that quarrel.
func with(f api.Floors, l ...int) api.Floors {
	f.Quarrels = quarrels(l...)
	return f
}

// fullPaid is floors with as many payments as there can be, fullBills with as many bills.
func fullPaid() api.Floors {
	f := chapter()
	f.Paid = times(12, pay(1, 2, 1))
	return f
}

func fullBills() api.Floors {
	f := chapter()
	for n := 3; n <= 10; n++ {
		f.Bills = append(f.Bills, bill(2*n, 1, 1, 1, 1))
	}
	return f
}

// odd is floors that are not valid.
func odd() api.Floors { return api.Floors{Ids: ints(0)} }

// nine is a tally that comes to 9 pence for sure.
func nine() api.Tally { return api.Tally{Id: 1, House: 1, Stock: ints(1, 2), Foil: ints(1, 2)} }

func rates() api.Rates { return api.Rates{Skin: 6, Half: 3, Barrel: 40, Paid: 10} }

func sameBill(a, b api.Bill) bool {
	return a.Number == b.Number && a.Payer == b.Payer && a.Pence == b.Pence && slices.Equal(a.Stakes, b.Stakes)
}

func same(a, b api.Floors) bool {
	return slices.Equal(a.Ids, b.Ids) && slices.Equal(a.Quarrels, b.Quarrels) && slices.Equal(a.Paid, b.Paid) && slices.EqualFunc(a.Bills, b.Bills, sameBill)
}

// copied shares no memory with the floors.
func copied(f api.Floors) api.Floors {
	f.Ids, f.Quarrels, f.Paid, f.Bills = slices.Clone(f.Ids), slices.Clone(f.Quarrels), slices.Clone(f.Paid), slices.Clone(f.Bills)
	for i := range f.Bills {
		f.Bills[i].Stakes = slices.Clone(f.Bills[i].Stakes)
	}
	return f
}

// told is all results of a call: of Can and Alone, n is 1 if it is so; of Judge, n is the index.
type told struct {
	e      api.Errno
	n      int
	l      []int
	pays   []api.Payment
	groups [][]int
	f      api.Floors
}

func (a told) equal(b told) bool {
	return a.e == b.e && a.n == b.n && slices.Equal(a.l, b.l) && slices.Equal(a.pays, b.pays) && slices.EqualFunc(a.groups, b.groups, slices.Equal[[]int]) && same(a.f, b.f)
}

// isZero reports whether all that is told beside the error is zero.
func (a told) isZero() bool { return a.equal(told{e: a.e}) }

// given is what the calls are told beside the floors.
type given struct {
	number  int
	some    []int
	list    []api.Payment
	payment api.Payment
	bill    api.Bill
	tally   api.Tally
	rates   api.Rates
	split   api.Quarrel
	mend    api.Quarrel
}

// call is one of the functions, and what is asked of it.
type call struct {
	name string
	run  func(f api.Floors) told
}

func is(ok bool, e api.Errno) told {
	if ok {
		return told{e: e, n: 1}
	}
	return told{e: e}
}

// calls has each function of the chapter, with these arguments.
func calls(g given) []call {
	return append(changes(g), []call{
		{"Check", func(f api.Floors) told { return told{e: floor.Check(f)} }},
		{"Shares", func(f api.Floors) told { l, e := floor.Shares(f, g.number); return told{e: e, l: l} }},
		{"Net", func(f api.Floors) told { l, e := floor.Net(f); return told{e: e, l: l} }},
		{"Can", func(f api.Floors) told { return is(floor.Can(f)) }},
		{"Fewest", func(f api.Floors) told { n, e := floor.Fewest(f); return told{e: e, n: n} }},
		{"Settle", func(f api.Floors) told { l, e := floor.Settle(f); return told{e: e, pays: l} }},
		{"Cheapest", func(f api.Floors) told { n, e := floor.Cheapest(f); return told{e: e, n: n} }},
		{"Count", func(f api.Floors) told { n, e := floor.Count(f); return told{e: e, n: n} }},
		{"Sure", func(f api.Floors) told { l, e := floor.Sure(f); return told{e: e, pays: l} }},
		{"Groups", func(f api.Floors) told { l, e := floor.Groups(f); return told{e: e, groups: l} }},
		{"Alone", func(f api.Floors) told { return is(floor.Alone(f, g.some)) }},
		{"Judge", func(f api.Floors) told { l, at, e := floor.Judge(f, g.list); return told{e: e, l: l, n: at} }},
	}...)
}

func changes(g given) []call {
	return []call{
		{"Pay", func(f api.Floors) told { y, e := floor.Pay(f, g.payment); return told{e: e, f: y} }},
		{"Add", func(f api.Floors) told { y, e := floor.Add(f, g.bill); return told{e: e, f: y} }},
		{"OfTally", func(f api.Floors) told {
			y, e := floor.OfTally(f, g.bill, g.tally, g.rates)
			return told{e: e, f: y}
		}},
		{"Strike", func(f api.Floors) told { y, e := floor.Strike(f, g.number); return told{e: e, f: y} }},
		{"Split", func(f api.Floors) told { y, e := floor.Split(f, g.split); return told{e: e, f: y} }},
		{"Mend", func(f api.Floors) told { y, e := floor.Mend(f, g.mend); return told{e: e, f: y} }},
	}
}

// expect checks the error of some calls, and that nothing is told beside it.
func expect(t *testing.T, f api.Floors, g given, e api.Errno, names ...string) {
	t.Helper()
	many := 0
	for _, c := range calls(g) {
		if !slices.Contains(names, c.name) {
			continue
		}
		many++
		if z := c.run(f); z.e != e || e != api.OK && !z.isZero() {
			t.Error(c.name, f, g, z)
		}
	}
	if many != len(names) {
		t.Error("no such calls:", names)
	}
}

// settling has the names of the calls that need floors that can settle.
func settling() []string {
	return []string{"Fewest", "Settle", "Cheapest", "Count", "Sure", "Groups"}
}
