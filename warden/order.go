package warden

import (
	"aguador/api"
	"aguador/fire"
	"aguador/floor"
	"aguador/mix"
	"aguador/queue"
	"aguador/rounds"
	"aguador/spring"
	"aguador/tally"
	"aguador/town"
)

// kinds returns, for each kind of orders, what tells its value, and whether it holds.
func kinds() [api.OrderFire + 1]func(d *day, a, b int) (value int, is bool) {
	return [...]func(d *day, a, b int) (int, bool){
		api.OrderFails: (*day).fails,
		api.OrderLate:  (*day).isLate,
		api.OrderMixed: (*day).isMixed,
		api.OrderDry:   (*day).isDry,
		api.OrderFalse: (*day).isFalse,
		api.OrderOwes:  (*day).owes,
		api.OrderShare: (*day).mustShare,
		api.OrderFire:  (*day).areFew,
	}
}

// holds returns the value of an order, if it holds. What has an error does not hold.
func (d *day) holds(x api.Order) (value int, is bool) {
	caught(func() { value, is = kinds()[x.Kind](d, x.A, x.B) })
	if !is {
		return 0, false
	}
	return value, true
}

// holding returns the values of the orders that hold, by their Numbers.
func holding(l []api.Order, holds func(x api.Order) (value int, is bool)) map[int]int {
	values := map[int]int{}
	for _, x := range l {
		if value, is := holds(x); is {
			values[x.Number] = value
		}
	}
	return values
}

func (d *day) fails(fountain, need int) (int, bool) {
	return must(spring.Fails(d.fount(fountain).Spring, need)), true
}

func (d *day) isLate(comer, minute int) (int, bool) {
	known := must(queue.Sure(d.Dawn, comer, minute))
	return must(queue.Ends(d.Dawn, comer)).Hi, known != api.KnownYes
}

func (d *day) isMixed(vessel, fountain int) (int, bool) {
	known := must(d.pure(vessel, fountain))
	return must(mix.Holds(d.Mix, vessel, len(d.Mix.Acts))), known != api.KnownYes
}

func (d *day) isDry(home, _ int) (int, bool) { return must(rounds.Dry(d.Rounds, home, nil)), true }

func (d *day) isFalse(many, _ int) (int, bool) {
	n := must(tally.False(d.Tally))
	return n, n > many
}

func (d *day) owes(id, pence int) (int, bool) {
	at := first(d.Floors.Ids, api.ErrNone, func(x int) bool { return x == id })
	debt := -must(floor.Net(d.Floors))[at]
	return debt, debt > pence
}

func (d *day) mustShare(week, _ int) (int, bool) {
	known := must(town.Enough(d.Supply, week))
	return int(known), known != api.KnownYes
}

func (d *day) areFew(skins, minute int) (int, bool) {
	n := must(fire.By(d.Bell, minute))
	return n, n < skins
}
