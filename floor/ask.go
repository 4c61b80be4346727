package floor

import (
	"slices"

	"aguador/api"
)

// asked is what a call is told beside the floors: the number of a bill, Ids of some floors, payments, and a quarrel.
type asked struct {
	number  int
	some    []int
	list    []api.Payment
	quarrel api.Quarrel
}

// question is what must hold before a call answers, and the error if it does not.
type question struct {
	holds func(h house, x asked) bool
	err   api.Errno
}

// What floors can be asked, in the order in which the chapter names the errors.
const (
	askFloors = iota
	askBill
	askSome
	askSettled
	askList
	askMorePaid
	askMoreBills
	askQuarrel
	askCount
)

func questions() [askCount]question {
	return [...]question{
		askFloors:    {func(h house, _ asked) bool { return valid(h.Floors) }, api.ErrFloors},
		askBill:      {func(h house, x asked) bool { return billAt(h.Floors, x.number) >= 0 }, api.ErrNone},
		askSome:      {func(h house, x asked) bool { return isRising(x.some) && areFloors(h.Floors, x.some...) }, api.ErrNone},
		askSettled:   {func(h house, _ asked) bool { return h.canSettle() }, api.ErrBad},
		askList:      {func(_ house, x asked) bool { return len(x.list) <= api.MaxPaid }, api.ErrFull},
		askMorePaid:  {func(h house, _ asked) bool { return len(h.Paid) < api.MaxPaid }, api.ErrFull},
		askMoreBills: {func(h house, _ asked) bool { return len(h.Bills) < api.MaxBills }, api.ErrFull},
		askQuarrel:   {func(h house, x asked) bool { return slices.Contains(h.Quarrels, x.quarrel) }, api.ErrNone},
	}
}

// begin returns the house at work, or the first error of the questions that a call asks; whether the floors are valid is always asked first, because the other questions rely on it.
func begin(f api.Floors, x asked, more ...int) (house, api.Errno) {
	all := questions()
	if q := all[askFloors]; !q.holds(house{Floors: f}, x) {
		return house{}, q.err
	}
	h := housed(f)
	for _, i := range more {
		if q := all[i]; !q.holds(h, x) {
			return house{}, q.err
		}
	}
	return h, api.OK
}
