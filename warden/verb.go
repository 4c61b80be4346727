package warden

import "aguador/api"

// need is the fewest and the most numbers that a verb needs.
type need [2]int

// verb is a word with the numbers that it needs, what they must be besides, the layers that it touches, and what it does.
type verb struct {
	word    string
	needs   need
	fits    func(numbers []int) bool
	touches []int
	do      func(d *day, n []int)
}

func verbs() [api.VerbAsk + 1]verb {
	return [...]verb{
		api.VerbRead:    {"read", need{6, 6}, always, []int{9}, (*day).read},
		api.VerbNote:    {"note", need{4, 4}, always, []int{2}, (*day).note},
		api.VerbCome:    {"come", need{4, 4}, always, []int{2}, (*day).come},
		api.VerbFill:    {"fill", need{3, 3}, always, []int{4}, (*day).fill},
		api.VerbPour:    {"pour", need{3, 3}, always, []int{4}, (*day).pour},
		api.VerbLose:    {"lose", need{2, 2}, always, []int{4}, (*day).lose},
		api.VerbRinse:   {"rinse", need{1, 1}, always, []int{4}, (*day).rinse},
		api.VerbTaste:   {"taste", need{6, 6}, always, []int{4}, (*day).taste},
		api.VerbSee:     {"see", need{5, 5}, always, []int{6}, (*day).see},
		api.VerbHire:    {"hire", need{4, 4 + api.MaxHomes}, hasFlag, []int{6}, (*day).hire},
		api.VerbDismiss: {"dismiss", need{1, 1}, always, []int{6}, (*day).dismiss},
		api.VerbNotch:   {"notch", need{1, 1}, always, []int{7}, (*day).notch},
		api.VerbBill:    {"bill", need{5, 3 + 2*api.MaxFloors}, hasPairs, []int{8}, (*day).bill},
		api.VerbPay:     {"pay", need{3, 3}, always, []int{8}, (*day).pay},
		api.VerbNeed:    {"need", need{4, 4}, always, []int{9}, (*day).need},
		api.VerbClaim:   {"claim", need{3, 3}, always, []int{10}, (*day).claim},
		api.VerbJoin:    {"join", need{3, 3}, hasFlag, []int{10}, (*day).join},
		api.VerbStop:    {"stop", need{1, 1}, always, []int{10}, (*day).stop},
		api.VerbClose:   {"close", need{1, 1}, always, []int{3, 6, 10}, (*day).close},
		api.VerbGuard:   {"guard", need{2, 2}, always, []int{4, 12}, (*day).guard},
		api.VerbOrder:   {"order", need{4, 4}, always, []int{12}, (*day).order},
		api.VerbDrop:    {"drop", need{1, 1}, always, []int{12}, (*day).drop},
		api.VerbAsk:     {"ask", need{3, 3}, always, nil, (*day).ask},
	}
}

func always([]int) bool { return true }

// hasFlag reports whether the third number, which tells of a donkey or of a full skin, is no or yes.
func hasFlag(numbers []int) bool { return within(span(0, 1), numbers[2]) }

// hasPairs reports whether there are pairs behind the first three numbers, with none left over.
func hasPairs(numbers []int) bool { return len(numbers)%2 == 1 }

// isDeed reports whether a deed is valid.
func isDeed(d api.Deed) bool {
	if !within(span(api.VerbRead, api.VerbAsk), d.Verb) {
		return false
	}
	v, many := verbs()[d.Verb], len(d.Args)
	return v.needs == need{min(v.needs[0], many), max(v.needs[1], many)} &&
		within(span(0, api.MaxSaid), d.Args...) && v.fits(d.Args)
}
