package conds

import (
	"slices"

	"latchkey/api"
)

// made is of how many parts one of the kind is made.
func made(kind int) int {
	switch kind {
	case api.PartValue, api.PartParam:
		return 0
	case api.PartMinus, api.PartNo:
		return 1
	}
	return 2
}

// settle works something out for each part of an expression, of what was worked out for the parts of which it is made. It goes from the last part to the first, since these stand behind it.
func settle[T any](expr []api.Part, one func(k int, of [2]T) T) []T {
	all := make([]T, len(expr))
	// free are those that no part was made of as yet, the one furthest ahead on top.
	var free []T
	for k, x := range slices.Backward(expr) {
		var of [2]T
		for i := range made(x.Kind) {
			top := len(free) - 1
			of[i] = free[top]
			free = free[:top]
		}
		all[k] = one(k, of)
		free = append(free, all[k])
	}
	return all
}

// kindFault is why the kinds of c's parts don't fit together, and at which part.
func kindFault(c api.Cond) (api.Errno, int) {
	err, at := api.OK, 0
	kinds := settle(c.Expr, func(k int, of [2]int) int {
		kind, e := partKind(c, c.Expr[k], of)
		if e != api.OK {
			// The first part is looked at last, so the last one that is wrong is the first by number.
			err, at = e, k
		}
		return kind
	})
	if err == api.OK && kinds[0] != api.ValBool {
		return api.ErrKind, 0
	}
	return err, at
}

// partKind is the kind of a part that is made of those; ValNone, if it has none. The error is of a part that is wrong itself.
func partKind(c api.Cond, x api.Part, of [2]int) (int, api.Errno) {
	kind, err := api.ValNone, api.ErrKind
	switch {
	case x.Kind == api.PartValue:
		kind = x.Value.Kind
	case x.Kind == api.PartParam:
		kind, err = paramKind(c.Params, x.Name), api.ErrParam
	case slices.Contains(of[:made(x.Kind)], api.ValNone):
		return api.ValNone, api.OK
	default:
		kind = resultKind(x.Kind, of)
	}
	if kind == api.ValNone {
		return kind, err
	}
	return kind, api.OK
}

// resultKind is the kind of what comes of such kinds; ValNone, if nothing does.
func resultKind(part int, of [2]int) int {
	switch part {
	case api.PartMinus:
		return numberKind(of[0], of[0])
	case api.PartTimes, api.PartOver, api.PartPlus, api.PartLess:
		return numberKind(of[0], of[1])
	case api.PartNo:
		return boolIf(of == [2]int{api.ValBool})
	case api.PartBoth, api.PartEither:
		return boolIf(of == [2]int{api.ValBool, api.ValBool})
	case api.PartIn:
		return boolIf(of == [2]int{api.ValText, api.ValTexts})
	}
	return boolIf(of[0] == of[1] || numberKind(of[0], of[1]) != api.ValNone)
}

// numberKind is the kind of what is reckoned of two numbers; ValNone, if one of them is none.
func numberKind(a, b int) int {
	switch {
	case !isNumber(a) || !isNumber(b):
		return api.ValNone
	case a == b:
		return a
	}
	return api.ValReal
}

func isNumber(kind int) bool {
	return kind == api.ValInt || kind == api.ValReal
}

func boolIf(fits bool) int {
	if fits {
		return api.ValBool
	}
	return api.ValNone
}
