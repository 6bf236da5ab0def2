package conds

import (
	"slices"

	"latchkey/api"
	"latchkey/reals"
	"latchkey/values"
)

// worth is what a part comes to; nil, if it comes to none.
type worth interface {
	value() api.Value
}

type (
	truth    bool
	whole    int64
	fraction float32
	word     string
	words    []string
)

func (x truth) value() api.Value    { return api.Value{Kind: api.ValBool, Bool: bool(x)} }
func (x whole) value() api.Value    { return api.Value{Kind: api.ValInt, Int: int64(x)} }
func (x fraction) value() api.Value { return api.Value{Kind: api.ValReal, Real: float32(x)} }
func (x word) value() api.Value     { return api.Value{Kind: api.ValText, Text: string(x)} }
func (x words) value() api.Value    { return api.Value{Kind: api.ValTexts, Texts: x} }

// worthOf is what a value that may be comes to.
func worthOf(v api.Value) worth {
	switch v.Kind {
	case api.ValBool:
		return truth(v.Bool)
	case api.ValInt:
		return whole(v.Int)
	case api.ValReal:
		return fraction(v.Real)
	case api.ValText:
		return word(v.Text)
	}
	return words(v.Texts)
}

// worths are what c's parts come to with arguments, by their numbers.
func worths(c api.Cond, args []api.Arg) []worth {
	return settle(c.Expr, func(k int, of [2]worth) worth {
		switch x := c.Expr[k]; x.Kind {
		case api.PartValue:
			return worthOf(x.Value)
		case api.PartParam:
			return known(c, args, x.Name)
		case api.PartMinus:
			return opposite(of[0])
		case api.PartNo:
			return no(of[0])
		default:
			return joined(x.Kind, of[0], of[1])
		}
	})
}

// joined is what a part comes to that is made of two.
func joined(kind int, a, b worth) worth {
	if a == nil || b == nil {
		return nil
	}
	switch kind {
	case api.PartTimes, api.PartOver, api.PartPlus, api.PartLess:
		return reckoned(kind, a, b)
	case api.PartIn:
		in, _ := values.In(a.value(), b.value())
		return truth(in)
	case api.PartBoth:
		return truth(isTrue(a) && isTrue(b))
	case api.PartEither:
		return truth(isTrue(a) || isTrue(b))
	}
	return truth(compared(kind, a, b))
}

func isTrue(x worth) bool {
	yes, ok := x.(truth)
	return ok && bool(yes)
}

func no(x worth) worth {
	if x == nil {
		return nil
	}
	return truth(!isTrue(x))
}

// opposite is what stands on the other side of 0.
func opposite(x worth) worth {
	switch n := x.(type) {
	case whole:
		return reckonedWhole(api.PartLess, 0, n)
	case fraction:
		// 0 less a nought would lose the sign, a product keeps it.
		return fraction(reals.Do(api.PartTimes, float32(n), -1))
	}
	return nil
}

// reckoned is what comes of two numbers.
func reckoned(kind int, a, b worth) worth {
	m, ok := a.(whole)
	n, both := b.(whole)
	if ok && both {
		return reckonedWhole(kind, m, n)
	}
	return fraction(reals.Do(kind, toReal(a), toReal(b)))
}

// toReal is a number as a real; what else there is the kinds have kept away.
func toReal(x worth) float32 {
	switch n := x.(type) {
	case whole:
		return reals.FromInt(int64(n))
	case fraction:
		return float32(n)
	}
	return 0
}

// compared is how a comparison comes out. Beside nan there is no order, and nothing holds but that both differ.
func compared(kind int, a, b worth) bool {
	order, ok := values.Compare(a.value(), b.value())
	if !ok {
		return kind == api.PartIsNot
	}
	switch kind {
	case api.PartIs:
		return order == 0
	case api.PartIsNot:
		return order != 0
	case api.PartBelow:
		return order < 0
	case api.PartAtMost:
		return order <= 0
	case api.PartAbove:
		return order > 0
	}
	return order >= 0
}

// folded is an expression in which each part that has come to something, and isn't within another one that has, stands as a value.
func folded(expr []api.Part, all []worth) []api.Part {
	sizes := settle(expr, func(_ int, of [2]int) int { return 1 + of[0] + of[1] })
	var left []api.Part
	for k := 0; k < len(expr); {
		if all[k] == nil {
			// Only what such a part has is taken over: an empty list may have room behind it that is somebody else's.
			left = append(left, api.Part{Kind: expr[k].Kind, Name: expr[k].Name})
			k++
			continue
		}
		v := all[k].value()
		v.Texts = slices.Clone(v.Texts)
		left = append(left, api.Part{Kind: api.PartValue, Value: v})
		k += sizes[k]
	}
	return left
}
