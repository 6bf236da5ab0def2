package syntax

import "latchkey/api"

// operation says of a kind of parts how tight it binds, of how many parts it is made, and how it is written.
type operation struct {
	rank int
	made int
	sign string
}

// rankNo and rankCompare are the ranks at which the grammar is no mere ladder: a not stands behind nothing tighter, and comparisons don't stand in a row.
const (
	rankNo      = 3
	rankCompare = 4
)

var operations = [...]operation{
	api.PartValue:   {rank: 8},
	api.PartParam:   {rank: 8},
	api.PartMinus:   {7, 1, "-"},
	api.PartNo:      {rankNo, 1, "not"},
	api.PartTimes:   {6, 2, "*"},
	api.PartOver:    {6, 2, "/"},
	api.PartPlus:    {5, 2, "+"},
	api.PartLess:    {5, 2, "-"},
	api.PartIs:      {rankCompare, 2, "=="},
	api.PartIsNot:   {rankCompare, 2, "!="},
	api.PartBelow:   {rankCompare, 2, "<"},
	api.PartAtMost:  {rankCompare, 2, "<="},
	api.PartAbove:   {rankCompare, 2, ">"},
	api.PartAtLeast: {rankCompare, 2, ">="},
	api.PartIn:      {rankCompare, 2, "in"},
	api.PartBoth:    {2, 2, "and"},
	api.PartEither:  {1, 2, "or"},
}

// joins are the words between the kids of a node, by its kind.
var joins = [...]string{
	api.NodeOr:  "or",
	api.NodeAnd: "and",
	api.NodeNot: "not",
}

// kinds are the names of the kinds of values that a parameter may have.
var kinds = [...]string{
	api.ValBool:  "bool",
	api.ValInt:   "int",
	api.ValReal:  "real",
	api.ValText:  "text",
	api.ValTexts: "texts",
}

func isPart(kind int) bool {
	return kind >= api.PartValue && kind <= api.PartEither
}

func isNode(kind int) bool {
	return kind >= api.NodeThis && kind <= api.NodeNot
}

func isKind(kind int) bool {
	return kind >= api.ValBool && kind <= api.ValTexts
}
