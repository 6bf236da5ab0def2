package syntax

import (
	"strings"

	"latchkey/api"
	"latchkey/reals"
	"latchkey/values"
)

// sheet takes an own text piece by piece. Behind the piece with which it is too long it takes no more, so that no great tree is written out to be refused.
type sheet struct {
	strings.Builder
}

func (s *sheet) put(pieces ...string) {
	for _, x := range pieces {
		if !s.long() {
			s.WriteString(x)
		}
	}
}

func (s *sheet) long() bool {
	return s.Len() > api.MaxSource
}

// whole is what was put, if it isn't too long.
func (s *sheet) whole() (string, api.Errno) {
	if s.long() {
		return "", api.ErrLong
	}
	return s.String(), api.OK
}

// written is a schema's own text, or its first fault.
func written(s api.Schema) (string, api.Fault) {
	if f := schemaFault(s); f.Err != api.OK {
		return "", f
	}
	var out sheet
	for _, t := range s.Types {
		out.typed(t)
	}
	for _, c := range s.Conds {
		out.cond(c)
	}
	text, e := out.whole()
	if e != api.OK {
		return "", longFault()
	}
	return text, api.Fault{}
}

func (s *sheet) typed(t api.Type) {
	s.put("type ", t.Name, "\n")
	for _, r := range t.Relations {
		s.put("  relation ", r.Name, ": ")
		s.rewrite(r.Rewrite)
		s.put("\n")
	}
}

func (s *sheet) cond(c api.Cond) {
	s.put("cond ", c.Name, "(")
	for i, p := range c.Params {
		s.comma(i)
		s.put(p.Name, ": ", kinds[p.Kind])
	}
	s.put("): ")
	s.expr(c.Expr)
	s.put("\n")
}

// comma stands ahead of all but the first of a list.
func (s *sheet) comma(i int) {
	if i > 0 {
		s.put(", ")
	}
}

func (s *sheet) rewrite(l []api.Node) {
	if !s.long() {
		s.node(l, 0)
	}
}

// node writes the tree that begins at a node, and answers where the next one begins.
func (s *sheet) node(l []api.Node, at int) int {
	n := l[at]
	at++
	switch n.Kind {
	case api.NodeThis:
		s.allows(n.Allow)
	case api.NodeSame:
		s.put(n.Rel)
	case api.NodeFrom:
		s.put(n.Rel, " from ", n.From)
	default:
		for i := range n.Kids {
			if i > 0 {
				s.put(" ", joins[n.Kind], " ")
			}
			at = s.kid(l, at)
		}
	}
	return at
}

// kid writes the tree of a kid as node does.
func (s *sheet) kid(l []api.Node, at int) int {
	if l[at].Kids == 0 {
		return s.node(l, at)
	}
	s.put("(")
	at = s.node(l, at)
	s.put(")")
	return at
}

func (s *sheet) allows(l []api.Allow) {
	s.put("[")
	for i, a := range l {
		s.comma(i)
		s.put(a.Type)
		if a.All {
			s.put(":*")
		}
		if a.Rel != "" {
			s.put("#", a.Rel)
		}
		if a.Cond != "" {
			s.put(" with ", a.Cond)
		}
	}
	s.put("]")
}

func (s *sheet) expr(l []api.Part) {
	if !s.long() {
		s.part(l, 0)
	}
}

// part writes the tree that begins at a part, and answers where the next one begins.
func (s *sheet) part(l []api.Part, at int) int {
	x := l[at]
	at++
	sign := operations[x.Kind].sign
	switch x.Kind {
	case api.PartValue:
		text, _ := values.Text(x.Value)
		s.put(text)
	case api.PartParam:
		s.put(x.Name)
	case api.PartMinus:
		s.put(sign)
		at = s.first(x.Kind, l, at)
	case api.PartNo:
		s.put(sign, " ")
		at = s.first(x.Kind, l, at)
	default:
		at = s.first(x.Kind, l, at)
		s.put(" ", sign, " ")
		at = s.second(x.Kind, l, at)
	}
	return at
}

// first writes the first of the parts, or the only one, of which one of the kind is made.
func (s *sheet) first(kind int, l []api.Part, at int) int {
	rank, own := operations[kind].rank, operations[l[at].Kind].rank
	apart := own < rank || own == rank && rank == rankCompare || kind == api.PartMinus && takesMinus(l[at])
	return s.apart(apart, l, at)
}

// second writes the second of the parts of which one of the kind is made.
func (s *sheet) second(kind int, l []api.Part, at int) int {
	return s.apart(operations[l[at].Kind].rank <= operations[kind].rank, l, at)
}

// apart writes a tree as part does, in parentheses or without.
func (s *sheet) apart(yes bool, l []api.Part, at int) int {
	if !yes {
		return s.part(l, at)
	}
	s.put("(")
	at = s.part(l, at)
	s.put(")")
	return at
}

// takesMinus says whether a part is a number to which a minus right ahead of it would belong.
func takesMinus(x api.Part) bool {
	v := x.Value
	switch v.Kind {
	case api.ValInt:
		return v.Int >= 0
	case api.ValReal:
		// nan stands behind all others in the order of reals, and -0 ahead of 0.
		return v.Real == v.Real && reals.Compare(v.Real, 0) >= 0
	}
	return false
}
