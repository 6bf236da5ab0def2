package syntax

import (
	"latchkey/api"
	"latchkey/ident"
	"latchkey/values"
)

// unknown stands in a Fault for what isn't told.
const unknown = -1

// schemaFault is the first fault of s, its text's length not asked.
func schemaFault(s api.Schema) api.Fault {
	if len(s.Types) > api.MaxTypes || len(s.Conds) > api.MaxConds {
		return longFault()
	}
	for i, t := range s.Types {
		if f := typeFault(t); f.Err != api.OK {
			f.What = i
			return f
		}
	}
	for i, c := range s.Conds {
		if f := condFault(c); f.Err != api.OK {
			f.What = len(s.Types) + i
			return f
		}
	}
	return api.Fault{}
}

// longFault is of the schema as a whole.
func longFault() api.Fault {
	return api.Fault{Err: api.ErrLong, What: unknown, Part: unknown, Node: unknown}
}

// typeFault is the first fault of a type; which type that is, the caller knows.
func typeFault(t api.Type) api.Fault {
	if !ident.Name(t.Name) {
		return api.Fault{Err: api.ErrName, Part: unknown, Node: unknown}
	}
	if len(t.Relations) > api.MaxRelations {
		return api.Fault{Err: api.ErrLong, Part: unknown, Node: unknown}
	}
	for i, r := range t.Relations {
		if !ident.Name(r.Name) {
			return api.Fault{Err: api.ErrName, Part: i, Node: unknown}
		}
		if e, node := rewriteFault(r.Rewrite); e != api.OK {
			return api.Fault{Err: e, Part: i, Node: node}
		}
	}
	return api.Fault{}
}

// condFault is the first fault of a condition; which condition that is, the caller knows.
func condFault(c api.Cond) api.Fault {
	if !ident.Name(c.Name) {
		return api.Fault{Err: api.ErrName, Part: unknown, Node: unknown}
	}
	if len(c.Params) > api.MaxParams {
		return api.Fault{Err: api.ErrLong, Part: unknown, Node: unknown}
	}
	for i, p := range c.Params {
		if e := paramFault(p); e != api.OK {
			return api.Fault{Err: e, Part: i, Node: unknown}
		}
	}
	e, part := exprFault(c.Expr)
	switch {
	case e == api.OK:
		return api.Fault{}
	case part == unknown:
		return api.Fault{Err: e, Part: unknown, Node: unknown}
	}
	return api.Fault{Err: e, Part: len(c.Params) + part, Node: unknown}
}

func paramFault(p api.Param) api.Errno {
	switch {
	case !ident.Name(p.Name):
		return api.ErrName
	case !isKind(p.Kind):
		return api.ErrTree
	}
	return api.OK
}

// rewriteFault is the first fault of a rewrite, and at which node it is.
func rewriteFault(l []api.Node) (api.Errno, int) {
	if len(l) > api.MaxNodes {
		return api.ErrLong, unknown
	}
	o := unbegun()
	for i, n := range l {
		if e := o.fault(isNode(n.Kind)); e != api.OK {
			return e, i
		}
		if e := nodeFault(n); e != api.OK {
			return e, i
		}
		o.add(n.Kids)
	}
	return o.end(), o.count
}

// nodeFault is what is wrong with a node by itself.
func nodeFault(n api.Node) api.Errno {
	if !shaped(n) {
		return api.ErrTree
	}
	switch n.Kind {
	case api.NodeThis:
		return allowsFault(n.Allow)
	case api.NodeSame:
		return nameFault(n.Rel)
	case api.NodeFrom:
		return nameFault(n.Rel, n.From)
	}
	return api.OK
}

// shaped says whether a node has what its kind asks for, and nothing else. That a name is one, isn't asked here.
func shaped(n api.Node) bool {
	switch n.Kind {
	case api.NodeThis:
		return n.Rel == "" && n.From == "" && n.Kids == 0 && len(n.Allow) > 0
	case api.NodeSame:
		return n.From == "" && n.Kids == 0 && len(n.Allow) == 0
	case api.NodeFrom:
		return n.Kids == 0 && len(n.Allow) == 0
	}
	bare := n.Rel == "" && n.From == "" && len(n.Allow) == 0
	return bare && (n.Kids == 2 || n.Kids > 2 && n.Kind != api.NodeNot)
}

func allowsFault(l []api.Allow) api.Errno {
	if len(l) > api.MaxAllows {
		return api.ErrLong
	}
	for _, a := range l {
		if e := allowFault(a); e != api.OK {
			return e
		}
	}
	return api.OK
}

func allowFault(a api.Allow) api.Errno {
	switch {
	case a.All && a.Rel != "":
		return api.ErrTree
	case !ident.Name(a.Type), a.Rel != "" && !ident.Name(a.Rel), a.Cond != "" && !ident.Name(a.Cond):
		return api.ErrName
	}
	return api.OK
}

func nameFault(names ...string) api.Errno {
	for _, s := range names {
		if !ident.Name(s) {
			return api.ErrName
		}
	}
	return api.OK
}

// exprFault is the first fault of an expression, and at which part it is.
func exprFault(l []api.Part) (api.Errno, int) {
	if len(l) > api.MaxParts {
		return api.ErrLong, unknown
	}
	o := unbegun()
	for i, x := range l {
		if e := o.fault(isPart(x.Kind)); e != api.OK {
			return e, i
		}
		if e := partFault(x); e != api.OK {
			return e, i
		}
		o.add(operations[x.Kind].made)
	}
	return o.end(), o.count
}

// partFault is what is wrong with a part by itself.
func partFault(x api.Part) api.Errno {
	switch {
	case x.Kind != api.PartParam && x.Name != "", x.Kind != api.PartValue && !noValue(x.Value):
		return api.ErrTree
	case x.Kind == api.PartValue:
		return values.Check(x.Value)
	case x.Kind == api.PartParam:
		return nameFault(x.Name)
	}
	return api.OK
}

// noValue says whether a value is what stands where none belongs.
func noValue(v api.Value) bool {
	return v.Kind == api.ValNone && !v.Bool && v.Int == 0 && v.Real == 0 && v.Text == "" && len(v.Texts) == 0
}
