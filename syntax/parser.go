package syntax

import (
	"latchkey/api"
	"latchkey/tokens"
)

// parser reads what a schema is made of, each at the place where it stands.
type parser struct {
	place
}

// read has a text read as a whole, and tells where that is refused.
func read(text string, whole func(p *parser)) (spot api.Spot) {
	list, spot := tokens.Scan(text)
	if spot.Err != api.OK {
		return spot
	}
	defer func() {
		if r := recover(); r != nil {
			spot = r.(api.Spot)
		}
	}()
	p := &parser{place{row: list}}
	whole(p)
	if p.token().Kind != api.TokEnd {
		p.refuse(api.ErrSyntax)
	}
	return api.Spot{}
}

func (p *parser) schema() api.Schema {
	var s api.Schema
	for {
		switch {
		case p.word("type"):
			s.Types = append(s.Types, p.typed())
		case p.word("cond"):
			s.Conds = append(s.Conds, p.cond())
		default:
			return s
		}
	}
}

func (p *parser) typed() api.Type {
	t := api.Type{Name: p.name()}
	for p.word("relation") {
		name := p.name()
		p.needMark(":")
		t.Relations = append(t.Relations, api.Relation{Name: name, Rewrite: p.rewrite()})
	}
	return t
}

func (p *parser) cond() api.Cond {
	c := api.Cond{Name: p.name()}
	p.needMark("(")
	if !p.mark(")") {
		c.Params = p.params()
	}
	p.needMark(":")
	c.Expr = p.expr()
	return c
}

func (p *parser) params() []api.Param {
	l := []api.Param{p.param()}
	for p.mark(",") {
		l = append(l, p.param())
	}
	p.needMark(")")
	return l
}

func (p *parser) param() api.Param {
	name := p.name()
	p.needMark(":")
	return api.Param{Name: name, Kind: p.kind()}
}

func (p *parser) kind() int {
	t := p.token()
	for kind := api.ValBool; kind <= api.ValTexts; kind++ {
		if t.Kind == api.TokName && t.Text == kinds[kind] {
			p.step()
			return kind
		}
	}
	p.refuse(api.ErrSyntax)
	return api.ValNone
}

func (p *parser) rewrite() []api.Node {
	r := rewriteReader{place: &p.place, tree: tree[api.Node]{most: api.MaxNodes}}
	r.read()
	return r.nodes
}

func (p *parser) expr() []api.Part {
	r := exprReader{place: &p.place, tree: tree[api.Part]{most: api.MaxParts}}
	r.read()
	return r.nodes
}
