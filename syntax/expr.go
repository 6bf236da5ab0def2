package syntax

import "latchkey/api"

// exprReader reads an expression. What waits for a part behind it stands in a list, not in calls within one another: a text has room for more of that than a stack may have.
type exprReader struct {
	*place
	tree[api.Part]
	waiting []int // kinds of operations, or parenthesis
}

// parenthesis is one that is open; it is no kind of parts, and its rank, 0, is below all.
const parenthesis = 0

func (r *exprReader) read() {
	r.operand()
	for r.operation() {
		r.operand()
	}
}

// operand reads a value or a parameter, with all that stands ahead of it.
func (r *exprReader) operand() {
	for r.prefix() {
		r.step()
	}
	if t := r.token(); t.Kind == api.TokName {
		r.step()
		r.put(api.Part{Kind: api.PartParam, Name: t.Text}, 0)
		return
	}
	r.put(api.Part{Kind: api.PartValue, Value: r.value()}, 0)
}

// prefix has an open parenthesis, a minus that is no value's, or a not wait, if one stands here.
func (r *exprReader) prefix() bool {
	t := r.token()
	switch {
	case isMark(t, "("):
		r.wait(parenthesis)
	case isMark(t, "-") && !isNumber(r.following()):
		r.wait(api.PartMinus)
	case isWord(t, "not") && r.rank() <= rankNo:
		r.wait(api.PartNo)
	default:
		return false
	}
	return true
}

func (r *exprReader) wait(kind int) {
	r.waiting = append(r.waiting, kind)
}

// rank is that of what waits last.
func (r *exprReader) rank() int {
	if len(r.waiting) == 0 {
		return 0
	}
	return operations[r.waiting[len(r.waiting)-1]].rank
}

// operation goes on over the parentheses that end here to an operation between two parts, and has that wait; false, if the expression ends.
func (r *exprReader) operation() bool {
	for {
		if kind := between(r.token()); kind != 0 {
			r.settle(kind)
			r.step()
			r.wait(kind)
			return true
		}
		r.finish(1)
		if len(r.waiting) == 0 {
			return false
		}
		r.needMark(")")
		r.waiting = r.waiting[:len(r.waiting)-1]
	}
}

// between is the kind of the operation that a token is, where it stands between two parts; 0, if it is none.
func between(t api.Token) int {
	for kind, o := range operations {
		if o.made == 2 && (isMark(t, o.sign) || isWord(t, o.sign)) {
			return kind
		}
	}
	return 0
}

// settle makes all that an operation which stands here has as its first part.
func (r *exprReader) settle(kind int) {
	rank := operations[kind].rank
	r.finish(rank + 1)
	if rank == rankCompare && r.rank() == rankCompare {
		r.refuse(api.ErrSyntax)
	}
	r.finish(rank)
}

// finish makes the parts of what waits, from the last one back to the first whose rank is below this one.
func (r *exprReader) finish(rank int) {
	for r.rank() >= rank {
		last := len(r.waiting) - 1
		kind := r.waiting[last]
		r.waiting = r.waiting[:last]
		r.put(api.Part{Kind: kind}, operations[kind].made)
	}
}
