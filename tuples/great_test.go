package tuples_test

import (
	"fmt"
	"strings"
	"testing"

	"latchkey/api"
)

// greatest is a schema with as many types, relations and conditions as there may be, one relation with 16 allowances, names of 32 bytes, and a condition with 16 parameters.
func greatest() string {
	var b strings.Builder
	n := times("n", 32)
	for i := range 32 {
		fmt.Fprintf(&b, "type t%d ", i)
		for k := range 31 {
			fmt.Fprintf(&b, "relation r%d: [t%d#r%d] ", k, (i+k)%32, (k+1)%31)
		}
		if i < 31 {
			b.WriteString("relation x: r0 ")
			continue
		}
		fmt.Fprintf(&b, "relation %s: [t0", n)
		for k := range 14 {
			fmt.Fprintf(&b, ", t%d with c%d", k, k)
		}
		fmt.Fprintf(&b, ", t31:* with %s] ", n)
	}
	for i := range 31 {
		fmt.Fprintf(&b, "cond c%d(): true ", i)
	}
	var params []string
	for i := range 16 {
		params = append(params, fmt.Sprintf("n%d: int", 100+i))
	}
	fmt.Fprintf(&b, "cond %s(%s): true", n, strings.Join(params, ", "))
	return b.String()
}

// P10.1: the greatest model: its first and last places, its last allowance with 16 arguments; and many tuples, one after the other.
func TestGreatestModel(t *testing.T) {
	m := model(t, greatest())
	n := times("n", 32)
	last := fact("t31:" + times("I", 64) + "#" + n + "@t31:* with " + n)
	wantFit(t, m, last, api.OK)
	wantFit(t, m, under(last, numbered(16)...), api.OK)
	wantFit(t, m, under(last, numbered(17)...), api.ErrArgs)
	wantFit(t, m, under(last, append(numbered(15), arg("n116", whole(1)))...), api.ErrParam)
	wantFit(t, m, under(last, append(numbered(15), arg("n115", text("1")))...), api.ErrKind)
	wantFit(t, m, fact("t31:1#"+n+"@t13:1 with c13"), api.OK)
	wantFit(t, m, fact("t31:1#"+n+"@t14:1 with c14"), api.ErrAllowed)
	wantFit(t, m, fact("t31:1#"+n+"@t32:1 with c14"), api.ErrSubject)
	wantFit(t, m, fact("t31:1#x@t0:1"), api.ErrRelation)
	wantFit(t, m, fact("t30:1#x@t0:1"), api.ErrAllowed)
	wantFit(t, m, fact("t32:1#x@t0:1"), api.ErrType)
	for i := range 1 << 16 {
		x := api.Tuple{Object: api.Object{Type: fmt.Sprint("t", i%32), Id: fmt.Sprint(i)}, Rel: fmt.Sprint("r", i%31), Subject: api.Subject{Type: fmt.Sprint("t", (i%32+i%31)%32), Id: "1", Rel: fmt.Sprint("r", (i%31+1)%31)}}
		wantFit(t, m, x, api.OK)
	}
}
