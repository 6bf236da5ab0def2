package tuples_test

import (
	"encoding/binary"
	"regexp"
	"slices"
	"strconv"
	"strings"

	"latchkey/api"
	"latchkey/reals"
	"latchkey/values"
)

// What the chapter says, said another way than the package says it: texts by patterns, bytes by hand, a model by its schema.

const (
	namePart = `([a-z][a-z0-9_]{0,31})`
	idPart   = `([A-Za-z0-9_.=+/|~-]{1,64})`
	textPart = `"(?:[^"\\]|\\.)*"`
	literal  = `(?:` + textPart + `|\[(?:` + textPart + `(?:, ` + textPart + `)*)?\]|[^"\[\],{} ]+)`
	argPart  = namePart + `: (` + literal + `)`
)

var (
	names    = regexp.MustCompile(`\A` + namePart + `\z`)
	ids      = regexp.MustCompile(`\A` + idPart + `\z`)
	args     = regexp.MustCompile(`(?s)` + argPart)
	argLists = regexp.MustCompile(`(?s)\A` + argPart + `(?:, ` + argPart + `)*\z`)
	facts    = regexp.MustCompile(`(?s)\A` + namePart + `:` + idPart + `#` + namePart + `@` + namePart + `:(?:(\*)|` + idPart + `(?:#` + namePart + `)?)(?: with ` + namePart + `(?:\{(.+)\})?)?\z`)
)

func isName(s string) bool {
	word := slices.Contains(strings.Fields("type relation cond or and not from with in true false nan inf"), s)
	return names.MatchString(s) && !word
}

func isId(s string) bool { return ids.MatchString(s) }

func isSubject(s api.Subject) bool {
	return isName(s.Type) && (isId(s.Id) && (s.Rel == "" || isName(s.Rel)) || s.Id == "*" && s.Rel == "")
}

func argsMayBe(l []api.Arg) bool {
	for i, a := range l {
		if !isName(a.Name) || values.Check(a.Value) != api.OK || i > 0 && a.Name <= l[i-1].Name {
			return false
		}
	}
	return len(l) <= 16
}

func mayBe(x api.Tuple) bool {
	if x.Cond == "" && len(x.Args) > 0 || x.Cond != "" && !isName(x.Cond) {
		return false
	}
	return isName(x.Object.Type) && isId(x.Object.Id) && isName(x.Rel) && isSubject(x.Subject) && argsMayBe(x.Args)
}

func quoted(s string) string {
	q := `"`
	for _, c := range []byte(s) {
		switch {
		case c == '"' || c == '\\':
			q += `\` + string(rune(c))
		case c == '\n':
			q += `\n`
		case c < 32 || c > 126:
			q += `\x` + string("0123456789abcdef"[c/16]) + string("0123456789abcdef"[c%16])
		default:
			q += string(rune(c))
		}
	}
	return q + `"`
}

func literalOf(v api.Value) string {
	switch v.Kind {
	case api.ValBool:
		return strconv.FormatBool(v.Bool)
	case api.ValInt:
		return strconv.FormatInt(v.Int, 10)
	case api.ValReal:
		return reals.Text(v.Real)
	case api.ValText:
		return quoted(v.Text)
	}
	var l []string
	for _, s := range v.Texts {
		l = append(l, quoted(s))
	}
	return "[" + strings.Join(l, ", ") + "]"
}

// textOf writes a tuple, whether it may be or not.
func textOf(x api.Tuple) string {
	s := x.Object.Type + ":" + x.Object.Id + "#" + x.Rel + "@" + x.Subject.Type + ":" + x.Subject.Id
	if x.Subject.Rel != "" {
		s += "#" + x.Subject.Rel
	}
	if x.Cond != "" {
		s += " with " + x.Cond
	}
	var l []string
	for _, a := range x.Args {
		l = append(l, a.Name+": "+literalOf(a.Value))
	}
	if l != nil {
		s += "{" + strings.Join(l, ", ") + "}"
	}
	return s
}

// parsedOf reads a tuple by patterns.
func parsedOf(s string) (api.Tuple, bool) {
	p := facts.FindStringSubmatch(s)
	if p == nil {
		return api.Tuple{}, false
	}
	x := api.Tuple{Object: api.Object{Type: p[1], Id: p[2]}, Rel: p[3], Subject: api.Subject{Type: p[4], Id: p[5] + p[6], Rel: p[7]}, Cond: p[8]}
	if p[9] != "" && !argLists.MatchString(p[9]) {
		return api.Tuple{}, false
	}
	for _, q := range args.FindAllStringSubmatch(p[9], -1) {
		v, e := values.Parse(q[2])
		if e != api.OK {
			return api.Tuple{}, false
		}
		x.Args = append(x.Args, arg(q[1], v))
	}
	if !mayBe(x) {
		return api.Tuple{}, false
	}
	return x, true
}

func withText(b []byte, s string) []byte {
	return append(binary.AppendUvarint(b, uint64(len(s))), s...)
}

func bytesOfValue(v api.Value) []byte {
	b := []byte{byte(v.Kind)}
	switch v.Kind {
	case api.ValBool:
		return append(b, byte(strings.Index("ft", literalOf(v)[:1])))
	case api.ValInt:
		return binary.AppendVarint(b, v.Int)
	case api.ValReal:
		return binary.BigEndian.AppendUint32(b, reals.Key(v.Real))
	case api.ValText:
		return withText(b, v.Text)
	}
	b = binary.AppendUvarint(b, uint64(len(v.Texts)))
	for _, s := range v.Texts {
		b = withText(b, s)
	}
	return b
}

// bytesOf writes a tuple's bytes, whether it may be or not.
func bytesOf(x api.Tuple) []byte {
	var b []byte
	for _, s := range fields(x) {
		b = withText(b, s)
	}
	b = binary.AppendUvarint(b, uint64(len(x.Args)))
	for _, a := range x.Args {
		b = withText(withText(b, a.Name), string(bytesOfValue(a.Value)))
	}
	return b
}

// fields are a tuple's, but for its Args, in the order of its bytes.
func fields(x api.Tuple) []string {
	return []string{x.Object.Type, x.Object.Id, x.Rel, x.Subject.Type, x.Subject.Id, x.Subject.Rel, x.Cond}
}

// ofFields is the tuple with these fields.
func ofFields(l []string) api.Tuple {
	return api.Tuple{Object: api.Object{Type: l[0], Id: l[1]}, Rel: l[2], Subject: api.Subject{Type: l[3], Id: l[4], Rel: l[5]}, Cond: l[6]}
}

// decodedOf reads bytes piece by piece, as loosely as it can, and then asks whether they are the bytes of what was read.
func decodedOf(b []byte) (api.Tuple, bool) {
	rest, broken := b, false
	number := func() int {
		n, size := binary.Uvarint(rest)
		if size <= 0 || n > uint64(len(b)) {
			broken, rest = true, nil
			return 0
		}
		rest = rest[size:]
		return int(n)
	}
	piece := func() string {
		n := number()
		if n > len(rest) {
			broken, n = true, 0
		}
		s := string(rest[:n])
		rest = rest[n:]
		return s
	}
	var l []string
	for range 7 {
		l = append(l, piece())
	}
	x := ofFields(l)
	for range number() {
		name := piece()
		v, e := values.Decode([]byte(piece()))
		broken = broken || e != api.OK
		x.Args = append(x.Args, arg(name, v))
	}
	if broken || !mayBe(x) || !slices.Equal(bytesOf(x), b) {
		return api.Tuple{}, false
	}
	return x, true
}

func typeOf(s api.Schema, name string) (api.Type, bool) {
	for _, t := range s.Types {
		if t.Name == name {
			return t, true
		}
	}
	return api.Type{}, false
}

func relationOf(t api.Type, name string) (api.Relation, bool) {
	for _, r := range t.Relations {
		if r.Name == name {
			return r, true
		}
	}
	return api.Relation{}, false
}

// allowsOf are the allowances of a rewrite.
func allowsOf(r api.Relation) []api.Allow {
	var l []api.Allow
	for _, n := range r.Rewrite {
		l = append(l, n.Allow...)
	}
	return l
}

func subjectFits(s api.Schema, u api.Subject) bool {
	typ, isType := typeOf(s, u.Type)
	_, isRelation := relationOf(typ, u.Rel)
	return isSubject(u) && isType && (u.Rel == "" || isRelation)
}

// letsIn writes an allowance as a schema does, and a subject with its condition the same way.
func letsIn(a api.Allow, x api.Tuple) bool {
	written := a.Type
	if a.All {
		written += ":*"
	}
	if a.Rel != "" {
		written += "#" + a.Rel
	}
	if a.Cond != "" {
		written += " with " + a.Cond
	}
	asked := textOf(api.Tuple{Subject: x.Subject, Cond: x.Cond})[len(":#@"):]
	if x.Subject.Id != "*" {
		asked = strings.Replace(asked, ":"+x.Subject.Id, "", 1)
	}
	return written == asked
}

// paramErr says what is wrong with arguments that may be, one by one.
func paramErr(s api.Schema, x api.Tuple) api.Errno {
	at := slices.IndexFunc(s.Conds, func(c api.Cond) bool { return c.Name == x.Cond })
	for _, a := range x.Args {
		kind := 0
		for _, p := range s.Conds[at].Params {
			if p.Name == a.Name {
				kind = p.Kind
			}
		}
		if kind == 0 {
			return api.ErrParam
		}
		if kind != a.Value.Kind {
			return api.ErrKind
		}
	}
	return api.OK
}

// fitOf says whether a tuple fits a schema, step by step as P10.1 does.
func fitOf(s api.Schema, x api.Tuple) api.Errno {
	typ, isType := typeOf(s, x.Object.Type)
	rel, isRelation := relationOf(typ, x.Rel)
	switch {
	case !isType:
		return api.ErrType
	case !isId(x.Object.Id):
		return api.ErrId
	case !isRelation:
		return api.ErrRelation
	case !subjectFits(s, x.Subject):
		return api.ErrSubject
	case !slices.ContainsFunc(allowsOf(rel), func(a api.Allow) bool { return letsIn(a, x) }):
		return api.ErrAllowed
	case !argsMayBe(x.Args) || x.Cond == "" && len(x.Args) > 0:
		return api.ErrArgs
	case x.Cond == "":
		return api.OK
	}
	return paramErr(s, x)
}

// letsOf fills what a filter leaves open with the tuple's own, and asks whether that is the tuple.
func letsOf(f api.Filter, x api.Tuple) bool {
	said := []string{f.Type, f.Id, f.Rel, f.Subject.Type, f.Subject.Id, f.Subject.Rel, f.Cond}
	for i, s := range fields(x) {
		if said[i] == "" {
			said[i] = s
		}
	}
	return slices.Equal(said, fields(x))
}

// orderOf and backwardOf compare the fields of the keys, one behind the other.

func orderOf(a, b api.Tuple) int { return slices.Compare(fields(a)[:6], fields(b)[:6]) }

func backwardOf(a, b api.Tuple) int {
	turned := func(x api.Tuple) []string {
		l := fields(x)
		return slices.Concat(l[3:6], l[:3])
	}
	return slices.Compare(turned(a), turned(b))
}
