package ident_test

import (
	"strings"
	"testing"

	"latchkey/api"
	"latchkey/ident"
)

const (
	smallLetters = "abcdefghijklmnopqrstuvwxyz"
	letters      = smallLetters + "ABCDEFGHIJKLMNOPQRSTUVWXYZ"
	digits       = "0123456789"
	nameBytes    = smallLetters + digits + "_"
	idBytes      = letters + digits + "-_.=+/|~"
)

func words() []string {
	return strings.Fields("type relation cond or and not from with in true false nan inf")
}

func isWord(s string) bool {
	for _, w := range words() {
		if s == w {
			return true
		}
	}
	return false
}

func checkName(t *testing.T, s string, want bool) {
	t.Helper()
	if got := ident.Name(s); got != want {
		t.Errorf("Name(%q) = %v, want %v", s, got, want)
	}
}

func checkId(t *testing.T, s string, want bool) {
	t.Helper()
	if got := ident.Id(s); got != want {
		t.Errorf("Id(%q) = %v, want %v", s, got, want)
	}
}

func checkObject(t *testing.T, s string, want api.Object, wantErr api.Errno) {
	t.Helper()
	if got, e := ident.Object(s); got != want || e != wantErr {
		t.Errorf("Object(%q) = %q, %d, want %q, %d", s, got, e, want, wantErr)
	}
}

func checkSubject(t *testing.T, s string, want api.Subject, wantErr api.Errno) {
	t.Helper()
	if got, e := ident.Subject(s); got != want || e != wantErr {
		t.Errorf("Subject(%q) = %q, %d, want %q, %d", s, got, e, want, wantErr)
	}
}

func checkObjectText(t *testing.T, o api.Object, want string, wantErr api.Errno) {
	t.Helper()
	if got, e := ident.ObjectText(o); got != want || e != wantErr {
		t.Errorf("ObjectText(%q) = %q, %d, want %q, %d", o, got, e, want, wantErr)
	}
}

func checkSubjectText(t *testing.T, s api.Subject, want string, wantErr api.Errno) {
	t.Helper()
	if got, e := ident.SubjectText(s); got != want || e != wantErr {
		t.Errorf("SubjectText(%q) = %q, %d, want %q, %d", s, got, e, want, wantErr)
	}
}

func TestNumbersOfLimitsAndErrors(t *testing.T) {
	if api.MaxName != 32 || api.MaxId != 64 {
		t.Error("limits", api.MaxName, api.MaxId)
	}
	if api.OK != 0 || api.ErrName != 10 || api.ErrId != 11 || api.ErrObject != 12 || api.ErrSubject != 13 {
		t.Error("errors", api.OK, api.ErrName, api.ErrId, api.ErrObject, api.ErrSubject)
	}
	if api.SubNone != 0 || api.SubOne != 1 || api.SubAll != 2 || api.SubSet != 3 {
		t.Error("kinds", api.SubNone, api.SubOne, api.SubAll, api.SubSet)
	}
}

// P1.1, example 1.
func TestNameExamples(t *testing.T) {
	for _, s := range []string{"a", "z_9", "ands", "bool", strings.Repeat("a", 32)} {
		checkName(t, s, true)
	}
	for _, s := range []string{"", "A", "9a", "_a", "a-b", "and", "inf", strings.Repeat("a", 33)} {
		checkName(t, s, false)
	}
}

// P1.1: each byte, as the first one, in the middle and as the last one.
func TestNameBytes(t *testing.T) {
	for c := range 256 {
		b := string([]byte{byte(c)})
		checkName(t, b, strings.Contains(smallLetters, b))
		checkName(t, b+"x", strings.Contains(smallLetters, b))
		checkName(t, "x"+b+"x", strings.Contains(nameBytes, b))
		checkName(t, "x"+b, strings.Contains(nameBytes, b))
	}
}

// P1.1: the thirteen words, and what is nearly one.
func TestNameWords(t *testing.T) {
	if len(words()) != 13 {
		t.Fatal(words())
	}
	for _, w := range words() {
		checkName(t, w, false)
		checkName(t, strings.ToUpper(w[:1])+w[1:], false)
		checkName(t, w+" ", false)
		checkName(t, w+"_", true)
		checkName(t, w+"0", true)
		checkName(t, "x"+w, true)
		checkName(t, w+w, true)
		checkName(t, w[:len(w)-1], !isWord(w[:len(w)-1]))
	}
	for _, s := range []string{"types", "user", "this", "schema", "bool", "int", "real", "text", "texts"} {
		checkName(t, s, true)
	}
}

// P1.1: the lengths of names, at the limit and past it.
func TestNameLengths(t *testing.T) {
	for n := range 100 {
		checkName(t, strings.Repeat("q", n), n >= 1 && n <= 32)
	}
	checkName(t, "a"+strings.Repeat("_", 31), true)
	checkName(t, strings.Repeat("a", 31)+"A", false)
	checkName(t, strings.Repeat("\xc3\xa9", 16), false)
	checkName(t, strings.Repeat("a", 1<<20), false)
}

// P1.1, example 2.
func TestIdExamples(t *testing.T) {
	for _, s := range []string{"A", "9", "-", "a=b|c/d.e+f~_", strings.Repeat("x", 64)} {
		checkId(t, s, true)
	}
	for _, s := range []string{"", "*", "a b", "a:b", "a#b", "é", strings.Repeat("x", 65)} {
		checkId(t, s, false)
	}
}

// P1.1: each byte, in each place.
func TestIdBytes(t *testing.T) {
	for c := range 256 {
		b := string([]byte{byte(c)})
		want := strings.Contains(idBytes, b)
		checkId(t, b, want)
		checkId(t, b+"x", want)
		checkId(t, "x"+b+"x", want)
		checkId(t, "x"+b, want)
	}
}

// P1.1: the lengths of ids; the words are ids like any other text.
func TestIdLengthsAndWords(t *testing.T) {
	for n := range 100 {
		checkId(t, strings.Repeat("~", n), n >= 1 && n <= 64)
	}
	checkId(t, strings.Repeat("x", 63)+"*", false)
	checkId(t, strings.Repeat("\xc3\xa9", 32), false)
	checkId(t, strings.Repeat("x", 1<<20), false)
	for _, w := range words() {
		checkId(t, w, true)
	}
}

// P1.2, with example 3.
func TestKind(t *testing.T) {
	long := strings.Repeat("a", 33)
	for _, x := range []struct {
		s    api.Subject
		want int
	}{
		{api.Subject{Type: "user", Id: "ann"}, api.SubOne},
		{api.Subject{Type: "user", Id: "*"}, api.SubAll},
		{api.Subject{Type: "team", Id: "x", Rel: "member"}, api.SubSet},
		{api.Subject{Type: "team", Id: "*", Rel: "member"}, api.SubNone},
		{api.Subject{Type: "user"}, api.SubNone},
		{api.Subject{Type: "User", Id: "ann"}, api.SubNone},
		{api.Subject{Type: "team", Id: "x", Rel: "and"}, api.SubNone},

		{api.Subject{}, api.SubNone},
		{api.Subject{Id: "ann"}, api.SubNone},
		{api.Subject{Id: "*"}, api.SubNone},
		{api.Subject{Type: "and", Id: "*"}, api.SubNone},
		{api.Subject{Type: "and", Id: "x", Rel: "member"}, api.SubNone},
		{api.Subject{Type: "user", Id: "**"}, api.SubNone},
		{api.Subject{Type: "user", Id: "a*"}, api.SubNone},
		{api.Subject{Type: "user", Id: "a b"}, api.SubNone},
		{api.Subject{Type: "user", Rel: "member"}, api.SubNone},
		{api.Subject{Type: "user", Id: "*", Rel: "and"}, api.SubNone},
		{api.Subject{Type: "user", Id: "*", Rel: "*"}, api.SubNone},
		{api.Subject{Type: "team", Id: "x", Rel: "*"}, api.SubNone},
		{api.Subject{Type: "team", Id: "x", Rel: "Member"}, api.SubNone},
		{api.Subject{Type: "team", Id: "x", Rel: " "}, api.SubNone},
		{api.Subject{Type: "user", Id: "and"}, api.SubOne},
		{api.Subject{Type: long[:32], Id: strings.Repeat("x", 64)}, api.SubOne},
		{api.Subject{Type: long[:32], Id: strings.Repeat("x", 64), Rel: long[:32]}, api.SubSet},
		{api.Subject{Type: long[:32], Id: "*"}, api.SubAll},
		{api.Subject{Type: long, Id: "x"}, api.SubNone},
		{api.Subject{Type: long, Id: "*"}, api.SubNone},
		{api.Subject{Type: "team", Id: strings.Repeat("x", 65)}, api.SubNone},
		{api.Subject{Type: "team", Id: "x", Rel: long}, api.SubNone},
	} {
		if got := ident.Kind(x.s); got != x.want {
			t.Errorf("Kind(%q) = %d, want %d", x.s, got, x.want)
		}
	}
}

// P1.3, with example 4.
func TestObject(t *testing.T) {
	checkObject(t, "doc:a.1", api.Object{Type: "doc", Id: "a.1"}, api.OK)
	checkObject(t, "doc:type", api.Object{Type: "doc", Id: "type"}, api.OK)
	longName, longId := strings.Repeat("n", 32), strings.Repeat("I", 64)
	checkObject(t, longName+":"+longId, api.Object{Type: longName, Id: longId}, api.OK)
	for s, want := range map[string]api.Errno{
		"doc":                   api.ErrObject,
		"":                      api.ErrObject,
		"Doc#*":                 api.ErrObject,
		"doc;a":                 api.ErrObject,
		":":                     api.ErrName,
		":a":                    api.ErrName,
		"::a":                   api.ErrName,
		"Doc:*":                 api.ErrName,
		"Doc:a":                 api.ErrName,
		" doc:a":                api.ErrName,
		"doc :a":                api.ErrName,
		"with:a":                api.ErrName,
		"doc#m:a":               api.ErrName,
		"n" + longName + ":a":   api.ErrName,
		"doc:":                  api.ErrId,
		"doc:a:b":               api.ErrId,
		"doc::a":                api.ErrId,
		"doc:a:":                api.ErrId,
		"doc:*":                 api.ErrId,
		"doc:a#m":               api.ErrId,
		"doc:a ":                api.ErrId,
		"doc:a\n":               api.ErrId,
		"doc:\x00":              api.ErrId,
		"doc:I" + longId:        api.ErrId,
		strings.Repeat(":", 99): api.ErrName,
	} {
		checkObject(t, s, api.Object{}, want)
	}
}

// P1.4, with example 5: what may be.
func TestSubjectGood(t *testing.T) {
	longName, longId := strings.Repeat("n", 32), strings.Repeat("I", 64)
	for s, want := range map[string]api.Subject{
		"team:x/y#member":                     {Type: "team", Id: "x/y", Rel: "member"},
		"user:*":                              {Type: "user", Id: "*"},
		"user:ann":                            {Type: "user", Id: "ann"},
		"user:or":                             {Type: "user", Id: "or"},
		longName + ":" + longId:               {Type: longName, Id: longId},
		longName + ":*":                       {Type: longName, Id: "*"},
		longName + ":" + longId + "#" + "m_1": {Type: longName, Id: longId, Rel: "m_1"},
		"t:i#" + longName:                     {Type: "t", Id: "i", Rel: longName},
	} {
		checkSubject(t, s, want, api.OK)
	}
}

// P1.4, with example 5: what may not be, and the order of the errors.
func TestSubjectBad(t *testing.T) {
	longName, longId := strings.Repeat("n", 33), strings.Repeat("I", 65)
	for s, want := range map[string]api.Errno{
		"":                  api.ErrSubject,
		"*":                 api.ErrSubject,
		"user":              api.ErrSubject,
		"a#b":               api.ErrSubject,
		"A#":                api.ErrSubject,
		":":                 api.ErrName,
		":*":                api.ErrName,
		":#":                api.ErrName,
		"a#b:c":             api.ErrName,
		"User:*":            api.ErrName,
		"User:a#or":         api.ErrName,
		"in:ann":            api.ErrName,
		longName + ":*":     api.ErrName,
		"user:*#m":          api.ErrId,
		"user:*#":           api.ErrId,
		"user:*#*":          api.ErrId,
		"user:#m":           api.ErrId,
		"user:#":            api.ErrId,
		"user:#*":           api.ErrId,
		"user:":             api.ErrId,
		"user:**":           api.ErrId,
		"user: *":           api.ErrId,
		"user:a:b":          api.ErrId,
		"user:a b#or":       api.ErrId,
		"user:" + longId:    api.ErrId,
		"t:" + longId + "#": api.ErrId,
		"user:a#":           api.ErrName,
		"user:a#b#c":        api.ErrName,
		"user:a##":          api.ErrName,
		"user:a#or":         api.ErrName,
		"user:a#*":          api.ErrName,
		"user:a#b:c":        api.ErrName,
		"user:a#M":          api.ErrName,
		"user:a#m ":         api.ErrName,
		"t:i#" + longName:   api.ErrName,
	} {
		checkSubject(t, s, api.Subject{}, want)
	}
}

// P1.5, with example 6.
func TestObjectText(t *testing.T) {
	longName, longId := strings.Repeat("n", 32), strings.Repeat("I", 64)
	checkObjectText(t, api.Object{Type: "doc", Id: "a.1"}, "doc:a.1", api.OK)
	checkObjectText(t, api.Object{Type: longName, Id: longId}, longName+":"+longId, api.OK)
	checkObjectText(t, api.Object{Type: "or", Id: "x"}, "", api.ErrName)
	checkObjectText(t, api.Object{Type: "or", Id: "*"}, "", api.ErrName)
	checkObjectText(t, api.Object{}, "", api.ErrName)
	checkObjectText(t, api.Object{Type: longName + "n", Id: longId}, "", api.ErrName)
	checkObjectText(t, api.Object{Type: "doc:", Id: "a"}, "", api.ErrName)
	checkObjectText(t, api.Object{Type: "doc"}, "", api.ErrId)
	checkObjectText(t, api.Object{Type: "doc", Id: "*"}, "", api.ErrId)
	checkObjectText(t, api.Object{Type: "doc", Id: "a:b"}, "", api.ErrId)
	checkObjectText(t, api.Object{Type: "doc", Id: "a#m"}, "", api.ErrId)
	checkObjectText(t, api.Object{Type: longName, Id: longId + "I"}, "", api.ErrId)
}

// P1.5, with example 6.
func TestSubjectText(t *testing.T) {
	longName, longId := strings.Repeat("n", 32), strings.Repeat("I", 64)
	for _, x := range []struct {
		s    api.Subject
		want string
		err  api.Errno
	}{
		{api.Subject{Type: "user", Id: "ann"}, "user:ann", api.OK},
		{api.Subject{Type: "user", Id: "*"}, "user:*", api.OK},
		{api.Subject{Type: "team", Id: "x/y", Rel: "member"}, "team:x/y#member", api.OK},
		{api.Subject{Type: longName, Id: longId, Rel: longName}, longName + ":" + longId + "#" + longName, api.OK},
		{api.Subject{}, "", api.ErrName},
		{api.Subject{Type: "or", Id: "*", Rel: "or"}, "", api.ErrName},
		{api.Subject{Type: "or", Id: "*"}, "", api.ErrName},
		{api.Subject{Type: longName + "n", Id: "x"}, "", api.ErrName},
		{api.Subject{Type: "team", Id: "*", Rel: "member"}, "", api.ErrId},
		{api.Subject{Type: "team", Id: "*", Rel: "Member"}, "", api.ErrId},
		{api.Subject{Type: "team"}, "", api.ErrId},
		{api.Subject{Type: "team", Rel: "member"}, "", api.ErrId},
		{api.Subject{Type: "team", Rel: "Member"}, "", api.ErrId},
		{api.Subject{Type: "team", Id: "**"}, "", api.ErrId},
		{api.Subject{Type: "team", Id: "x#member"}, "", api.ErrId},
		{api.Subject{Type: "team", Id: longId + "I"}, "", api.ErrId},
		{api.Subject{Type: "team", Id: "x", Rel: "Member"}, "", api.ErrName},
		{api.Subject{Type: "team", Id: "x", Rel: "not"}, "", api.ErrName},
		{api.Subject{Type: "team", Id: "x", Rel: "*"}, "", api.ErrName},
		{api.Subject{Type: "team", Id: "x", Rel: longName + "n"}, "", api.ErrName},
	} {
		checkSubjectText(t, x.s, x.want, x.err)
	}
}
