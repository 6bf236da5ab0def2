package ident_test

import (
	"regexp"
	"strings"
	"testing"

	"latchkey/api"
	"latchkey/ident"
)

// What a text is, said another way than the package says it: by patterns.
var (
	namePattern = `([a-z][a-z0-9_]{0,31})`
	idPattern   = `([A-Za-z0-9_.=+/|~-]{1,64})`
	objectTexts = regexp.MustCompile(`\A` + namePattern + `:` + idPattern + `\z`)
	allTexts    = regexp.MustCompile(`\A` + namePattern + `:(\*)\z`)
	setTexts    = regexp.MustCompile(`\A` + namePattern + `:` + idPattern + `#` + namePattern + `\z`)
)

func patternObject(s string) (api.Object, bool) {
	m := objectTexts.FindStringSubmatch(s)
	if m == nil || isWord(m[1]) {
		return api.Object{}, false
	}
	return api.Object{Type: m[1], Id: m[2]}, true
}

func patternSubject(s string) (api.Subject, int) {
	if o, ok := patternObject(s); ok {
		return api.Subject{Type: o.Type, Id: o.Id}, api.SubOne
	}
	if m := allTexts.FindStringSubmatch(s); m != nil && !isWord(m[1]) {
		return api.Subject{Type: m[1], Id: m[2]}, api.SubAll
	}
	if m := setTexts.FindStringSubmatch(s); m != nil && !isWord(m[1]) && !isWord(m[3]) {
		return api.Subject{Type: m[1], Id: m[2], Rel: m[3]}, api.SubSet
	}
	return api.Subject{}, api.SubNone
}

// eachText hands over all texts of up to most of the pieces.
func eachText(pieces []string, most int, do func(string)) {
	var grow func(string, int)
	grow = func(s string, left int) {
		do(s)
		if left == 0 {
			return
		}
		for _, p := range pieces {
			grow(s+p, left-1)
		}
	}
	grow("", most)
}

func pieces() []string {
	return []string{"a", "Z", "0", "_", ":", "#", "*", "or", "-", "\xff", strings.Repeat("n", 32), strings.Repeat("i", 33)}
}

// P1.3, P1.7: Object reads just the texts of objects, and its answer's text is what was read.
func TestObjectThereAndBack(t *testing.T) {
	eachText(pieces(), 5, func(s string) {
		want, ok := patternObject(s)
		got, e := ident.Object(s)
		if got != want || (e == api.OK) != ok {
			t.Fatalf("Object(%q) = %q, %d", s, got, e)
		}
		if !ok {
			return
		}
		if text, e := ident.ObjectText(got); text != s || e != api.OK {
			t.Fatalf("ObjectText(%q) = %q, %d, want %q", got, text, e, s)
		}
	})
}

// P1.4, P1.7: Subject reads just the texts of subjects, of the kind that is written, and its answer's text is what was read.
func TestSubjectThereAndBack(t *testing.T) {
	eachText(pieces(), 5, func(s string) {
		want, kind := patternSubject(s)
		got, e := ident.Subject(s)
		if got != want || (e == api.OK) != (kind != api.SubNone) {
			t.Fatalf("Subject(%q) = %q, %d", s, got, e)
		}
		if k := ident.Kind(got); k != kind {
			t.Fatalf("Kind(%q) = %d, want %d", got, k, kind)
		}
		if kind == api.SubNone {
			return
		}
		if text, e := ident.SubjectText(got); text != s || e != api.OK {
			t.Fatalf("SubjectText(%q) = %q, %d, want %q", got, text, e, s)
		}
	})
}

func fields() []string {
	return []string{
		"", "a", "z_9", "user", "A", "9", "_", "*", "**", "a*", "#", ":", "a:b", "a#b", "a b", "-", "x/y",
		"type", "relation", "cond", "or", "and", "not", "from", "with", "in", "true", "false", "nan", "inf",
		"\x00", "\xff", "é", strings.Repeat("n", 32), strings.Repeat("n", 33), strings.Repeat("i", 64), strings.Repeat("i", 65),
	}
}

// P1.5, P1.7: the text of each object that may be is read as that object.
func TestObjectTextThereAndBack(t *testing.T) {
	for _, typeName := range fields() {
		for _, id := range fields() {
			o := api.Object{Type: typeName, Id: id}
			text, e := ident.ObjectText(o)
			switch {
			case !ident.Name(typeName):
				checkObjectText(t, o, "", api.ErrName)
			case !ident.Id(id):
				checkObjectText(t, o, "", api.ErrId)
			default:
				checkObjectText(t, o, typeName+":"+id, api.OK)
				checkObject(t, text, o, api.OK)
			}
			if e == api.OK && !strings.Contains(text, ":") {
				t.Errorf("ObjectText(%q) = %q", o, text)
			}
		}
	}
}

// P1.5, P1.7: SubjectText answers no error just where Kind isn't SubNone, and what it answers is read as that subject.
func TestSubjectTextThereAndBack(t *testing.T) {
	for _, typeName := range fields() {
		for _, id := range fields() {
			for _, rel := range fields() {
				s := api.Subject{Type: typeName, Id: id, Rel: rel}
				text, e := ident.SubjectText(s)
				if (e == api.OK) != (ident.Kind(s) != api.SubNone) {
					t.Errorf("SubjectText(%q) = %q, %d; Kind %d", s, text, e, ident.Kind(s))
				}
				if e == api.OK {
					checkSubject(t, text, s, api.OK)
				} else if text != "" {
					t.Errorf("SubjectText(%q) = %q beside %d", s, text, e)
				}
			}
		}
	}
}

// P1.7: the text of one is its object's; no object's text is that of all or of a set.
func TestTextsOfObjectsAndSubjects(t *testing.T) {
	for _, typeName := range fields() {
		for _, id := range fields() {
			for _, rel := range fields() {
				s := api.Subject{Type: typeName, Id: id, Rel: rel}
				text, _ := ident.SubjectText(s)
				switch ident.Kind(s) {
				case api.SubOne:
					o := api.Object{Type: typeName, Id: id}
					checkObjectText(t, o, text, api.OK)
					checkObject(t, text, o, api.OK)
				case api.SubAll, api.SubSet:
					checkObject(t, text, api.Object{}, api.ErrId)
				}
			}
		}
	}
}

// Any argument: long texts and texts of any bytes end in an answer.
func TestLongTexts(t *testing.T) {
	long := strings.Repeat("x", 1<<20)
	checkObject(t, long, api.Object{}, api.ErrObject)
	checkObject(t, long+":a", api.Object{}, api.ErrName)
	checkObject(t, "a:"+long, api.Object{}, api.ErrId)
	checkSubject(t, long, api.Subject{}, api.ErrSubject)
	checkSubject(t, long+":a", api.Subject{}, api.ErrName)
	checkSubject(t, "a:"+long, api.Subject{}, api.ErrId)
	checkSubject(t, "a:a#"+long, api.Subject{}, api.ErrName)
	if got := ident.CompareObjects(api.Object{Type: long}, api.Object{Type: long + "x"}); got != -1 {
		t.Error(got)
	}
}
