// Package ident is layer 1: names, ids, objects and subjects, and how they are written.
package ident

import (
	"strings"

	"latchkey/api"
)

// all is the id by which a subject means all of its type; it is no id itself.
const all = "*"

// Name says whether s is a name.
func Name(s string) bool {
	if len(s) == 0 || len(s) > api.MaxName || !small(s[0]) || reserved(s) {
		return false
	}
	for i := range len(s) {
		if !inName(s[i]) {
			return false
		}
	}
	return true
}

// Id says whether s is an id.
func Id(s string) bool {
	if len(s) == 0 || len(s) > api.MaxId {
		return false
	}
	for i := range len(s) {
		if !inId(s[i]) {
			return false
		}
	}
	return true
}

// Kind says of which kind the subject is: SubNone, if it is none.
func Kind(s api.Subject) int {
	switch {
	case fault(s) != api.OK:
		return api.SubNone
	case s.Id == all:
		return api.SubAll
	case s.Rel == "":
		return api.SubOne
	}
	return api.SubSet
}

// Object reads an object's text.
func Object(s string) (api.Object, api.Errno) {
	typeName, id, found := cut(s, ':')
	switch {
	case !found:
		return api.Object{}, api.ErrObject
	case !Name(typeName):
		return api.Object{}, api.ErrName
	case !Id(id):
		return api.Object{}, api.ErrId
	}
	return api.Object{Type: typeName, Id: id}, api.OK
}

// Subject reads a subject's text.
func Subject(s string) (api.Subject, api.Errno) {
	typeName, rest, found := cut(s, ':')
	if !found {
		return api.Subject{}, api.ErrSubject
	}
	if !Name(typeName) {
		return api.Subject{}, api.ErrName
	}
	if rest == all {
		return api.Subject{Type: typeName, Id: all}, api.OK
	}
	id, rel, set := cut(rest, '#')
	if !Id(id) {
		return api.Subject{}, api.ErrId
	}
	// An empty relation is one's own mark, but behind a # it is a name left out.
	if set && !Name(rel) {
		return api.Subject{}, api.ErrName
	}
	return api.Subject{Type: typeName, Id: id, Rel: rel}, api.OK
}

// ObjectText writes an object.
func ObjectText(o api.Object) (string, api.Errno) {
	switch {
	case !Name(o.Type):
		return "", api.ErrName
	case !Id(o.Id):
		return "", api.ErrId
	}
	return o.Type + ":" + o.Id, api.OK
}

// SubjectText writes a subject.
func SubjectText(s api.Subject) (string, api.Errno) {
	if e := fault(s); e != api.OK {
		return "", e
	}
	text := s.Type + ":" + s.Id
	if s.Rel != "" {
		text += "#" + s.Rel
	}
	return text, api.OK
}

// CompareObjects orders objects: -1, 0 or 1.
func CompareObjects(a, b api.Object) int {
	if c := strings.Compare(a.Type, b.Type); c != 0 {
		return c
	}
	return strings.Compare(a.Id, b.Id)
}

// CompareSubjects orders subjects: -1, 0 or 1.
func CompareSubjects(a, b api.Subject) int {
	c := CompareObjects(api.Object{Type: a.Type, Id: a.Id}, api.Object{Type: b.Type, Id: b.Id})
	if c != 0 {
		return c
	}
	return strings.Compare(a.Rel, b.Rel)
}

// fault says why s is no subject; Kind and SubjectText share it, so that they agree on which are.
func fault(s api.Subject) api.Errno {
	switch {
	case !Name(s.Type):
		return api.ErrName
	case s.Id == all && s.Rel == "":
		return api.OK
	case !Id(s.Id):
		return api.ErrId
	case s.Rel != "" && !Name(s.Rel):
		return api.ErrName
	}
	return api.OK
}

// cut parts s at the first mark; where there is none, all of s stands ahead.
func cut(s string, mark byte) (ahead, behind string, found bool) {
	for i := range len(s) {
		if s[i] == mark {
			return s[:i], s[i+1:], true
		}
	}
	return s, "", false
}

// reserved says whether s is one of the words that the schema's language keeps for itself.
func reserved(s string) bool {
	switch s {
	case "type", "relation", "cond", "or", "and", "not", "from", "with", "in", "true", "false", "nan", "inf":
		return true
	}
	return false
}

func inName(c byte) bool {
	return small(c) || digit(c) || c == '_'
}

func inId(c byte) bool {
	switch c {
	case '-', '_', '.', '=', '+', '/', '|', '~':
		return true
	}
	return letter(c) || digit(c)
}

func small(c byte) bool {
	return 'a' <= c && c <= 'z'
}

func letter(c byte) bool {
	return small(c) || 'A' <= c && c <= 'Z'
}

func digit(c byte) bool {
	return '0' <= c && c <= '9'
}
