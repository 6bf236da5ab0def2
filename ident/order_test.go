package ident_test

import (
	"testing"

	"latchkey/api"
	"latchkey/ident"
)

// P1.6, example 7.
func TestOrderExamples(t *testing.T) {
	if got := ident.CompareObjects(api.Object{Type: "a", Id: "b"}, api.Object{Type: "a", Id: "ba"}); got != -1 {
		t.Error(got)
	}
	if got := ident.CompareSubjects(api.Subject{Type: "a", Id: "b", Rel: "c"}, api.Subject{Type: "a", Id: "b"}); got != 1 {
		t.Error(got)
	}
	if got := ident.CompareObjects(api.Object{Type: "b"}, api.Object{Type: "a", Id: "z"}); got != 1 {
		t.Error(got)
	}
}

// risingTexts are texts as they rise, names and ids or not: a beginning stands ahead, and bytes count as numbers.
func risingTexts() []string {
	return []string{"", "\x00", "\x00\x00", "\x01", "*", "-", "0", "9", ":", "A", "Z", "_", "a", "a\x00", "a*", "aa", "ab", "and", "b", "\x7f", "\x80", "\xc3\xa9", "\xff", "\xff\xff"}
}

func sign(n int) int {
	switch {
	case n < 0:
		return -1
	case n > 0:
		return 1
	}
	return 0
}

func firstNonZero(ns ...int) int {
	for _, n := range ns {
		if n != 0 {
			return n
		}
	}
	return 0
}

// P1.6: Type goes ahead of Id; each pair, both ways round.
func TestCompareObjects(t *testing.T) {
	texts := risingTexts()
	for i, ti := range texts {
		for j, tj := range texts {
			for k, ik := range texts {
				for l, il := range texts {
					a, b := api.Object{Type: ti, Id: ik}, api.Object{Type: tj, Id: il}
					want := firstNonZero(sign(i-j), sign(k-l))
					if got := ident.CompareObjects(a, b); got != want {
						t.Fatalf("CompareObjects(%q, %q) = %d, want %d", a, b, got, want)
					}
				}
			}
		}
	}
}

// P1.6: Type, then Id, then Rel.
func TestCompareSubjects(t *testing.T) {
	texts := []string{"", "*", "A", "a", "aa", "\xff"}
	n := len(texts)
	all := n * n * n
	for x := range all {
		for y := range all {
			a := api.Subject{Type: texts[x/n/n], Id: texts[x/n%n], Rel: texts[x%n]}
			b := api.Subject{Type: texts[y/n/n], Id: texts[y/n%n], Rel: texts[y%n]}
			if got := ident.CompareSubjects(a, b); got != sign(x-y) {
				t.Fatalf("CompareSubjects(%q, %q) = %d, want %d", a, b, got, sign(x-y))
			}
		}
	}
}

// P1.6: where fields are set side by side the border between them counts, as a text of both would not show it.
func TestCompareKeepsFieldsApart(t *testing.T) {
	if got := ident.CompareObjects(api.Object{Type: "a", Id: "z"}, api.Object{Type: "a-", Id: "a"}); got != -1 {
		t.Error("a:z, a-:a:", got)
	}
	if got := ident.CompareSubjects(api.Subject{Type: "t", Id: "a", Rel: "m"}, api.Subject{Type: "t", Id: "a!", Rel: "a"}); got != -1 {
		t.Error("t:a#m, t:a!#a:", got)
	}
	if got := ident.CompareObjects(api.Object{Type: "ab"}, api.Object{Type: "a", Id: "b"}); got != 1 {
		t.Error("ab:, a:b:", got)
	}
	if got := ident.CompareSubjects(api.Subject{Type: "a", Id: "bc"}, api.Subject{Type: "a", Id: "b", Rel: "c"}); got != 1 {
		t.Error("a:bc, a:b#c:", got)
	}
}
