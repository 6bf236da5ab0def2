package journal_test

import (
	"math"
	"strings"
	"testing"

	"latchkey/api"
	"latchkey/journal"
	"latchkey/syntax"
)

// P14.3: a book with the store that New of a store makes, whose first record, of the start and the model, is safe.
func TestNew(t *testing.T) {
	for _, text := range []string{smallText, wideText, "", "type a", " // nothing\n", "cond c(): true", "type  user type doc relation owner:([user])"} {
		for _, start := range []int64{0, 7, api.MaxRev - 1, api.MaxRev} {
			for _, lim := range []api.Limits{{Tuples: 1, Keep: 1}, {Tuples: api.MaxTuples, Keep: api.MaxKeep}, {Tuples: 10, Keep: 3}} {
				b := made(t, text, lim, start)
				s := b.Store()
				if s.Newest() != start || s.Oldest() != start || s.Limits() != lim {
					t.Errorf("New(%s, %v, %d): %v, %d to %d", text, lim, start, s.Limits(), s.Oldest(), s.Newest())
				}
				snap, e := s.Snap(start)
				if e != api.OK || snap.Len() != 0 || schemaText(snap.Model().Schema()) != schemaText(parsed(text)) {
					t.Errorf("New(%s): %d, %s", text, e, schemaText(snap.Model().Schema()))
				}
				if _, e := s.Commit(start); e != api.ErrGone {
					t.Errorf("Commit(%d): %d", start, e)
				}
				wantSafe(t, b, plainRecord(changed(start, text)))
			}
		}
	}
}

// P14.3: each refusal: that of the text, of the schema, of the store.
func TestNewRefusals(t *testing.T) {
	for _, c := range []struct {
		text  string
		lim   api.Limits
		start int64
		want  api.Errno
	}{
		{"type", roomy(), 0, api.ErrSyntax},
		{"type user relation", roomy(), 0, api.ErrSyntax},
		{"\"", roomy(), 0, api.ErrToken},
		{"cond c(): 9223372036854775808 > 1", roomy(), 0, api.ErrValue},
		{strings.Repeat("type a ", 33), roomy(), 0, api.ErrLong},
		{strings.Repeat(" ", api.MaxSource+1), roomy(), 0, api.ErrLong},
		{"type a type a", roomy(), 0, api.ErrTwice},
		{"type a relation r: s", roomy(), 0, api.ErrRelation},
		{"type a relation r: [b]", roomy(), 0, api.ErrType},
		{"type a relation r: [a with c]", roomy(), 0, api.ErrCond},
		{"type a relation r: [a] or s from r", roomy(), 0, api.ErrArrow},
		{"type t relation a: [t] not a", roomy(), 0, api.ErrStrata},
		{"cond c(): 1", roomy(), 0, api.ErrKind},
		{smallText, api.Limits{Tuples: 10}, 0, api.ErrArg},
		{smallText, api.Limits{Keep: 10}, 0, api.ErrArg},
		{smallText, api.Limits{Tuples: -1, Keep: 10}, 0, api.ErrArg},
		{smallText, api.Limits{Tuples: api.MaxTuples + 1, Keep: 1}, 0, api.ErrArg},
		{smallText, api.Limits{Tuples: 1, Keep: api.MaxKeep + 1}, 0, api.ErrArg},
		{smallText, roomy(), -1, api.ErrArg},
		{smallText, roomy(), api.MaxRev + 1, api.ErrArg},
		{smallText, roomy(), math.MinInt64, api.ErrArg},
		{smallText, roomy(), math.MaxInt64, api.ErrArg},
		// Two at once: the text goes ahead of the schema, this ahead of the store.
		{"type a type a relation", roomy(), 0, api.ErrSyntax},
		{"type", api.Limits{}, -1, api.ErrSyntax},
		{"type a type a", api.Limits{}, -1, api.ErrTwice},
		{"", api.Limits{}, -1, api.ErrArg},
	} {
		if b, e := journal.New(c.text, c.lim, c.start); b != nil || e != c.want {
			t.Errorf("New(%s, %v, %d): %v, %d, want %d", show(c.text), c.lim, c.start, b != nil, e, c.want)
		}
	}
}

// longText is the own text of a model, of exactly so many bytes.
func longText(size int) string {
	var b strings.Builder
	for i := 0; size-b.Len() > 0; i++ {
		cond := "cond c" + string([]byte{'a' + byte(i)}) + "(t: text): t in ["
		fill := min(size-b.Len(), 8000) - len(cond) - len("]\n")
		if rest := size - b.Len() - 8000; rest > 0 && rest < 300 {
			fill -= 300
		}
		b.WriteString(cond + list(fill) + "]\n")
	}
	return b.String()
}

// list is texts with commas between, of exactly so many bytes.
func list(size int) string {
	var l []string
	for size > 0 {
		n := min(size, 258)
		if rest := size - n; rest > 0 && rest < 10 {
			n -= 20
		}
		l = append(l, `"`+strings.Repeat("x", n-2)+`"`)
		size -= n + len(", ")
	}
	return strings.Join(l, ", ")
}

// P14.1, P14.3: a schema whose own text has as many bytes as there may be, and one of which it has one more.
func TestLongestSchema(t *testing.T) {
	text := longText(api.MaxSource)
	if own := schemaText(parsed(text)); own != text || len(text) != 65536 {
		t.Fatalf("%d bytes, %d own", len(text), len(own))
	}
	b := made(t, text, roomy(), 3)
	wantSafe(t, b, plainRecord(changed(3, text)))
	wantScan(t, bytesOf(b), len(bytesOf(b)), changed(3, text))
	wantWrite(t, b, 4)
	wantChange(t, b, 5, text)
	wantSafe(t, opened(t, bytesOf(b), roomy()), bytesOf(b))
	// One more: laid out with fewer blanks it can be cut into tokens, but not be written.
	long := longText(api.MaxSource + 1)
	tight := strings.ReplaceAll(long, ", ", ",")
	if _, e := journal.New(long, roomy(), 3); e != api.ErrLong {
		t.Errorf("%d", e)
	}
	if _, e := journal.New(tight, roomy(), 3); e != api.ErrLong {
		t.Errorf("%d", e)
	}
	wantNoChange(t, b, api.ErrLong, tight)
	s := parsed(text)
	last := &s.Conds[len(s.Conds)-1]
	last.Name += "x"
	if f := syntax.Check(s); f.Err != api.ErrLong {
		t.Fatalf("%+v", f)
	}
	wantNoRecord(t, api.Commit{Rev: 1, Kind: api.CommitSchema, Schema: s}, api.ErrLong)
	wantNone(t, sealed("\x01\x02"+number(uint64(len(long)))+long))
}
