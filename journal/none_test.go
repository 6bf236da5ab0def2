package journal_test

import (
	"testing"

	"latchkey/api"
	"latchkey/journal"
)

// P14.8, DOC.md's Objects: every call of a book that isn't there.
func TestNoBook(t *testing.T) {
	var none *journal.Book
	wantNothing(t, none, api.ErrNil)
}

// P14.8: every call of a book that is dead, however it came to be and whatever was loose; it is dead for good.
func TestDeadBook(t *testing.T) {
	for _, b := range []*journal.Book{made(t, smallText, roomy(), 0), made(t, "", api.Limits{Tuples: 1, Keep: 1}, api.MaxRev), opened(t, record(t, changed(3, smallText)), roomy())} {
		b.Crash(0, 0)
		wantDead(t, b)
		wantDead(t, b)
	}
	b, safe, loose := halfSafe(t)
	wantLeft(t, b, 1<<40, 0, safe+loose)
	wantDead(t, b)
	// What is opened behind it lives, and the dead one stays so.
	c := opened(t, safe+loose, roomy())
	wantWrite(t, c, 12)
	wantDead(t, b)
	wantNewest(t, c, 12)
}

// A book that neither New nor Open has made answers as if it weren't there; nothing panics.
func TestBareBook(t *testing.T) {
	wantNothing(t, &journal.Book{}, api.ErrNil)
}
