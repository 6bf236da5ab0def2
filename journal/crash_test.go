package journal_test

import (
	"math"
	"testing"

	"latchkey/api"
	"latchkey/journal"
)

// halfSafe is a book some of whose bytes are loose, those that are safe, and those that are loose; it is the same each time.
func halfSafe(t *testing.T) (b *journal.Book, safe, loose string) {
	t.Helper()
	b = made(t, smallText, roomy(), 7)
	wantWrite(t, b, 8, in("doc:1#owner@user:ann"))
	wantSync(t, b)
	wantWrite(t, b, 9, in("doc:2#owner@user:ann"))
	wantWrite(t, b, 10)
	wantChange(t, b, 11, smallText+" type more")
	all, n := b.Bytes()
	return b, string(all[:n]), string(all[n:])
}

// P14.7: the safe bytes and the first keep of the loose ones, the last of which is turned; behind it the book is dead.
func TestCrash(t *testing.T) {
	_, safe, loose := halfSafe(t)
	for _, torn := range []byte{0, 1, 7, 128, 255} {
		for _, keep := range []int{math.MinInt, -300, -1, 0} {
			b, _, _ := halfSafe(t)
			wantLeft(t, b, keep, torn, safe)
		}
		for keep := 1; keep <= len(loose); keep++ {
			b, _, _ := halfSafe(t)
			wantLeft(t, b, keep, torn, safe+loose[:keep-1]+string([]byte{loose[keep-1] ^ torn}))
		}
		for _, more := range []int{len(loose) + 1, len(loose) + 300, 1 << 40, math.MaxInt} {
			b, _, _ := halfSafe(t)
			last := len(loose) - 1
			wantLeft(t, b, more, torn, safe+loose[:last]+string([]byte{loose[last] ^ torn}))
		}
	}
}

// P14.7: with nothing loose nothing is turned.
func TestCrashNothingLoose(t *testing.T) {
	for _, torn := range []byte{0, 1, 255} {
		for _, keep := range []int{math.MinInt, -1, 0, 1, 2, 100, math.MaxInt} {
			b := made(t, smallText, roomy(), 7)
			wantLeft(t, b, keep, torn, record(t, changed(7, smallText)))
			b, _, _ = halfSafe(t)
			wantSync(t, b)
			all := bytesOf(b)
			wantLeft(t, b, keep, torn, all)
			b = opened(t, all, roomy())
			wantLeft(t, b, keep, torn, all)
		}
	}
}

// P14.9: what is opened behind a crash is the book as it was behind some commit, whatever is kept and whatever is turned.
func TestOpenBehindCrash(t *testing.T) {
	_, safe, loose := halfSafe(t)
	ends := []int{0}
	l, _ := plainScan(loose)
	for _, c := range l {
		ends = append(ends, ends[len(ends)-1]+len(record(t, c)))
	}
	for _, torn := range []byte{0, 1, 2, 64, 128, 255} {
		for keep := -1; keep <= len(loose)+1; keep++ {
			b, _, _ := halfSafe(t)
			left, e := b.Crash(keep, torn)
			if e != api.OK {
				t.Fatal(e)
			}
			// The last commit whose record lies whole within what is left, or ahead of the byte that is turned.
			room := min(max(keep, 0), len(loose))
			if torn != 0 {
				room--
			}
			n := 0
			for n+1 < len(ends) && ends[n+1] <= room {
				n++
			}
			wantOpened(t, string(left), roomy(), len(safe)+ends[n], int64(8+n))
		}
	}
}

// P14.9: crash upon crash: what is opened is written on and crashes again; nothing that was safe is ever lost.
func TestCrashesAgain(t *testing.T) {
	b := made(t, smallText, api.Limits{Tuples: 50, Keep: 4}, 0)
	rev := int64(0)
	for i := range 40 {
		kept := bytesOf(b)
		wantWrite(t, b, rev+1, owners(api.ChangeTouch, i+1)...)
		if i%3 == 0 {
			wantSync(t, b)
			rev, kept = rev+1, bytesOf(b)
		}
		wantWrite(t, b, b.Store().Newest()+1)
		left, e := b.Crash(i%13, byte(i))
		if e != api.OK {
			t.Fatal(e)
		}
		b = opened(t, string(left), api.Limits{Tuples: 50, Keep: 4})
		wantSafe(t, b, kept)
		wantNewest(t, b, rev)
	}
	if rev != 14 {
		t.Errorf("%d", rev)
	}
}
