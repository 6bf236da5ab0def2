package journal_test

import (
	"fmt"
	"math"
	"slices"
	"strings"
	"testing"

	"latchkey/api"
	"latchkey/journal"
)

// someCommits have all kinds of changes, subjects and values, and schemas.
func someCommits() []api.Commit {
	return []api.Commit{
		changed(7, wideText),
		written(8),
		written(9, in("doc:1#owner@user:ann"), touch("doc:1#viewer@team:x#member with d{x: 0.75}"), in("doc:1#viewer@user:*")),
		changed(10, wideText+" cond e(): true"),
		written(11, touch(`doc:1#viewer@user:ann with c{at: -300, l: ["b", "", "\xff\x00"]}`), out("doc:1#owner@user:ann")),
		written(12, out("doc:1#viewer@user:*")),
	}
}

// P14.2: records one behind the other, cut short at every byte: those that are whole are told, and their bytes.
func TestScanCutShort(t *testing.T) {
	l := someCommits()
	all := records(t, l...)
	whole, end := 0, 0
	next := len(record(t, l[0]))
	for n := range len(all) + 1 {
		if n == end+next {
			whole, end = whole+1, n
			next = math.MaxInt32
			if whole < len(l) {
				next = len(record(t, l[whole]))
			}
		}
		wantScan(t, all[:n], end, l[:whole]...)
		// Each record by itself, cut short, is none.
		wantScan(t, all[end:n], 0)
	}
	if whole != len(l) || end != len(all) {
		t.Errorf("%d, %d", whole, end)
	}
	wantScan(t, "", 0)
	if l, n := journal.Scan(nil); len(l) != 0 || n != 0 {
		t.Errorf("%v, %d", l, n)
	}
}

// P14.2: where Rev, or what was written ahead, makes no sense, records are records all the same.
func TestScanLooksAtRecordsAlone(t *testing.T) {
	l := []api.Commit{written(9, in("a:1#b@c:d"), in("a:1#b@c:d")), written(9), written(3), changed(3, "type a type a"), written(api.MaxRev), written(0, out("z:1#y@x:w"))}
	all := records(t, l...)
	wantScan(t, all, len(all), l...)
	wantScan(t, all+"x", len(all), l...)
}

// P14.2: a record with a byte turned, wherever (the mark, the length, the body, the sum), is none, and what stands behind it isn't told.
func TestScanTurned(t *testing.T) {
	ahead, behind := record(t, written(8)), record(t, written(10))
	for _, c := range someCommits() {
		b := record(t, c)
		for i := range len(b) {
			for _, x := range []byte{1, 2, 4, 8, 16, 32, 64, 128, 255, b[i]} {
				if x == 0 {
					continue
				}
				turned := b[:i] + string([]byte{b[i] ^ x}) + b[i+1:]
				wantScan(t, turned, 0)
				wantScan(t, ahead+turned+behind, len(ahead), written(8))
			}
		}
		// Two bytes of the sum that stand in one another's place.
		n := len(b)
		if b[n-1] != b[n-8] {
			wantScan(t, b[:n-8]+b[n-1:]+b[n-7:n-1]+b[n-8:n-7], 0)
		}
	}
}

// wantNone asks that no record stands there, neither at the beginning nor behind another one, whatever stands behind it.
func wantNone(t *testing.T, b string) {
	t.Helper()
	good := record(t, written(8))
	wantScan(t, b, 0)
	wantScan(t, b+good, 0)
	wantScan(t, good+b, len(good), written(8))
	wantScan(t, good+b+good, len(good), written(8))
}

const tupleBytes = "\x01d\x011\x01r\x01u\x01a\x00\x00\x00" // of d:1#r@u:a

// P14.2: a number or a text that isn't in its one form makes a body that is no commit's, though the sum be right.
func TestScanForms(t *testing.T) {
	wantScan(t, sealed("\x05\x01\x01\x01\x0d"+tupleBytes), 28, written(5, in("d:1#r@u:a")))
	for name, body := range map[string]string{
		"a Rev of two bytes":               "\x85\x00\x01\x00",
		"a Rev of ten bytes":               "\x85\x80\x80\x80\x80\x80\x80\x80\x80\x00\x01\x00",
		"a count of two bytes":             "\x05\x01\x80\x00",
		"a count of two bytes, 1":          "\x05\x01\x81\x00\x01\x0d" + tupleBytes,
		"a tuple's length of two bytes":    "\x05\x01\x01\x01\x8d\x00" + tupleBytes,
		"a length of two in a tuple":       "\x05\x01\x01\x01\x0e\x81\x00" + tupleBytes[1:],
		"a count of two bytes in a tuple":  "\x05\x01\x01\x01\x0e" + tupleBytes[:12] + "\x80\x00",
		"a schema's length of two bytes":   "\x05\x02\x87\x00type a\n",
		"an empty one's length of two":     "\x05\x02\x80\x00",
		"a schema without a line's end":    "\x05\x02\x06type a",
		"a schema with a blank too many":   "\x05\x02\x08type  a\n",
		"a schema with a line too many":    "\x05\x02\x08type a\n\n",
		"a schema with a remark":           "\x05\x02\x09type a//\n",
		"a schema of a blank":              "\x05\x02\x01 ",
		"a condition ahead of a type":      "\x05\x02" + text("cond c(): true\ntype a\n"),
		"needless parentheses":             "\x05\x02" + text("type a\n  relation r: (s)\n"),
		"a text that can't be read":        "\x05\x02\x05type\n",
		"a text that can't be cut":         "\x05\x02\x02\"\n",
		"a number that isn't in its form":  "\x05\x02" + text("cond c(): 01\n"),
		"a real that isn't in its form":    "\x05\x02" + text("cond c(): 1.50\n"),
		"a value that is too much":         "\x05\x02" + text("cond c(): 9223372036854775808\n"),
		"33 types":                         "\x05\x02" + text(strings.Repeat("type a\n", 33)),
		"a value's int of two":             "\x05\x01\x01\x01" + text("\x01d\x011\x01r\x01u\x01a\x00\x01c\x01\x01n\x03\x02\x80\x00"),
		"a value's bool of 2":              "\x05\x01\x01\x01" + text("\x01d\x011\x01r\x01u\x01a\x00\x01c\x01\x01n\x02\x01\x02"),
		"a real's key that is none":        "\x05\x01\x01\x01" + text("\x01d\x011\x01r\x01u\x01a\x00\x01c\x01\x01n\x05\x03\xff\xc0\x00\x01"),
		"arguments that don't rise":        "\x05\x01\x01\x01" + text("\x01d\x011\x01r\x01u\x01a\x00\x01c\x02\x01n\x02\x01\x00\x01m\x02\x01\x00"),
		"arguments without a condition":    "\x05\x01\x01\x01" + text("\x01d\x011\x01r\x01u\x01a\x00\x00\x01\x01n\x02\x01\x00"),
		"a tuple without an Id":            "\x05\x01\x01\x01" + text("\x01d\x00\x01r\x01u\x01a\x00\x00\x00"),
		"a tuple of nothing":               "\x05\x01\x01\x01\x00",
		"a tuple with a byte left over":    "\x05\x01\x01\x01\x0e" + tupleBytes + "\x00",
		"a tuple cut short":                "\x05\x01\x01\x01\x0c" + tupleBytes[:12],
		"a tuple longer than what is left": "\x05\x01\x01\x01\x0e" + tupleBytes,
		"a schema longer than what's left": "\x05\x02\x08type a\n",
		"a delete with a Cond":             "\x05\x01\x01\x02" + text("\x01d\x011\x01r\x01u\x01a\x00\x01c\x00"),
		"a delete with a Cond and Args":    "\x05\x01\x01\x02" + text("\x01d\x011\x01r\x01u\x01a\x00\x01c\x01\x01n\x02\x01\x00"),
	} {
		t.Run(name, func(t *testing.T) { wantNone(t, sealed(body)) })
	}
	// The same tuple with a Cond may be inserted.
	wantScan(t, sealed("\x05\x01\x01\x01"+text("\x01d\x011\x01r\x01u\x01a\x00\x01c\x00")), 29, written(5, in("d:1#r@u:a with c")))
}

// P14.2: bodies with bytes left over, with too few, with kinds and numbers that aren't.
func TestScanBodies(t *testing.T) {
	for _, c := range someCommits() {
		body := plainBody(c)
		wantScan(t, sealed(body), len(sealed(body)), c)
		for i := range len(body) {
			wantNone(t, sealed(body[:i]))
		}
		for _, more := range []string{"\x00", "\x01", "l", body} {
			wantNone(t, sealed(body+more))
		}
	}
	wantNone(t, sealed(""))
	for kind := range 256 {
		b := string([]byte{byte(kind)})
		if kind != api.CommitWrite && kind != api.CommitSchema {
			wantNone(t, sealed("\x05"+b+"\x00"))
			wantNone(t, sealed("\x05"+b))
		}
		if kind < api.ChangeInsert || kind > api.ChangeTouch {
			wantNone(t, sealed("\x05\x01\x01"+b+"\x0d"+tupleBytes))
		}
	}
	for _, rev := range []string{
		"\x81\x80\x80\x80\x80\x80\x80\x80\x40",     // MaxRev + 1
		"\xff\xff\xff\xff\xff\xff\xff\xff\x7f",     // 2^63 - 1
		"\x80\x80\x80\x80\x80\x80\x80\x80\x80\x01", // 2^63
		"\xff\xff\xff\xff\xff\xff\xff\xff\xff\x01", // 2^64 - 1
		"\xff\xff\xff\xff\xff\xff\xff\xff\xff\x02",
		"\x80\x80\x80\x80\x80\x80\x80\x80\x80\x80\x01",
	} {
		wantNone(t, sealed(rev+"\x01\x00"))
		wantNone(t, sealed(rev+"\x02\x00"))
	}
	for _, count := range []uint64{0, 2, 256, 257, 1 << 20, 1 << 31, 1 << 32, 1 << 63, math.MaxUint64} {
		wantNone(t, sealed("\x05\x01"+number(count)+"\x01\x0d"+tupleBytes))
		if count > 0 {
			wantNone(t, sealed("\x05\x01"+number(count)))
		}
	}
}

// P14.2: lengths that aren't the body's, that are in another form, that are greater than what is left, and marks that are none.
func TestScanLengths(t *testing.T) {
	const body = "\x05\x01\x00"
	for _, n := range []uint64{0, 1, 2, 4, 5, 11, 12, 13, 14, 127, 128, 1 << 20, 1<<31 - 1, 1 << 31, 1 << 32, 1<<63 - 1, 1 << 63, 1<<64 - 8, math.MaxUint64} {
		wantNone(t, summed("\x6c"+number(n)+body))
		wantNone(t, "\x6c"+number(n)+summed(body))
	}
	for _, form := range []string{"\x83\x00", "\x83\x80\x00", "\x83\x80\x80\x80\x80\x80\x80\x80\x80\x00", "\xff\xff\xff\xff\xff\xff\xff\xff\xff\x02", "\x83", ""} {
		wantNone(t, summed("\x6c"+form+body))
	}
	for mark := range 256 {
		if mark != 108 {
			wantNone(t, summed(string([]byte{byte(mark)})+text(body)))
		}
	}
	// The length is right, and the sum is there: but of the body alone, of the record without its mark, the lowest byte first, or cut short.
	good := sealed(body)
	wantNone(t, "\x6c"+text(body)+summed(body)[3:])
	wantNone(t, "\x6c"+summed(text(body)))
	turned := []byte(good)
	for i := range 4 {
		turned[5+i], turned[12-i] = turned[12-i], turned[5+i]
	}
	wantNone(t, string(turned))
	wantScan(t, good[:12], 0)
	wantScan(t, good[1:], 0)
	wantScan(t, "\x00"+good, 0)
	wantScan(t, good, 13, written(5))
}

// P14.2: what comes of each change of a byte of a body, the sum being right, is told by the chapter's words.
func TestScanEveryByte(t *testing.T) {
	commits := slices.DeleteFunc(someCommits(), func(c api.Commit) bool { return c.Kind == api.CommitSchema })
	for _, c := range append(commits, written(300, out("d:1#r@u:a")), changed(7, "type a relation r: [a with c] not s cond c(t: text): t in [\"x\"]")) {
		body := plainBody(c)
		told := 0
		for i := range len(body) {
			for x := range 256 {
				told += wantPlain(t, sealed(body[:i]+string([]byte{byte(x)})+body[i+1:]))
			}
			wantPlain(t, sealed(body[:i]+body[i+1:]))
			wantPlain(t, sealed(body[:i]+body[i:i+1]+body[i:]))
		}
		if told < len(body) {
			t.Errorf("%d of %d", told, len(body))
		}
	}
}

// wantPlain holds Scan against the chapter's words, and answers how many commits there are.
func wantPlain(t *testing.T, b string) int {
	t.Helper()
	want, ends := plainScan(b)
	n := 0
	if len(ends) > 0 {
		n = ends[len(ends)-1]
	}
	wantScan(t, b, n, want...)
	l, _ := journal.Scan([]byte(b))
	if again := records(t, l...); again != b[:n] {
		t.Errorf("%x is written again as %x", b[:n], again)
	}
	return len(want)
}

// P14.2: what the Kind of a commit doesn't say is empty; of a delete Cond and Args.
func TestScanTellsNoMore(t *testing.T) {
	c := written(1, out("d:1#r@u:a with c{n: 1}"), in("d:1#r@u:b with c{n: 1}"))
	c.Schema = parsed(smallText)
	d := changed(2, smallText)
	d.Changes = owners(api.ChangeInsert, 3)
	l, n := journal.Scan([]byte(records(t, c, d)))
	if len(l) != 2 || n != len(records(t, c, d)) {
		t.Fatalf("%v, %d", l, n)
	}
	if len(l[0].Schema.Types) != 0 || len(l[0].Schema.Conds) != 0 || len(l[1].Changes) != 0 {
		t.Errorf("%s", wholeCommits(l))
	}
	if x := l[0].Changes[0].Tuple; x.Cond != "" || len(x.Args) != 0 {
		t.Errorf("%s", wholeTuple(x))
	}
	if x := l[0].Changes[1].Tuple; x.Cond != "c" || len(x.Args) != 1 {
		t.Errorf("%s", fmt.Sprint(x))
	}
}
