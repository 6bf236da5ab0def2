package journal_test

import (
	"fmt"
	"strings"
	"testing"

	"latchkey/api"
	"latchkey/journal"
)

// P14.1, P14.2: 256 changes of tuples with as many arguments as there may be, each the longest, are written and read.
func TestGreatestChanges(t *testing.T) {
	texts := make([]string, api.MaxItems)
	for i := range texts {
		texts[i] = strings.Repeat("\x00", api.MaxBytes)
	}
	x := fact("d:1#r@u:a with c")
	for i := range api.MaxArgs {
		x.Args = append(x.Args, api.Arg{Name: fmt.Sprintf("a%02d", i), Value: api.Value{Kind: api.ValTexts, Texts: texts}})
	}
	c := written(api.MaxRev, api.Change{Kind: api.ChangeTouch, Tuple: x})
	wantRecord(t, c, plainRecord(c))
	for i := 1; i < api.MaxBatch; i++ {
		c.Changes = append(c.Changes, c.Changes[0])
	}
	b, e := journal.Record(c)
	if e != api.OK || len(b) < 256*131072 {
		t.Fatalf("%d bytes, %d", len(b), e)
	}
	l, n := journal.Scan(append(b, "l\x03\x05\x01"...))
	if len(l) != 1 || n != len(b) || len(l[0].Changes) != 256 || wholeTuple(l[0].Changes[255].Tuple) != wholeTuple(x) {
		t.Errorf("%d commits, %d bytes of %d", len(l), n, len(b))
	}
	c.Changes = append(c.Changes, c.Changes[0])
	wantNoRecord(t, api.Commit{Rev: 1, Kind: api.CommitWrite, Changes: c.Changes[:257]}, api.ErrLong)
}

// P14.2, P14.4: many records are gone through one behind the other, none of them twice.
func TestManyRecords(t *testing.T) {
	const many = 100000
	lim := api.Limits{Tuples: 3, Keep: 2}
	b := made(t, smallText, lim, 0)
	for i := range int64(many) {
		if rev, e := b.Write(nil, nil); rev != i+1 || e != api.OK {
			t.Fatalf("%d, %d", rev, e)
		}
	}
	all, _ := b.Bytes()
	l, n := journal.Scan(all)
	if len(l) != many+1 || n != len(all) || l[many].Rev != many {
		t.Errorf("%d commits, %d bytes of %d", len(l), n, len(all))
	}
	o, e := journal.Open(all, lim)
	if e != api.OK || o.Store().Newest() != many || o.Store().Oldest() != many-1 {
		t.Fatalf("%d", e)
	}
	if got, safe := o.Bytes(); string(got) != string(all) || safe != len(all) {
		t.Errorf("%d bytes of %d, %d safe", len(got), len(all), safe)
	}
}

// Any argument: long rows of bytes that are no records, and great lists, end in an answer.
func TestLongArguments(t *testing.T) {
	zeros := strings.Repeat("\x00", 1<<24)
	marks := strings.Repeat("l", 1<<24)
	nines := "l" + strings.Repeat("\xff", 1<<24)
	good := record(t, changed(0, smallText))
	for _, b := range []string{zeros, marks, nines} {
		wantScan(t, b, 0)
		wantScan(t, good+b, len(good), changed(0, smallText))
		wantNoOpen(t, b, roomy(), api.ErrRecord)
		wantSafe(t, opened(t, good+b, roomy()), good)
	}
	wantNone(t, sealed("\x05\x01\x80\x02"+strings.Repeat("\x01\x00", 1<<20)))
	long := fact("d:1#r@u:a")
	long.Object.Id = zeros
	wantNoRecord(t, written(1, api.Change{Kind: api.ChangeDelete, Tuple: long}), api.ErrTuple)
	long.Object.Id, long.Args = "1", make([]api.Arg, 1<<16)
	wantNoRecord(t, written(1, api.Change{Kind: api.ChangeInsert, Tuple: long}), api.ErrTuple)
	wantRecord(t, written(5, api.Change{Kind: api.ChangeDelete, Tuple: long}), record(t, written(5, out("d:1#r@u:a"))))
	b := made(t, smallText, roomy(), 0)
	wantNoChange(t, b, api.ErrLong, zeros)
	if book, e := journal.New(zeros, roomy(), 0); book != nil || e != api.ErrLong {
		t.Errorf("%v, %d", book != nil, e)
	}
}
