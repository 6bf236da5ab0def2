package feed_test

import (
	"encoding/base32"
	"encoding/binary"
	"hash/fnv"
	"slices"
	"strings"
	"testing"

	"latchkey/api"
	"latchkey/store"
	"latchkey/tuples"
)

// What the chapter says, said another way than the package says it: letters, numbers and the sum by the library's own, changes as one long list.

func number(x uint64) string { return string(binary.AppendUvarint(nil, x)) }

func text(s string) string { return number(uint64(len(s))) + s }

func sum(s string) uint64 {
	h := fnv.New64a()
	h.Write([]byte(s))
	return h.Sum64()
}

var letters = base32.StdEncoding.WithPadding(base32.NoPadding)

func armored(s string) string { return strings.ToLower(letters.EncodeToString([]byte(s))) }

// sealed is a token of these bytes, whatever they are, with the right sum.
func sealed(s string) string { return armored(s + number(sum(s))) }

// fields are a filter's, in a token's order.
func fields(let api.Filter) []string {
	return []string{let.Type, let.Id, let.Rel, let.Subject.Type, let.Subject.Id, let.Subject.Rel, let.Cond}
}

// bytesOf are a token's bytes, but for the sum.
func bytesOf(let api.Filter, rev, done uint64) string {
	s := ""
	for _, x := range fields(let) {
		s += text(x)
	}
	return s + number(rev) + number(done)
}

func plainToken(let api.Filter, rev, done uint64) string { return sealed(bytesOf(let, rev, done)) }

func plainLets(let api.Filter, x api.Tuple) bool {
	has := []string{x.Object.Type, x.Object.Id, x.Rel, x.Subject.Type, x.Subject.Id, x.Subject.Rel, x.Cond}
	for i, s := range fields(let) {
		if s != "" && s != has[i] {
			return false
		}
	}
	return true
}

// told is a change as a commit tells it: of a delete the key alone.
func told(c api.Change) api.Change {
	if c.Kind == api.ChangeDelete {
		c.Tuple = api.Tuple{Object: c.Tuple.Object, Rel: c.Tuple.Rel, Subject: c.Tuple.Subject}
	}
	return c
}

// diary is a store, and all that was ever written to it, gone or not.
type diary struct {
	store   *store.Store
	start   int64
	oldest  int64
	commits [][]api.Change // those behind the start; of a schema none
}

func diaryOf(t *testing.T, text string, lim api.Limits, start int64) *diary {
	t.Helper()
	return &diary{store: newStore(t, text, lim, start), start: start, oldest: start}
}

func (d *diary) newest() int64 { return d.start + int64(len(d.commits)) }

// made notes what the store has made, if it has made something, and says whether it has.
func (d *diary) made(e api.Errno, l []api.Change) bool {
	if e != api.OK {
		return false
	}
	var row []api.Change
	for _, c := range l {
		row = append(row, told(c))
	}
	d.commits = append(d.commits, row)
	d.oldest = max(d.oldest, d.newest()-int64(d.store.Limits().Keep)+1)
	return true
}

func (d *diary) write(l ...api.Change) bool {
	_, e := d.store.Write(l, nil)
	return d.made(e, l)
}

func (d *diary) change(text string) bool {
	_, e := d.store.Change(model(text))
	return d.made(e, nil)
}

func (d *diary) trim(oldest int64) {
	if d.store.Trim(oldest) == api.OK {
		d.oldest = oldest
	}
}

// isKept says whether each revision above rev has a commit that is told.
func (d *diary) isKept(rev int64) bool {
	for r := rev + 1; r <= d.newest(); r++ {
		if r < d.oldest || r == d.start {
			return false
		}
	}
	return true
}

// item is an event that a feed tells, and the place right behind it.
type item struct {
	event api.Event
	at    spot
}

type spot struct {
	rev  int64
	done int
}

// since are all events, by the filter, of the revisions behind rev, but for the first done changes.
func (d *diary) since(let api.Filter, at spot) []item {
	var l []item
	for rev := at.rev + 1; rev <= d.newest(); rev++ {
		row := d.commits[rev-d.start-1]
		for i, c := range row {
			x := item{api.Event{Rev: rev, Change: c}, spot{rev - 1, i + 1}}
			if i == len(row)-1 {
				x.at = spot{rev, 0}
			}
			isAhead := rev == at.rev+1 && i < at.done
			if !isAhead && plainLets(let, c.Tuple) {
				l = append(l, x)
			}
		}
	}
	return l
}

// eventsSince are the events alone.
func (d *diary) eventsSince(let api.Filter, at spot) []api.Event {
	var l []api.Event
	for _, x := range d.since(let, at) {
		l = append(l, x.event)
	}
	return l
}

// key is what tells two tuples apart.
type key struct {
	object  api.Object
	rel     string
	subject api.Subject
}

func keyOf(x api.Tuple) key { return key{x.Object, x.Rel, x.Subject} }

// byKeys are a snapshot's tuples.
func byKeys(s *store.Snap) map[key]api.Tuple {
	all := map[key]api.Tuple{}
	for x := range s.All() {
		all[keyOf(x)] = x
	}
	return all
}

// plainDiff is what the chapter says that Diff tells.
func plainDiff(a, b *store.Snap) []api.Change {
	was, is := byKeys(a), byKeys(b)
	var l []api.Change
	for k, x := range was {
		if _, stays := is[k]; !stays {
			l = append(l, told(api.Change{Kind: api.ChangeDelete, Tuple: x}))
		}
	}
	for k, x := range is {
		y, wasThere := was[k]
		if !wasThere {
			l = append(l, api.Change{Kind: api.ChangeInsert, Tuple: x})
		} else if wholeTuple(x) != wholeTuple(y) {
			l = append(l, api.Change{Kind: api.ChangeTouch, Tuple: x})
		}
	}
	slices.SortFunc(l, func(x, y api.Change) int { return tuples.Compare(x.Tuple, y.Tuple) })
	return l
}

func wantPlainDiff(t *testing.T, a, b *store.Snap) {
	t.Helper()
	if was, now := wholeChanges(plainDiff(a, b)), wholeChanges(diff(t, a, b)); was != now {
		t.Errorf("Diff:\n%s\nwant\n%s", show(now), show(was))
	}
}
