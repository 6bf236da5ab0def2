package journal_test

import (
	"encoding/binary"
	"hash/fnv"
	"math"

	"latchkey/api"
	"latchkey/schema"
	"latchkey/store"
	"latchkey/syntax"
	"latchkey/tuples"
)

// What the chapter says, said another way than the package says it: bytes by the library's own numbers and sum, put together and cut apart by hand.

func number(x uint64) string { return string(binary.AppendUvarint(nil, x)) }

func text(s string) string { return number(uint64(len(s))) + s }

// summed is bytes with their sum behind them: it is the library's FNV-1a of 64 bits.
func summed(ahead string) string {
	h := fnv.New64a()
	h.Write([]byte(ahead))
	return string(h.Sum([]byte(ahead)))
}

// sealed is a record with that body, whatever it is.
func sealed(body string) string { return summed("\x6c" + text(body)) }

func plainValue(v api.Value) string {
	s := string([]byte{byte(v.Kind)})
	switch v.Kind {
	case api.ValBool:
		if v.Bool {
			return s + "\x01"
		}
		return s + "\x00"
	case api.ValInt:
		return s + string(binary.AppendVarint(nil, v.Int))
	case api.ValReal:
		bits := math.Float32bits(v.Real)
		switch {
		case v.Real != v.Real:
			bits = 0xffc00000
		case bits>>31 == 1:
			bits = ^bits
		default:
			bits |= 1 << 31
		}
		return s + string(binary.BigEndian.AppendUint32(nil, bits))
	case api.ValText:
		return s + text(v.Text)
	}
	s += number(uint64(len(v.Texts)))
	for _, x := range v.Texts {
		s += text(x)
	}
	return s
}

func plainTuple(x api.Tuple) string {
	s := text(x.Object.Type) + text(x.Object.Id) + text(x.Rel) + text(x.Subject.Type) + text(x.Subject.Id) + text(x.Subject.Rel) + text(x.Cond)
	s += number(uint64(len(x.Args)))
	for _, a := range x.Args {
		s += text(a.Name) + text(plainValue(a.Value))
	}
	return s
}

// plainBody is the body of a commit that may be written.
func plainBody(c api.Commit) string {
	s := number(uint64(c.Rev)) + string([]byte{byte(c.Kind)})
	if c.Kind == api.CommitSchema {
		return s + text(schemaText(c.Schema))
	}
	s += number(uint64(len(c.Changes)))
	for _, x := range c.Changes {
		if x.Kind == api.ChangeDelete {
			x.Tuple = api.Tuple{Object: x.Tuple.Object, Rel: x.Tuple.Rel, Subject: x.Tuple.Subject}
		}
		s += string([]byte{byte(x.Kind)}) + text(plainTuple(x.Tuple))
	}
	return s
}

func plainRecord(c api.Commit) string { return sealed(plainBody(c)) }

// scanner cuts bytes apart; once something isn't there as it must be, it is wrong for good.
type scanner struct {
	rest  string
	wrong bool
}

func (s *scanner) take(n uint64) string {
	if s.wrong = s.wrong || n > uint64(len(s.rest)); s.wrong {
		return ""
	}
	x := s.rest[:n]
	s.rest = s.rest[n:]
	return x
}

func (s *scanner) byte() int {
	if x := s.take(1); x != "" {
		return int(x[0])
	}
	return -1
}

// number takes a number in the one form that it has.
func (s *scanner) number() uint64 {
	x, n := binary.Uvarint([]byte(s.rest))
	if n <= 0 || number(x) != s.rest[:n] {
		s.wrong = true
		return 0
	}
	s.take(uint64(n))
	return x
}

func (s *scanner) text() string { return s.take(s.number()) }

func (s *scanner) change() api.Change {
	kind := s.byte()
	x, e := tuples.Decode([]byte(s.text()))
	isMore := kind == api.ChangeDelete && (x.Cond != "" || len(x.Args) > 0)
	s.wrong = s.wrong || kind < 1 || kind > 3 || e != api.OK || isMore
	return api.Change{Kind: kind, Tuple: x}
}

func (s *scanner) commit() api.Commit {
	rev := s.number()
	c := api.Commit{Rev: int64(rev), Kind: s.byte()}
	s.wrong = s.wrong || rev > 1<<62
	switch c.Kind {
	case api.CommitWrite:
		n := s.number()
		s.wrong = s.wrong || n > 256
		for i := uint64(0); i < n && !s.wrong; i++ {
			c.Changes = append(c.Changes, s.change())
		}
	case api.CommitSchema:
		source := s.text()
		tree, spot := syntax.Parse(source)
		own, e := syntax.Print(tree)
		s.wrong = s.wrong || spot.Err != api.OK || e != api.OK || own != source
		c.Schema = tree
	default:
		s.wrong = true
	}
	s.wrong = s.wrong || s.rest != ""
	return c
}

// plainScan tells the commits of the records with which b begins, and where each record ends.
func plainScan(b string) ([]api.Commit, []int) {
	var l []api.Commit
	var ends []int
	s := scanner{rest: b}
	for {
		ahead := s.rest
		s.wrong = s.byte() != 108
		body := s.text()
		own := summed(ahead[:len(ahead)-len(s.rest)])
		s.take(8)
		inner := scanner{rest: body}
		c := inner.commit()
		if s.wrong || inner.wrong || own != ahead[:len(ahead)-len(s.rest)] {
			return l, ends
		}
		l, ends = append(l, c), append(ends, len(b)-len(s.rest))
	}
}

// plainOpen tells the store of the book that is opened, and how many bytes that book has.
func plainOpen(b string, lim api.Limits) (*store.Store, int, api.Errno) {
	l, ends := plainScan(b)
	if len(l) == 0 || l[0].Kind != api.CommitSchema {
		return nil, 0, api.ErrRecord
	}
	m, fault := schema.Of(l[0].Schema)
	if fault.Err != api.OK {
		return nil, 0, api.ErrRecord
	}
	s, e := store.New(m, lim, l[0].Rev)
	if e != api.OK {
		return nil, 0, e
	}
	for i, c := range l[1:] {
		if c.Rev-1 != s.Newest() {
			return s, ends[i], api.OK
		}
		if c.Kind == api.CommitWrite {
			_, e = s.Write(c.Changes, nil)
		} else if m, fault = schema.Of(c.Schema); fault.Err == api.OK {
			_, e = s.Change(m)
		} else {
			e = fault.Err
		}
		if e != api.OK {
			return s, ends[i], api.OK
		}
	}
	return s, ends[len(ends)-1], api.OK
}
