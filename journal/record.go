package journal

import (
	"latchkey/api"
	"latchkey/octets"
	"latchkey/syntax"
	"latchkey/tuples"
)

// mark is the byte with which a record begins.
const mark = 108

// sum is what a record ends with: octets.Sum of all bytes ahead, the highest byte first.
type sum [8]byte

func sumOf(b []byte) sum {
	x := octets.Sum(b)
	var s sum
	for i := range s {
		s[len(s)-1-i] = byte(x >> (8 * i))
	}
	return s
}

// Record answers the record of a commit, or tells why it may not be written.
func Record(c api.Commit) ([]byte, api.Errno) {
	body, e := bodyOf(c)
	if e != api.OK {
		return nil, e
	}
	var w octets.Writer
	w.Byte(mark)
	w.Uint(uint64(len(body)))
	w.Raw(body)
	s := sumOf(w.Bytes())
	w.Raw(s[:])
	return w.Bytes(), api.OK
}

// bodyOf answers the body of a commit's record, or tells why it may not be written.
func bodyOf(c api.Commit) ([]byte, api.Errno) {
	if c.Rev < 0 || c.Rev > api.MaxRev {
		return nil, api.ErrArg
	}
	var w octets.Writer
	w.Uint(uint64(c.Rev))
	w.Byte(byte(c.Kind))
	e := api.ErrArg
	switch c.Kind {
	case api.CommitWrite:
		e = putChanges(&w, c.Changes)
	case api.CommitSchema:
		e = putSchema(&w, c.Schema)
	}
	if e != api.OK {
		return nil, e
	}
	return w.Bytes(), api.OK
}

func putChanges(w *octets.Writer, l []api.Change) api.Errno {
	if len(l) > api.MaxBatch {
		return api.ErrLong
	}
	w.Uint(uint64(len(l)))
	for _, c := range l {
		if c.Kind < api.ChangeInsert || c.Kind > api.ChangeTouch {
			return api.ErrArg
		}
		row, e := tuples.Encode(told(c))
		if e != api.OK {
			return e
		}
		w.Byte(byte(c.Kind))
		w.Text(string(row))
	}
	return api.OK
}

// told is what a change tells of its tuple: of a delete the key alone.
func told(c api.Change) api.Tuple {
	t := c.Tuple
	if c.Kind == api.ChangeDelete {
		t.Cond, t.Args = "", nil
	}
	return t
}

func putSchema(w *octets.Writer, s api.Schema) api.Errno {
	text, e := syntax.Print(s)
	if e != api.OK {
		return e
	}
	w.Text(text)
	return api.OK
}
