package journal

import (
	"errors"

	"latchkey/api"
	"latchkey/schema"
)

// Open answers the book of the records with which b begins, as far as its store takes their commits.
func Open(b []byte, lim api.Limits) (*Book, api.Errno) {
	o := opening{limits: lim}
	end := read(b, o.take)
	switch {
	case errors.Is(end, errLimits):
		return nil, o.refused
	case o.book == nil:
		return nil, api.ErrRecord
	}
	return o.book, o.book.Sync()
}

// opening makes a book of the commits that a reading hands over.
type opening struct {
	limits  api.Limits
	book    *Book
	refused api.Errno // why there is no store, if the limits are the reason
}

func (o *opening) take(c api.Commit) error {
	if o.book == nil {
		return o.begin(c)
	}
	return o.book.redo(c)
}

// begin makes the book of which c is the first commit.
func (o *opening) begin(c api.Commit) error {
	if c.Kind != api.CommitSchema {
		return errNoStart
	}
	m, fault := schema.Of(c.Schema)
	if fault.Err != api.OK {
		return errNoStart
	}
	o.book, o.refused = begun(m, o.limits, c.Rev)
	if o.refused != api.OK {
		return errLimits
	}
	return nil
}

// redo makes a commit again, if it is the next one.
func (b *Book) redo(c api.Commit) error {
	if c.Rev != b.store.Newest()+1 {
		return errRefused
	}
	var e api.Errno
	if c.Kind == api.CommitSchema {
		// Of a schema that is refused there is no model, which the store refuses in turn.
		m, _ := schema.Of(c.Schema)
		_, e = b.noted(b.store.Change(m))
	} else {
		_, e = b.Write(c.Changes, nil)
	}
	if e != api.OK {
		return errRefused
	}
	return nil
}
