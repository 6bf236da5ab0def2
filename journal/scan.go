package journal

import (
	"bytes"
	"errors"
	"strconv"

	"latchkey/api"
	"latchkey/octets"
	"latchkey/syntax"
	"latchkey/tuples"
)

// The reasons for which a reading ends.
var (
	errNoRecord = errors.New("what stands there is no record")
	errNoStart  = errors.New("the first commit is none with which a book begins")
	errLimits   = errors.New("a store refuses to begin with these limits")
	errRefused  = errors.New("the store refuses the commit")
)

// ending is what ends a reading: behind how many bytes, and for which reason, which it wraps.
type ending struct {
	at     int
	reason error
}

func (e ending) Error() string {
	return "byte " + strconv.Itoa(e.at) + ": " + e.reason.Error()
}

func (e ending) Unwrap() error {
	return e.reason
}

// Scan answers the commits of the records with which b begins, and how many bytes these have.
func Scan(b []byte) ([]api.Commit, int) {
	var commits []api.Commit
	end := read(b, func(c api.Commit) error {
		commits = append(commits, c)
		return nil
	})
	return commits, end.at
}

// read hands the commits of the records with which b begins to take, one behind the other, until no record stands there or take has a reason to end.
func read(b []byte, take func(c api.Commit) error) ending {
	// One Reader for all: each has bytes of its own, and one a record would copy all that is left each time.
	r := octets.Read(b)
	for {
		at := len(b) - r.Left()
		c, err := next(r, b[at:])
		if err == nil {
			err = take(c)
		}
		if err != nil {
			return ending{at: at, reason: err}
		}
	}
}

// next reads the record that stands where r is, which has the bytes of left still to read, and answers its commit.
func next(r *octets.Reader, left []byte) (api.Commit, error) {
	first, size := r.Byte(), r.Uint()
	if first != mark || size > uint64(r.Left()) {
		return api.Commit{}, errNoRecord
	}
	body := r.Raw(int(size))
	ahead := left[:len(left)-r.Left()]
	var own sum
	copy(own[:], r.Raw(len(own)))
	if r.Err() != api.OK || own != sumOf(ahead) {
		return api.Commit{}, errNoRecord
	}
	return commitOf(body)
}

// commitOf answers the commit of a body. Nothing that is read is looked at by itself: a body is some commit's just if it is, byte for byte, that of what was read of it.
func commitOf(body []byte) (api.Commit, error) {
	r := octets.Read(body)
	c := api.Commit{Rev: int64(r.Uint()), Kind: int(r.Byte())}
	switch c.Kind {
	case api.CommitWrite:
		c.Changes = readChanges(r)
	case api.CommitSchema:
		c.Schema, _ = syntax.Parse(r.Text(api.MaxSource))
	}
	if own, e := bodyOf(c); e != api.OK || !bytes.Equal(own, body) {
		return api.Commit{}, errNoRecord
	}
	return c, nil
}

// readChanges reads how many changes there are, and these; more than there may be aren't gone through.
func readChanges(r *octets.Reader) []api.Change {
	count := r.Uint()
	if count > api.MaxBatch {
		return nil
	}
	var l []api.Change
	for range count {
		kind := int(r.Byte())
		t, _ := tuples.Decode([]byte(r.Text(r.Left())))
		l = append(l, api.Change{Kind: kind, Tuple: t})
	}
	return l
}
