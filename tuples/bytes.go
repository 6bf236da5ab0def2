package tuples

import (
	"latchkey/api"
	"latchkey/octets"
	"latchkey/values"
)

// Encode answers t's bytes.
func Encode(t api.Tuple) ([]byte, api.Errno) {
	if !mayBe(t) {
		return nil, api.ErrTuple
	}
	var w octets.Writer
	for _, s := range [...]string{t.Object.Type, t.Object.Id, t.Rel, t.Subject.Type, t.Subject.Id, t.Subject.Rel, t.Cond} {
		w.Text(s)
	}
	w.Uint(uint64(len(t.Args)))
	for _, a := range t.Args {
		value, _ := values.Encode(a.Value)
		w.Text(a.Name)
		w.Text(string(value))
	}
	return w.Bytes(), api.OK
}

// Decode answers the tuple whose bytes b are.
func Decode(b []byte) (api.Tuple, api.Errno) {
	r := octets.Read(b)
	var t api.Tuple
	t.Object.Type = r.Text(api.MaxName)
	t.Object.Id = r.Text(api.MaxId)
	t.Rel = r.Text(api.MaxName)
	t.Subject.Type = r.Text(api.MaxName)
	t.Subject.Id = r.Text(api.MaxId)
	t.Subject.Rel = r.Text(api.MaxName)
	t.Cond = r.Text(api.MaxName)
	args, ok := readArgs(r)
	t.Args = args
	if !ok || r.End() != api.OK || !mayBe(t) {
		return api.Tuple{}, api.ErrTuple
	}
	return t, api.OK
}

// readArgs reads how many arguments there are, and these; whether they may be isn't asked here, but more than there may be aren't gone through.
func readArgs(r *octets.Reader) ([]api.Arg, bool) {
	count := r.Uint()
	if count > api.MaxArgs {
		return nil, false
	}
	var args []api.Arg
	for range count {
		name := r.Text(api.MaxName)
		value, err := values.Decode([]byte(r.Text(r.Left())))
		if err != api.OK {
			return nil, false
		}
		args = append(args, api.Arg{Name: name, Value: value})
	}
	return args, true
}
