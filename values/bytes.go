package values

import (
	"bytes"

	"latchkey/api"
	"latchkey/octets"
)

// Encode writes v's bytes.
func Encode(v api.Value) ([]byte, api.Errno) {
	if e := Check(v); e != api.OK {
		return nil, e
	}
	var w octets.Writer
	w.Byte(byte(v.Kind))
	write(&w, held(v))
	return w.Bytes(), api.OK
}

// write writes what a value holds.
func write(w *octets.Writer, x any) {
	switch x := x.(type) {
	case bool:
		w.Byte(bit(x))
	case int64:
		w.Int(x)
	case float32:
		w.Real(x)
	case string:
		w.Text(x)
	case []string:
		w.Uint(uint64(len(x)))
		for _, s := range x {
			w.Text(s)
		}
	}
}

// Decode reads a value's bytes.
func Decode(b []byte) (api.Value, api.Errno) {
	// What was read is held against b whole, so that neither a bool 2 nor a read that was refused nor bytes left over need be told apart.
	v := read(octets.Read(b))
	if again, e := Encode(v); e != api.OK || !bytes.Equal(again, b) {
		return api.Value{}, api.ErrBytes
	}
	return v, api.OK
}

// read reads the value whose bytes stand there, if there is one; else any, or none.
func read(r *octets.Reader) api.Value {
	v := api.Value{Kind: int(r.Byte())}
	switch v.Kind {
	case api.ValBool:
		v.Bool = r.Byte() != 0
	case api.ValInt:
		v.Int = r.Int()
	case api.ValReal:
		v.Real = r.Real()
	case api.ValText:
		v.Text = r.Text(api.MaxBytes)
	case api.ValTexts:
		v.Texts = readTexts(r)
	}
	return v
}

func readTexts(r *octets.Reader) []string {
	var texts []string
	// A number may say far more than there is, so no more are read than a list may have.
	for range min(r.Uint(), api.MaxItems) {
		texts = append(texts, r.Text(api.MaxBytes))
	}
	return texts
}
