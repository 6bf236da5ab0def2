package octets

import "bytes"

// row is what a Writer has of bytes; whatever is put there goes behind.
type row struct {
	written []byte
}

func (r *row) put(b ...byte) {
	r.written = append(r.written, b...)
}

func (r *row) putText(s string) {
	r.written = append(r.written, s...)
}

func (r *row) putShort(x uint64) {
	for ; x >= more; x >>= 7 {
		r.put(byte(x) | more)
	}
	r.put(byte(x))
}

// copied hands out other memory, so that who has it and who writes on don't meet.
func (r *row) copied() []byte {
	return bytes.Clone(r.written)
}

// Writer takes bytes, one behind the other; its zero value has none. What its row does is promoted to it; but of a Writer that isn't there there is no row to be asked, so each method here looks first.
type Writer struct {
	row
}

// Byte writes x itself.
func (w *Writer) Byte(x byte) {
	if w != nil {
		w.put(x)
	}
}

// Uint writes the short form of x.
func (w *Writer) Uint(x uint64) {
	if w != nil {
		w.putShort(x)
	}
}

// Int writes the short form of x's turned form.
func (w *Writer) Int(x int64) {
	if w != nil {
		w.putShort(turned(x))
	}
}

// Real writes the key of x, the highest byte first.
func (w *Writer) Real(x float32) {
	if w != nil {
		k := key(x)
		w.put(byte(k>>24), byte(k>>16), byte(k>>8), byte(k))
	}
}

// Text writes how many bytes s has, and these.
func (w *Writer) Text(s string) {
	if w != nil {
		w.putShort(uint64(len(s)))
		w.putText(s)
	}
}

// Raw writes the bytes of b, and nothing by which their number is told.
func (w *Writer) Raw(b []byte) {
	if w != nil {
		w.put(b...)
	}
}

// Bytes is all that was written.
func (w *Writer) Bytes() []byte {
	if w == nil {
		return nil
	}
	return w.copied()
}
