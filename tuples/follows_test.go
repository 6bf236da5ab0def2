package tuples_test

import (
	"testing"

	"latchkey/api"
	"latchkey/schema"
	"latchkey/tuples"
)

// P10.7: what fits a model may be; of what may be Parse of Text and Decode of Encode are the same, and Text has at most MaxLine bytes.
func TestThereAndBack(t *testing.T) {
	fitted := 0
	for n := range int64(600) {
		c := makerOf(n, []int{0, 30}[n%2])
		m, _ := schema.Of(c.schema())
		for range 50 {
			x := c.tuple()
			s, e := tuples.Text(x)
			b, f := tuples.Encode(x)
			if fits := tuples.Check(m, x); fits == api.OK && (e != api.OK || f != api.OK) {
				t.Errorf("%s fits, but has no text, %d, or no bytes, %d", show(x), e, f)
			} else if fits == api.OK {
				fitted++
			}
			if e != f || e != api.OK && e != api.ErrTuple || len(s) > api.MaxLine {
				t.Errorf("%s: %d, %d, %d bytes", show(x), e, f, len(s))
			}
			if e != api.OK {
				continue
			}
			if got, e := tuples.Parse(s); !tuples.Same(got, x) || e != api.OK {
				t.Errorf("%s: read as %s, %d", s, show(got), e)
			}
			if got, e := tuples.Decode(b); !tuples.Same(got, x) || e != api.OK {
				t.Errorf("% x: read as %s, %d", b, show(got), e)
			}
		}
	}
	if fitted < 5000 {
		t.Errorf("%d fitted", fitted)
	}
}

// P10.7: what Parse and Decode answer has that text, these bytes; unlike tuples have unlike ones.
func TestBackAndThere(t *testing.T) {
	c := makerOf(2, 0)
	taken := 0
	for range 40000 {
		s := c.any(written()...)
		i := c.Intn(len(s) + 1)
		s = s[:i] + c.any("", "a", "1", "#", ":", "}", " ", "\"", c.any(written()...)) + s[min(i+c.Intn(2), len(s)):]
		x, e := tuples.Parse(s)
		if e != api.OK {
			continue
		}
		taken++
		if got, f := tuples.Text(x); got != s || f != api.OK {
			t.Errorf("%s: %s, %d", show(s), show(got), f)
		}
		b, _ := tuples.Encode(x)
		y, f := tuples.Decode(b)
		if got, g := tuples.Encode(y); f != api.OK || g != api.OK || string(got) != string(b) || !tuples.Same(x, y) {
			t.Errorf("% x: % x, %d, %d", b, got, f, g)
		}
	}
	if taken < 2000 {
		t.Errorf("%d taken", taken)
	}
}

// P10.7, P4.9: what Parse answers of nan is the one nan of the reals, whatever bits came in.
func TestOneNan(t *testing.T) {
	x := under(fact("d:1#r@u:a with c"), arg("k", real32(-nan())))
	s, _ := tuples.Text(x)
	b, _ := tuples.Encode(x)
	y, _ := tuples.Parse(s)
	z, _ := tuples.Decode(b)
	want := under(x, arg("k", real32(nan())))
	if !alike(y, want) || !alike(z, want) || !tuples.Same(x, y) {
		t.Errorf("%+v, %+v", y, z)
	}
	// A nought beside another kind may be of either sign; it is read as 0.
	x.Args[0].Value = api.Value{Kind: api.ValInt, Int: 1, Real: low()}
	s, _ = tuples.Text(x)
	if y, e := tuples.Parse(s); !tuples.Same(x, y) || !alike(y, under(x, arg("k", whole(1)))) || e != api.OK {
		t.Errorf("%+v, %d", y, e)
	}
}
