package feed_test

import (
	"math"
	"strings"
	"testing"

	"latchkey/api"
	"latchkey/feed"
)

// P15.5: a token is the armor of the filter's texts, r, k and the sum of these, whatever the filter and the place.
func TestToken(t *testing.T) {
	_, f := example(t)
	wantFollow(t, f, 5, all, 1)
	if token, _ := f.Token(1); token != "aaaaaaaaaaaakahs6odkjiuh4h46kai" || token != plainToken(all, 5, 0) {
		t.Errorf("%s", token)
	}
	full := api.Filter{Type: "doc", Id: "1", Rel: "viewer", Subject: api.Subject{Type: "user", Id: "ann", Rel: "r"}, Cond: "c"}
	wantFollow(t, f, 9, full, 2)
	token, _ := f.Token(2)
	ahead := "\x03doc\x011\x06viewer\x04user\x03ann\x01r\x01c\x09\x00"
	if token != armored(ahead+number(sum(ahead))) {
		t.Errorf("%s", token)
	}
	// Each field stands where it must.
	for i, let := range []api.Filter{{Type: "a"}, {Id: "a"}, {Rel: "a"}, {Subject: api.Subject{Type: "a"}}, {Subject: api.Subject{Id: "a"}}, {Subject: api.Subject{Rel: "a"}}, {Cond: "a"}} {
		wantFollow(t, f, 6, let, i+3)
		token, e := f.Token(i + 3)
		if want := sealed(strings.Repeat("\x00", i) + "\x01a" + strings.Repeat("\x00", 6-i) + "\x06\x00"); token != want || e != api.OK {
			t.Errorf("%s, %d, want %s", token, e, want)
		}
	}
}

// P15.5: a token at each place, whether it is kept or not; it changes nothing, and is the same as long as nothing is taken.
func TestTokenAtPlaces(t *testing.T) {
	s, f := example(t)
	for id, let := range []api.Filter{{}, {Type: "doc"}, {Id: strings.Repeat("long", 100)}, {Rel: "owner"}} {
		wantFollow(t, f, 5, let, id+1)
	}
	for range 3 {
		wantToken(t, f, 1, all, 5, 0)
	}
	for _, at := range []spot{{5, 1}, {6, 0}, {7, 0}, {8, 1}, {9, 0}, {9, 0}} {
		wantTake(t, f, 1, 1, oneOf(t, f, 1)...)
		for range 3 {
			wantToken(t, f, 1, all, at.rev, at.done)
		}
	}
	wantTake(t, f, 3, 1)
	wantTake(t, f, 4, 1, events(6, in(o))...)
	write(t, s, touch(v), touch(o2))
	trim(t, s, 10)
	wantToken(t, f, 1, all, 9, 0)
	wantToken(t, f, 2, api.Filter{Type: "doc"}, 5, 0)
	wantToken(t, f, 3, api.Filter{Id: strings.Repeat("long", 100)}, 9, 0)
	wantToken(t, f, 4, api.Filter{Rel: "owner"}, 5, 1)
	wantNoTake(t, f, 4, 1, api.ErrGone)
	wantToken(t, f, 4, api.Filter{Rel: "owner"}, 5, 1)
}

// oneOf is the next event of a feed, taken of another one that was made of its token and is left again.
func oneOf(t *testing.T, f *feed.Feeds, id int) []api.Event {
	t.Helper()
	token, _ := f.Token(id)
	other, e := f.Resume(token)
	l, g := f.Take(other, 1)
	if h := f.Leave(other); e != api.OK || g != api.OK || h != api.OK {
		t.Errorf("%d, %d, %d", e, g, h)
	}
	return l
}

// P15.5, P15.7: a feed that is taken up goes on where the token says, the feed of the token being there still or not; at another store alike too.
func TestResume(t *testing.T) {
	l := sixers()
	for _, let := range []api.Filter{all, {Rel: "owner"}, {Rel: "viewer"}, {Cond: "d"}, {Type: "none"}} {
		var want []api.Event
		for _, x := range l {
			if plainLets(let, x.Change.Tuple) {
				want = append(want, x)
			}
		}
		for n := range len(want) + 2 {
			_, f := sixer(t)
			wantFollow(t, f, 0, let, 1)
			for range n {
				f.Take(1, 1)
			}
			token, e := f.Token(1)
			if e != api.OK {
				t.Fatal(e)
			}
			rest := want[min(n, len(want)):]
			wantResume(t, f, token, 2)
			wantTake(t, f, 2, 9, rest...)
			wantLeave(t, f, 1)
			wantResume(t, f, token, 3)
			wantTake(t, f, 3, 9, rest...)
			_, g := sixer(t)
			wantResume(t, g, token, 1)
			wantTake(t, g, 1, 9, rest...)
		}
	}
}

// someToken is one that the feeds of the example take.
func someToken() string { return plainToken(api.Filter{Type: "doc", Rel: "owner"}, 5, 1) }

// P15.5: a token with a letter turned, cut short anywhere, or grown, is none.
func TestResumeSpoilt(t *testing.T) {
	_, f := example(t)
	token := someToken()
	wantResume(t, f, token, 1)
	for i := range token {
		for c := range 256 {
			if b := string([]byte{byte(c)}); b != token[i:i+1] {
				wantNoResume(t, f, token[:i]+b+token[i+1:], api.ErrResume)
			}
		}
		wantNoResume(t, f, token[:i], api.ErrResume)
		wantNoResume(t, f, token[i+1:], api.ErrResume)
		wantNoResume(t, f, token[:i]+token[i+1:], api.ErrResume)
		for _, c := range []string{"a", "q", "7", "A", "=", " "} {
			if grown := token[:i] + c + token[i:]; grown != token {
				wantNoResume(t, f, grown, api.ErrResume)
			}
		}
	}
	for _, c := range []string{"a", "aa", "aaaaaaaa", "7", "=", " ", "\n", "\x00", token} {
		wantNoResume(t, f, token+c, api.ErrResume)
		wantNoResume(t, f, c+token, api.ErrResume)
	}
	for _, c := range []string{"", "a", "aa", "aaaaaaaa", strings.ToUpper(token), strings.Repeat("a", 100000), "no token", "\xff"} {
		wantNoResume(t, f, c, api.ErrResume)
	}
	wantResume(t, f, token, 2)
}

// P15.5: bytes that are no token's though their sum be right, or with a wrong sum.
func TestResumeForms(t *testing.T) {
	_, f := example(t)
	good := bytesOf(all, 5, 1)
	wantResume(t, f, sealed(good), 1)
	none := "\x00\x00\x00\x00\x00\x00\x00"
	for name, s := range map[string]string{
		"r of two bytes":           none + "\x85\x00\x01",
		"r of ten bytes":           none + "\x85\x80\x80\x80\x80\x80\x80\x80\x80\x00\x01",
		"k of two bytes":           none + "\x05\x81\x00",
		"k 0 of two bytes":         none + "\x05\x80\x00",
		"an empty text of two":     "\x80\x00" + none[1:] + "\x05\x01",
		"the last text of two":     none[1:] + "\x80\x00\x05\x01",
		"a text's length of two":   "\x83\x00doc" + none[1:] + "\x05\x01",
		"a text too few":           none[1:] + "\x05\x01",
		"a text too many":          none + "\x00\x05\x01",
		"a number too few":         none + "\x05",
		"a number too many":        good + "\x00",
		"a number too many, 7":     good + "\x07",
		"no number":                none,
		"nothing":                  "",
		"a text longer than all":   none[1:] + "\x7f\x05\x01",
		"a text of 2^63 bytes":     none[1:] + "\x80\x80\x80\x80\x80\x80\x80\x80\x80\x01\x05\x01",
		"a text of 2^64 - 1 bytes": none[1:] + "\xff\xff\xff\xff\xff\xff\xff\xff\xff\x01\x05\x01",
		"a text of no number":      none[1:] + "\xff\xff\xff\xff\xff\xff\xff\xff\xff\x02\x05\x01",
		"its own sum, twice":       good + number(sum(good)),
	} {
		t.Run(name, func(t *testing.T) { wantNoResume(t, f, sealed(s), api.ErrResume) })
	}
	own := sum(good)
	for name, s := range map[string]string{
		"no sum":                  "",
		"a sum one more":          number(own + 1),
		"a sum one less":          number(own - 1),
		"0":                       "\x00",
		"the first number's":      number(sum("")),
		"of the filter alone":     number(sum(good[:7])),
		"of all but k":            number(sum(good[:8])),
		"of all but a byte":       number(sum(good[1:])),
		"a byte behind":           number(own) + "\x00",
		"a sum twice":             number(own) + number(own),
		"eight bytes, highest":    string([]byte{byte(own >> 56), byte(own >> 48), byte(own >> 40), byte(own >> 32), byte(own >> 24), byte(own >> 16), byte(own >> 8), byte(own)}),
		"a sum cut short":         number(own)[:len(number(own))-1],
		"a sum in no one form":    number(own)[:len(number(own))-1] + string([]byte{number(own)[len(number(own))-1] | 0x80}) + "\x00",
		"a sum with its bits off": number(^own),
	} {
		t.Run(name, func(t *testing.T) { wantNoResume(t, f, armored(good+s), api.ErrResume) })
	}
	wantResume(t, f, armored(good+number(own)), 2)
}

// P15.5: r and k at MaxRev and beyond it.
func TestResumeNumbers(t *testing.T) {
	_, f := example(t)
	const most = api.MaxRev
	for _, c := range []struct {
		rev, done uint64
		want      api.Errno
	}{
		{10, 0, api.ErrFuture}, {10, 1, api.ErrFuture}, {most, 0, api.ErrFuture}, {most, most, api.ErrFuture}, {10, most, api.ErrFuture},
		{most + 1, 0, api.ErrResume}, {most + 1, most + 1, api.ErrResume}, {1 << 63, 0, api.ErrResume}, {math.MaxUint64, 0, api.ErrResume}, {1<<63 + 5, 0, api.ErrResume},
		{5, most + 1, api.ErrResume}, {10, most + 1, api.ErrResume}, {4, most + 1, api.ErrResume}, {5, 1<<63 + 1, api.ErrResume}, {5, 1 << 63, api.ErrResume}, {5, math.MaxUint64, api.ErrResume}, {9, 1 << 63, api.ErrResume},
		{5, most, api.ErrResume}, {9, most, api.ErrResume}, {4, most, api.ErrGone}, {0, 0, api.ErrGone}, {4, 1, api.ErrGone}, {4, 0, api.ErrGone},
		{5, 1 << 32, api.ErrResume}, {5, 1<<32 + 1, api.ErrResume}, {1<<32 + 5, 0, api.ErrFuture},
	} {
		wantNoResume(t, f, plainToken(all, c.rev, c.done), c.want)
	}
}

// P15.5: k up to the commit's changes: a feed stands only behind a change that its filter lets through, and ahead of another one.
func TestResumeWithin(t *testing.T) {
	// What each place within the first commit is good for, by filters: o, the team's, a viewer's.
	for _, c := range []struct {
		let  api.Filter
		want [5]api.Errno
	}{
		{all, [5]api.Errno{0, 0, 0, api.ErrResume, api.ErrResume}},
		{api.Filter{Type: "doc"}, [5]api.Errno{0, 0, api.ErrResume, api.ErrResume, api.ErrResume}},
		{api.Filter{Type: "team"}, [5]api.Errno{0, api.ErrResume, 0, api.ErrResume, api.ErrResume}},
		{api.Filter{Rel: "viewer"}, [5]api.Errno{0, api.ErrResume, api.ErrResume, api.ErrResume, api.ErrResume}},
		{api.Filter{Cond: "c"}, [5]api.Errno{0, api.ErrResume, api.ErrResume, api.ErrResume, api.ErrResume}},
		{api.Filter{Rel: "none"}, [5]api.Errno{0, api.ErrResume, api.ErrResume, api.ErrResume, api.ErrResume}},
	} {
		_, f := sixer(t)
		id := 1
		for done, want := range c.want {
			token := plainToken(c.let, 0, uint64(done))
			if want != api.OK {
				wantNoResume(t, f, token, want)
				continue
			}
			wantResume(t, f, token, id)
			var rest []api.Event
			for _, x := range sixers()[done:] {
				if plainLets(c.let, x.Change.Tuple) {
					rest = append(rest, x)
				}
			}
			wantTake(t, f, id, 9, rest...)
			id++
		}
	}
	_, f := sixer(t)
	// A commit of no changes, of a schema, of one change, the last one, and none.
	for _, at := range []spot{{1, 1}, {2, 1}, {3, 1}, {5, 1}, {6, 1}, {4, 2}, {4, 3}, {6, 2}} {
		wantNoResume(t, f, plainToken(all, uint64(at.rev), uint64(at.done)), api.ErrResume)
	}
	// A delete, with and without a Cond in the filter.
	wantResume(t, f, plainToken(api.Filter{Rel: "viewer"}, 4, 1), 1)
	wantNoResume(t, f, plainToken(api.Filter{Rel: "viewer", Cond: "c"}, 4, 1), api.ErrResume)
	wantNoResume(t, f, plainToken(api.Filter{Rel: "owner"}, 4, 1), api.ErrResume)
	wantTake(t, f, 1, 9)
}

// P15.5: a place behind which nothing stood can be taken up, where k is wrong, once a commit stands there.
func TestResumeLater(t *testing.T) {
	s, f := example(t)
	token := plainToken(all, 9, 1)
	wantNoResume(t, f, token, api.ErrResume)
	wantNoResume(t, f, plainToken(all, 10, 0), api.ErrFuture)
	write(t, s, touch(o), touch(v))
	wantResume(t, f, token, 1)
	wantTake(t, f, 1, 9, events(10, touch(v))...)
	wantResume(t, f, plainToken(all, 10, 0), 2)
}

// The chapter's errors, where two hold at once: of Resume.
func TestResumeOrder(t *testing.T) {
	s, f := example(t)
	for id := range 64 {
		wantFollow(t, f, 9, all, id+1)
	}
	spoil := func(rev, done uint64) string { return armored(bytesOf(all, rev, done) + "\x00") }
	for _, rev := range []uint64{0, 4, 5, 6, 9, 10, 11} {
		wantNoResume(t, f, spoil(rev, 0), api.ErrResume)
		wantNoResume(t, f, spoil(rev, 9), api.ErrResume)
	}
	wantNoResume(t, f, plainToken(all, 10, 0), api.ErrFuture)
	wantNoResume(t, f, plainToken(all, 10, 9), api.ErrFuture)
	wantNoResume(t, f, plainToken(all, 4, 0), api.ErrGone)
	wantNoResume(t, f, plainToken(all, 4, 9), api.ErrGone)
	wantNoResume(t, f, plainToken(all, 5, 9), api.ErrResume)
	wantNoResume(t, f, plainToken(all, 9, 1), api.ErrResume)
	wantNoResume(t, f, plainToken(all, 5, 1), api.ErrFull)
	wantNoResume(t, f, plainToken(all, 9, 0), api.ErrFull)
	trim(t, s, 8)
	wantNoResume(t, f, plainToken(all, 5, 9), api.ErrGone)
	wantNoResume(t, f, plainToken(all, 5, 1), api.ErrGone)
	wantNoResume(t, f, plainToken(all, 7, 1), api.ErrResume)
}
