package feed

import (
	"latchkey/api"
	"latchkey/octets"
)

// token answers the feed's filter and place, with a sum, as letters.
func (x feed) token() string {
	var w octets.Writer
	for _, s := range texts(&x.let) {
		w.Text(*s)
	}
	w.Uint(uint64(x.at.rev))
	w.Uint(uint64(x.at.done))
	w.Uint(octets.Sum(w.Bytes()))
	return octets.Armor(w.Bytes())
}

// feedOf answers the feed whose token that is; false, if there is none. Nothing that is read is looked at by itself: it is a token just if it is, letter for letter, that of what was read of it.
func feedOf(token string) (feed, bool) {
	b, _ := octets.Unarmor(token)
	r := octets.Read(b)
	var x feed
	for _, s := range texts(&x.let) {
		*s = r.Text(r.Left())
	}
	rev, done := r.Uint(), r.Uint()
	if rev > api.MaxRev || done > api.MaxRev {
		return feed{}, false
	}
	x.at = place{rev: int64(rev), done: int(done)}
	return x, x.token() == token
}

// texts are those of a filter, to be read or written, in a token's order.
func texts(let *api.Filter) [7]*string {
	return [...]*string{&let.Type, &let.Id, &let.Rel, &let.Subject.Type, &let.Subject.Id, &let.Subject.Rel, &let.Cond}
}
