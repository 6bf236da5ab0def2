package shelf_test

import (
	"testing"

	"latchkey/shelf"
)

// The chapter's first example.
func TestExample1(t *testing.T) {
	s := shelf.New(byNumber)
	wantBool(t, "Add 5a", s.Add(one("5a")), true)
	wantBool(t, "Add 5b", s.Add(one("5b")), false)
	x, ok := s.Find(one("5z"))
	wantPair(t, "Find 5z", x, ok, "5a")
	wantBool(t, "Put 5c", s.Put(one("5c")), true)
	wantBool(t, "Put 2d", s.Put(one("2d")), false)
	wantSeq(t, "All", s.All(), "2d 5c")
	wantBool(t, "Remove 9x", s.Remove(one("9x")), false)
	wantBool(t, "Remove 5x", s.Remove(one("5x")), true)
	if s.Len() != 1 {
		t.Error(s.Len())
	}
}

// The chapter's second example.
func TestExample2(t *testing.T) {
	s := made("2d 5c 7e")
	for i, want := range map[int]string{0: "2d", 2: "7e", 3: "", -1: ""} {
		x, ok := s.Nth(i)
		wantPair(t, "Nth", x, ok, want)
	}
	for n, want := range map[int]int{5: 1, 6: 2, 0: 0} {
		if got := s.Rank(pair{n, '?'}); got != want {
			t.Errorf("Rank %d: %d", n, got)
		}
	}
	wantSeq(t, "From 3", s.From(one("3?")), "5c 7e")
	wantSeq(t, "From 9", s.From(one("9?")), "")
}

// The chapter's third example.
func TestExample3(t *testing.T) {
	s := made("2d 5c 7e")
	f := s.Freeze()
	wantBool(t, "Remove", s.Remove(one("5?")), true)
	wantSeq(t, "the first one", s.All(), "2d 7e")
	wantSeq(t, "the second one", f.All(), "2d 5c 7e")
	wantBool(t, "Put", f.Put(one("5k")), true)
	x, ok := s.Find(one("5?"))
	wantPair(t, "Find", x, ok, "")
	wantSeq(t, "the second one", f.All(), "2d 5k 7e")
}

// The chapter's fourth example.
func TestExample4(t *testing.T) {
	wantSeq(t, "Join", shelf.Join(byNumber, seq("1a 3b"), seq("2c 3d"), nil), "1a 2c 3b")
	a, b := seq("1a 3b 4c"), seq("3x 4y 5z")
	wantSeq(t, "Meet", shelf.Meet(byNumber, a, b), "3b 4c")
	wantSeq(t, "Without", shelf.Without(byNumber, a, b), "1a")
	wantSeq(t, "Join of none", shelf.Join(byNumber), "")
}

// The chapter's fifth example.
func TestExample5(t *testing.T) {
	s := seq("2d 5c 7e")
	wantGather(t, s, 2, of("2d 5c"), true)
	wantGather(t, s, 3, of("2d 5c 7e"), false)
	wantGather(t, s, 0, nil, true)
	wantGather(t, s, -1, nil, true)
	wantGather[pair](t, nil, 5, nil, false)
}
