package tokens_test

import (
	"slices"
	"testing"

	"latchkey/api"
	"latchkey/tokens"
)

// DOC.md, Memory: the list that comes in is left as it is, the room behind its end too.
func TestPrintLeavesItsList(t *testing.T) {
	room := []api.Token{tok("n", "a"), tok("t", "b\n"), tok("e", ""), {Kind: 9, Text: "behind", Line: 3, Col: 4}}
	for n := range len(room) {
		before := slices.Clone(room)
		tokens.Print(room[:n])
		if !slices.Equal(room, before) {
			t.Errorf("Print of %d tokens has changed its list: %s", n, told(room))
		}
	}
	wrong := []api.Token{tok("n", "a"), tok("m", "!"), tok("e", "")}
	before := slices.Clone(wrong)
	tokens.Print(wrong[:2])
	if !slices.Equal(wrong, before) {
		t.Errorf("Print has changed what it refused: %s", told(wrong))
	}
}

// DOC.md, Memory: the list that goes out is the caller's, with the room behind it.
func TestScanHandsOutItsOwn(t *testing.T) {
	for _, text := range []string{"", "a", "a + b", `"a\n" 7`} {
		one, _ := tokens.Scan(text)
		two, _ := tokens.Scan(text)
		want := slices.Clone(two)
		one = one[:cap(one)]
		for i := range one {
			one[i] = api.Token{Kind: 9, Text: "gone"}
		}
		three, _ := tokens.Scan(text)
		if !slices.Equal(two, want) || !slices.Equal(three, want) {
			t.Errorf("%q: what was written into one answer shows in another: %s, %s", text, told(two), told(three))
		}
	}
}

// DOC.md, Sameness and Any argument: a list that is nil or empty is the same.
func TestNilAndEmpty(t *testing.T) {
	for _, l := range [][]api.Token{nil, {}, make([]api.Token, 0, 4)} {
		wantPrinted(t, "", l...)
	}
}

// DOC.md, Sameness: the same call answers the same, whatever else runs.
func TestSideBySide(t *testing.T) {
	const text = "type doc // x\n[a:*] 1.5e-3 \"\\n\" !="
	want, _ := tokens.Scan(text)
	done := make(chan bool)
	for range 8 {
		go func() {
			same := true
			for range 200 {
				l, spot := tokens.Scan(text)
				s, e := tokens.Print(l)
				same = same && slices.Equal(l, want) && spot == (api.Spot{}) && s == `type doc [ a : * ] 1.5e-3 "\n" !=` && e == api.OK
			}
			done <- same
		}()
	}
	for range 8 {
		if !<-done {
			t.Error("an answer differs while others run")
		}
	}
}
