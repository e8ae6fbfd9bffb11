package tests

import (
	"math"
	"slices"
	"strconv"
	"strings"
	"testing"

	"loop.example/g00418/impl"
)

// shownKnots are right knots, each with the text that chapter 2 asks for.
var shownKnots = []struct {
	knot impl.Knot
	text string
}{
	{impl.Knot{}, "0 0 :"},
	{impl.Knot{Hand: 3}, "3 0 :"},
	{impl.Knot{Hand: 1, Word: "a"}, "1 0 : a"},
	{impl.Knot{Hand: 2, Round: 1, From: 7, Word: "put a 5"}, "2 1 0 1 2 : put a 5"},
	{impl.Knot{Round: 1, From: 1}, "0 1 0 :"},
	{impl.Knot{Hand: 3, Round: 19, From: 1 << 59}, "3 19 59 :"},
	{impl.Knot{Hand: 3, Round: 19, From: 1<<59 | 1, Word: "z9"}, "3 19 0 59 : z9"},
	{impl.Knot{Round: 10, From: 1<<9 | 1<<10 | 1<<31 | 1<<32, Word: "0"}, "0 10 9 10 31 32 : 0"},
	{impl.Knot{Word: "abcdefghijkl"}, "0 0 : abcdefghijkl"},
	{impl.Knot{Word: "mnopqrstuvwx"}, "0 0 : mnopqrstuvwx"},
	{impl.Knot{Word: "yz0123456789"}, "0 0 : yz0123456789"},
	{impl.Knot{Word: " "}, "0 0 :  "},
	{impl.Knot{Word: "  "}, "0 0 :   "},
	{impl.Knot{Word: strings.Repeat(" ", 12)}, "0 0 : " + strings.Repeat(" ", 12)},
	{impl.Knot{Word: " a"}, "0 0 :  a"},
	{impl.Knot{Word: "a "}, "0 0 : a "},
	{impl.Knot{Round: 2, From: 2, Word: "  a  b  "}, "0 2 1 :   a  b  "},
	{impl.Knot{Round: 2, From: 2, Word: "007 1"}, "0 2 1 : 007 1"},
}

// wrongKnots are right but for one thing each.
func wrongKnots() []impl.Knot {
	list := []impl.Knot{
		{Round: 0, From: 1}, {Round: 0, From: 1 << 59}, {Round: 0, From: fullSet},
		{Round: 1}, {Round: 19},
		{Word: "abcdefghijklm"}, {Word: strings.Repeat(" ", 13)}, {Word: strings.Repeat("a", 5000)},
		{Word: "é"}, {Word: "a\u00a0b"}, {Word: "aA"}, {Word: "a:"}, {Word: "a\nb"},
	}
	for _, n := range []int64{-1, -2, 4, 5, 256, 1 << 32, math.MinInt64, math.MaxInt64} {
		list = append(list, impl.Knot{Hand: n}, impl.Knot{Hand: n, Round: 1, From: 1})
	}
	for _, n := range []int64{-1, -19, 20, 21, 1 << 32, math.MinInt64, math.MaxInt64} {
		list = append(list, impl.Knot{Round: n}, impl.Knot{Round: n, From: 1})
	}
	for _, s := range wrongSets {
		list = append(list, impl.Knot{Round: 0, From: s}, impl.Knot{Round: 1, From: s}, impl.Knot{Round: 19, From: s})
	}
	return list
}

func TestKnotOk(t *testing.T) {
	for _, c := range shownKnots {
		if !impl.KnotOk(c.knot) {
			t.Errorf("KnotOk(%+v) is false", c.knot)
		}
	}
	for hand := int64(-2); hand <= 6; hand++ {
		for round := int64(-2); round <= 22; round++ {
			for _, from := range slices.Concat(rightSets, wrongSets) {
				k := impl.Knot{Hand: hand, Round: round, From: from}
				rightFrom := impl.SetOk(from) && (round == 0) == (from == 0)
				want := hand >= 0 && hand <= 3 && round >= 0 && round <= 19 && rightFrom
				if impl.KnotOk(k) != want {
					t.Errorf("KnotOk(%+v) is %v", k, !want)
				}
			}
		}
	}
}

func TestKnotOkOfEachByteOfAWord(t *testing.T) {
	for c := 0; c < 256; c++ {
		b := byte(c)
		want := b >= 'a' && b <= 'z' || b >= '0' && b <= '9' || b == ' '
		for _, word := range []string{string([]byte{b}), string([]byte{b, 'a'}), string([]byte{'a', b, '1'}), string([]byte("abcdefghijk")) + string([]byte{b})} {
			if k := (impl.Knot{Word: word}); impl.KnotOk(k) != want {
				t.Errorf("KnotOk(%+q) is %v", word, !want)
			}
		}
	}
}

func TestShowKnot(t *testing.T) {
	for _, c := range shownKnots {
		if got := impl.ShowKnot(c.knot); got != c.text {
			t.Errorf("ShowKnot(%+v) is %q, not %q", c.knot, got, c.text)
		}
	}
	members := make([]string, 60)
	for i := range members {
		members[i] = strconv.Itoa(i)
	}
	full := "1 19 " + strings.Join(members, " ") + " : x"
	if got := impl.ShowKnot(impl.Knot{Hand: 1, Round: 19, From: fullSet, Word: "x"}); got != full {
		t.Errorf("ShowKnot of a knot with all threads is %q", got)
	}
}

func TestWrongKnots(t *testing.T) {
	for _, k := range wrongKnots() {
		if impl.KnotOk(k) {
			t.Errorf("KnotOk(%+v) is true", k)
		}
		if got := impl.ShowKnot(k); got != "" {
			t.Errorf("ShowKnot(%+v) is %q", k, got)
		}
	}
}

func TestReadKnot(t *testing.T) {
	for _, c := range shownKnots {
		if got, is := impl.ReadKnot(c.text); !is || got != c.knot {
			t.Errorf("ReadKnot(%q) is %+v, %v", c.text, got, is)
		}
	}
}

func TestReadKnotOfWrongTexts(t *testing.T) {
	texts := []string{
		"", " ", ":", " :", ": ", "0", "0 0", "0 0 ", "0:", "0 :", "0 0:", "0 0: a", "0 0 :a", ": a", "a",
		// blanks
		" 0 0 :", "0  0 :", "0 0  :", "0 0 : ", "0 0 0 : ", "2 1  0 1 2 : x", "2 1 0  1 2 : x", "2  1 0 1 2 : x", "2 1 0 1 2  : x", " 2 1 0 1 2 : x",
		"0\t0 :", "0 0\t:", "0 0 :\t", "0 0\n:", "0 0 :\n", "0 0 : a\n", "\n0 0 :", "0 0\u00a0:",
		// numbers
		"00 0 :", "0 00 :", "02 1 0 1 2 : x", "2 01 0 1 2 : x", "2 1 00 1 2 : x", "2 1 0 01 2 : x", "2 1 0 1 02 : x",
		"-0 0 :", "0 -0 :", "+0 0 :", "0 +1 0 :", "0 1 +0 :", "0 1 -0 :", "0 0x1 0 :", "0 1_0 0 :", "0 1 1_0 :", "x 0 :", "0 x :", "0 1 x :", "0 1.0 0 :",
		"0000000000 0 :", "18446744073709551616 0 :", "0 18446744073709551616 :", "0 1 18446744073709551616 :", "0 1 9999999999 :", "٠ 0 :",
		// ranges
		"-1 0 :", "4 0 :", "4294967296 0 :", "0 -1 :", "0 -1 0 :", "0 20 0 :", "0 1 -1 :", "0 1 60 :", "0 1 0 60 :", "0 1 64 :", "0 1 0 -1 :", "0 1 -1 0 :",
		"0 0 0 :", "0 0 59 :", "0 1 :", "0 19 : a",
		// rising
		"2 1 1 0 2 : x", "2 1 0 2 1 : x", "2 1 0 0 : x", "2 1 0 1 1 2 : x", "2 1 59 0 : x", "2 1 10 9 : x", "0 1 0 60 1 :",
		// words
		"0 0 : A", "0 0 : a:", "0 0 : :", "0 0 ::", "0 0 : : a", "0 0 : a-b", "0 0 : é", "0 0 : a\x00", "0 0 : \xff",
		"0 0 : abcdefghijklm", "0 0 : " + strings.Repeat(" ", 13), "0 0 : " + strings.Repeat("a", 100000), "0 1 " + strings.Repeat("0 ", 100000) + ":",
	}
	for _, s := range texts {
		if got, is := impl.ReadKnot(s); is || got != (impl.Knot{}) {
			t.Errorf("ReadKnot(%.40q) is %+v, %v", s, got, is)
		}
	}
}

func TestReadKnotOfACutText(t *testing.T) {
	text := "2 12 0 1 59 :"
	for i := range len(text) {
		if got, is := impl.ReadKnot(text[:i]); is || got != (impl.Knot{}) {
			t.Errorf("ReadKnot(%q) is %+v, %v", text[:i], got, is)
		}
	}
}

// manyKnots are right knots: all hands and rounds, with many threads and words.
func manyKnots() []impl.Knot {
	words := []string{"", " ", "  ", "a", " a", "a ", " a ", "put a 5", "0", "12", "1 2", "zzzzzzzzzzzz", "            ", " 1234567890 "}
	var list []impl.Knot
	for hand := int64(0); hand < 4; hand++ {
		for round := int64(0); round <= impl.MaxRound; round++ {
			for _, from := range rightSets {
				for _, word := range words {
					if (round == 0) == (from == 0) {
						list = append(list, impl.Knot{Hand: hand, Round: round, From: from, Word: word})
					}
				}
			}
		}
	}
	return list
}

// Promise 2: ReadKnot of ShowKnot is the knot; and no two knots have one text.
func TestReadKnotOfShowKnotIsTheKnot(t *testing.T) {
	knots := map[string]impl.Knot{}
	for _, k := range manyKnots() {
		text := impl.ShowKnot(k)
		if got, is := impl.ReadKnot(text); !is || got != k {
			t.Fatalf("ShowKnot(%+v) is %q, of which ReadKnot is %+v, %v", k, text, got, is)
		}
		if other, is := knots[text]; is {
			t.Fatalf("%+v and %+v have one text", k, other)
		}
		knots[text] = k
	}
}

// A text is read only where ShowKnot makes it: whatever a change of one byte makes, it is refused or shown again as it is.
func TestWhatIsReadIsShownAsItWas(t *testing.T) {
	for _, c := range shownKnots {
		for i := 0; i <= len(c.text); i++ {
			for _, b := range []byte(" :0159-+aA\n\xc3") {
				changed := []string{c.text[:i] + string([]byte{b}) + c.text[i:]}
				if i < len(c.text) {
					changed = append(changed, c.text[:i]+string([]byte{b})+c.text[i+1:], c.text[:i]+c.text[i+1:])
				}
				for _, s := range changed {
					k, is := impl.ReadKnot(s)
					if is && (!impl.KnotOk(k) || impl.ShowKnot(k) != s) || !is && k != (impl.Knot{}) {
						t.Errorf("ReadKnot(%q) is %+v, %v", s, k, is)
					}
				}
			}
		}
	}
}
