package tests

import (
	"math"
	"slices"
	"strings"
	"testing"

	"loop.example/g00418/impl"
)

// shownDeeds are right deeds, each with the text that chapter 16 asks for.
var shownDeeds = []struct {
	deed impl.Deed
	text string
}{
	{impl.Deed{Kind: impl.DdPut, Key: "a", Value: 5}, "put a 5"},
	{impl.Deed{Kind: impl.DdPut, Key: "ab"}, "put ab 0"},
	{impl.Deed{Kind: impl.DdPut, Key: "abc", Value: 99}, "put abc 99"},
	{impl.Deed{Kind: impl.DdPut, Key: "put", Value: 1}, "put put 1"},
	{impl.Deed{Kind: impl.DdCut, Key: "a"}, "cut a"},
	{impl.Deed{Kind: impl.DdCut, Key: "zz"}, "cut zz"},
	{impl.Deed{Kind: impl.DdCut, Key: "cut"}, "cut cut"},
	{impl.Deed{Kind: impl.DdAdd, Key: "z"}, "add z 0"},
	{impl.Deed{Kind: impl.DdAdd, Key: "if", Value: 10}, "add if 10"},
	{impl.Deed{Kind: impl.DdAdd, Key: "add", Value: 99}, "add add 99"},
	{impl.Deed{Kind: impl.DdIf, Key: "ab", Value: 5, New: 7}, "if ab 5 7"},
	{impl.Deed{Kind: impl.DdIf, Key: "a"}, "if a 0 0"},
	{impl.Deed{Kind: impl.DdIf, Key: "if", Value: 99}, "if if 99 0"},
	{impl.Deed{Kind: impl.DdIf, Key: "m", New: 99}, "if m 0 99"},
	{impl.Deed{Kind: impl.DdIf, Key: "xyz", Value: 99, New: 99}, "if xyz 99 99"},
	{impl.Deed{Kind: impl.DdIf, Key: "x", Value: 9, New: 9}, "if x 9 9"},
}

// wrongDeeds are right but for what is told of each.
func wrongDeeds() map[string][]impl.Deed {
	wrong := map[string][]impl.Deed{
		"the zero Deed":    {{}},
		"a cut with Value": {{Kind: impl.DdCut, Key: "a", Value: 1}, {Kind: impl.DdCut, Key: "a", Value: 99}, {Kind: impl.DdCut, Key: "a", Value: -1}, {Kind: impl.DdCut, Key: "a", Value: math.MinInt64}},
		"a cut with New":   {{Kind: impl.DdCut, Key: "a", New: 1}, {Kind: impl.DdCut, Key: "a", New: 99}, {Kind: impl.DdCut, Key: "a", New: -1}},
		"a cut with both":  {{Kind: impl.DdCut, Key: "a", Value: 5, New: 5}, {Kind: impl.DdCut, Key: "a", Value: -1, New: 1}},
		"a put with New":   {{Kind: impl.DdPut, Key: "a", New: 1}, {Kind: impl.DdPut, Key: "a", Value: 5, New: 99}, {Kind: impl.DdPut, Key: "a", Value: 5, New: -1}},
		"an add with New":  {{Kind: impl.DdAdd, Key: "a", New: 1}, {Kind: impl.DdAdd, Key: "a", Value: 5, New: 99}, {Kind: impl.DdAdd, Key: "a", Value: 5, New: -1}},
	}
	for _, kind := range []int64{0, 5, -1, -4, 6, 256 + 1, 1<<32 + 1, math.MinInt64, math.MaxInt64} {
		why := "no such Kind"
		wrong[why] = append(wrong[why], impl.Deed{Kind: kind, Key: "a"}, impl.Deed{Kind: kind, Key: "a", Value: 5}, impl.Deed{Kind: kind, Key: "a", Value: 5, New: 7})
	}
	for kind := int64(impl.DdPut); kind <= impl.DdIf; kind++ {
		for _, key := range []string{"", "abcd", "abcde", " ", "a b", " a", "a ", "aB", "A", "1", "a1", "a-", "é", "a\x00", "\xff", "ab\n", "`", "{", strings.Repeat("a", 300)} {
			why := "no Key"
			wrong[why] = append(wrong[why], impl.Deed{Kind: kind, Key: key})
		}
	}
	for _, n := range []int64{100, 101, -1, -99, 1 << 32, math.MinInt64, math.MaxInt64} {
		why := "a number out of range"
		wrong[why] = append(wrong[why],
			impl.Deed{Kind: impl.DdPut, Key: "a", Value: n}, impl.Deed{Kind: impl.DdAdd, Key: "a", Value: n},
			impl.Deed{Kind: impl.DdIf, Key: "a", Value: n}, impl.Deed{Kind: impl.DdIf, Key: "a", New: n}, impl.Deed{Kind: impl.DdIf, Key: "a", Value: n, New: n})
	}
	return wrong
}

// plainDeedOk says what the words of chapter 16 say.
func plainDeedOk(d impl.Deed) bool {
	for i := range len(d.Key) {
		if !strings.Contains("abcdefghijklmnopqrstuvwxyz", d.Key[i:i+1]) {
			return false
		}
	}
	key, value, other := len(d.Key) >= 1 && len(d.Key) <= 3, d.Value >= 0 && d.Value <= 99, d.New >= 0 && d.New <= 99
	return key && (d.Kind == 1 && value && d.New == 0 ||
		d.Kind == 2 && d.Value == 0 && d.New == 0 ||
		d.Kind == 3 && value && d.New == 0 ||
		d.Kind == 4 && value && other)
}

// manyDeeds are right deeds: each key with each kind, and each number with some keys.
func manyDeeds() []impl.Deed {
	signs := strings.Split("abcdefghijklmnopqrstuvwxyz", "")
	keys := slices.Clone(signs)
	for _, a := range signs {
		for _, b := range signs {
			keys = append(keys, a+b)
			for _, c := range signs {
				keys = append(keys, a+b+c)
			}
		}
	}
	var list []impl.Deed
	for _, key := range keys {
		list = append(list, impl.Deed{Kind: impl.DdCut, Key: key}, impl.Deed{Kind: impl.DdPut, Key: key, Value: 4}, impl.Deed{Kind: impl.DdAdd, Key: key, Value: 40}, impl.Deed{Kind: impl.DdIf, Key: key, Value: 8, New: 80})
	}
	for _, key := range []string{"b", "if", "put"} {
		for value := int64(0); value <= 99; value++ {
			if value != 4 {
				list = append(list, impl.Deed{Kind: impl.DdPut, Key: key, Value: value})
			}
			if value != 40 {
				list = append(list, impl.Deed{Kind: impl.DdAdd, Key: key, Value: value})
			}
			for other := int64(0); other <= 99; other++ {
				if value != 8 || other != 80 {
					list = append(list, impl.Deed{Kind: impl.DdIf, Key: key, Value: value, New: other})
				}
			}
		}
	}
	return list
}

func TestDeedsOfEachKindAreNumberedAsToldInTheDocument(t *testing.T) {
	if impl.DdPut != 1 || impl.DdCut != 2 || impl.DdAdd != 3 || impl.DdIf != 4 {
		t.Error(impl.DdPut, impl.DdCut, impl.DdAdd, impl.DdIf)
	}
}

func TestDeedOk(t *testing.T) {
	for _, c := range shownDeeds {
		if !impl.DeedOk(c.deed) {
			t.Errorf("DeedOk(%+v) is false", c.deed)
		}
	}
	numbers := []int64{0, 1, 9, 10, 50, 98, 99, 100, 101, -1, -2, -99, 256, 1 << 32, math.MinInt64, math.MaxInt64}
	keys := []string{"", "a", "z", "m", "ab", "zz", "abc", "zzz", "if", "abcd", "zzzz", "a1", "A", " ", "a b", "ab\n", "é"}
	right := 0
	for kind := int64(-3); kind <= 8; kind++ {
		for _, key := range keys {
			for _, value := range numbers {
				for _, other := range numbers {
					d := impl.Deed{Kind: kind, Key: key, Value: value, New: other}
					want := plainDeedOk(d)
					if want {
						right++
					}
					if impl.DeedOk(d) != want {
						t.Errorf("DeedOk(%+v) is %v", d, !want)
					}
				}
			}
		}
	}
	// 8 keys: one cut of each, 7 values of put and add, 49 of if.
	if right != 8*(1+7+7+49) {
		t.Errorf("the test says little: %d right deeds", right)
	}
}

func TestDeedOkOfEachByteOfAKey(t *testing.T) {
	for c := 0; c < 256; c++ {
		b := string([]byte{byte(c)})
		want := c >= 'a' && c <= 'z'
		for _, key := range []string{b, b + "a", "a" + b, b + "bc", "a" + b + "c", "ab" + b} {
			for _, d := range []impl.Deed{{Kind: impl.DdPut, Key: key, Value: 3}, {Kind: impl.DdCut, Key: key}, {Kind: impl.DdAdd, Key: key, Value: 3}, {Kind: impl.DdIf, Key: key, Value: 3, New: 4}} {
				if impl.DeedOk(d) != want {
					t.Errorf("DeedOk(%+v) is %v", d, !want)
				}
				if got := impl.ShowDeed(d); (got != "") != want {
					t.Errorf("ShowDeed(%+v) is %q", d, got)
				}
			}
		}
	}
}

func TestShowDeed(t *testing.T) {
	for _, c := range shownDeeds {
		if got := impl.ShowDeed(c.deed); got != c.text {
			t.Errorf("ShowDeed(%+v) is %q, not %q", c.deed, got, c.text)
		}
	}
}

func TestWrongDeeds(t *testing.T) {
	for why, list := range wrongDeeds() {
		for _, d := range list {
			if impl.DeedOk(d) {
				t.Errorf("%s: DeedOk(%+v) is true", why, d)
			}
			if got := impl.ShowDeed(d); got != "" {
				t.Errorf("%s: ShowDeed(%+v) is %q", why, d, got)
			}
		}
	}
}

func TestReadDeed(t *testing.T) {
	for _, c := range shownDeeds {
		if got, is := impl.ReadDeed(c.text); !is || got != c.deed {
			t.Errorf("ReadDeed(%q) is %+v and %v", c.text, got, is)
		}
	}
}

func TestReadDeedOfWrongTexts(t *testing.T) {
	cases := map[string][]string{
		"nothing":                 {"", " ", "  ", "   ", "\n", "\x00"},
		"a word too few":          {"put", "cut", "add", "if", "put a", "add a", "if a", "if a 1", "put 5", "a 5", "a"},
		"a word too many":         {"put a 5 7", "cut a 5", "cut a 0", "cut a b", "add a 5 7", "add a 5 0", "if a 1 2 3", "if a 1 2 0", "put put a 5", "put a b 5", "put a 5 if a 1 2"},
		"a blank ahead":           {" put a 5", " cut a", " add a 5", " if a 1 2", "  cut a"},
		"a blank behind":          {"put a 5 ", "cut a ", "add a 5 ", "if a 1 2 ", "cut a  ", "put ", "put a ", "if a 1 ", "cut "},
		"a blank twice":           {"put  a 5", "put a  5", "cut  a", "add  a 5", "add a  5", "if  a 1 2", "if a  1 2", "if a 1  2"},
		"another blank":           {"put\ta 5", "put a\t5", "cut\ta", "cut\na", "if a 1\n2", "put a\u00a05", "put\u00a0a 5", "cut a\n", "\ncut a", "put a 5\r"},
		"a nought ahead":          {"put a 05", "put a 00", "add a 01", "add a 099", "if a 01 2", "if a 1 02", "if a 00 0", "if a 0 00", "put a 0000000005"},
		"a sign":                  {"put a +5", "put a -5", "put a -0", "put a +0", "add a -1", "if a -1 2", "if a 1 -2", "if a +1 2", "if a 1 +2", "if a -0 0", "if a 0 -0"},
		"a number too great":      {"put a 100", "add a 100", "if a 100 0", "if a 0 100", "put a 999", "put a 256", "put a 999999999", "put a 1000000000", "put a 4294967297", "add a 18446744073709551617", "if a 1 18446744073709551618"},
		"no number":               {"put a b", "put a ", "add a x", "if a x 1", "if a 1 x", "put a 5x", "put a x5", "put a 0x5", "put a 1_0", "put a 5.0", "put a 1e1", "put a ٥", "put a five"},
		"an unknown word ahead":   {"set a 5", "pu a 5", "putt a 5", "xput a 5", "Put a 5", "PUT a 5", "CUT a", "Add a 5", "IF a 1 2", "iff a 1 2", "i a 1 2", "1 a 5", "2 a", "a a 5", "put5 a 5", "get a", "none a", "0 a", "\x00 a"},
		"another kind's":          {"cut a 5", "put a", "add a", "if a 5", "put a 5 7", "add a 5 7", "cut a 5 7"},
		"a key of none":           {"put  5", "cut ", "add  5", "if  1 2"},
		"a key of four":           {"put abcd 5", "cut abcd", "add abcd 5", "if abcd 1 2", "cut aaaaaaaaaaaa"},
		"a byte that is no sign":  {"put A 5", "put a1 5", "put 5 5", "cut 1", "cut a-b", "cut a:", "cut é", "cut \xff", "cut a\x00", "add `a 5", "add a{ 5", "if aB 1 2", "if _ 1 2", "put\x00a 5", "put a\x005", "\xffcut a"},
		"a comma or a colon":      {"put a,5", "put a=5", "put:a 5", "put a 5,", "if a 1,2", "put a 5;cut a"},
		"a text of great length":  {strings.Repeat("put a 5 ", 20000), strings.Repeat(" ", 100000), "put a " + strings.Repeat("5", 100000), "cut " + strings.Repeat("a", 100000), strings.Repeat("if", 50000) + " a 1 2"},
		"words in another order":  {"a put 5", "5 a put", "put 5 a", "if 1 a 2", "if 1 2 a", "a cut"},
		"a kind without its name": {" a 5", " a", " a 1 2", "  "},
	}
	for why, texts := range cases {
		for _, s := range texts {
			if got, is := impl.ReadDeed(s); is || got != (impl.Deed{}) {
				t.Errorf("%s: ReadDeed(%.40q) is %+v and %v", why, s, got, is)
			}
		}
	}
}

func TestReadDeedOfACutText(t *testing.T) {
	// Of these each beginning but the whole is no deed's text.
	for _, text := range []string{"put abc 5", "cut a", "add abc 9", "if abc 1 2"} {
		for i := range len(text) {
			if got, is := impl.ReadDeed(text[:i]); is || got != (impl.Deed{}) {
				t.Errorf("ReadDeed(%q) is %+v and %v", text[:i], got, is)
			}
		}
		if _, is := impl.ReadDeed(text); !is {
			t.Errorf("ReadDeed(%q) is false", text)
		}
	}
}

// Promise 16: ReadDeed of ShowDeed is the deed; and no two deeds have one text.
func TestReadDeedOfShowDeedIsTheDeed(t *testing.T) {
	deeds := map[string]impl.Deed{}
	for _, d := range manyDeeds() {
		text := impl.ShowDeed(d)
		if got, is := impl.ReadDeed(text); !is || got != d || !impl.DeedOk(d) {
			t.Fatalf("ShowDeed(%+v) is %q, of which ReadDeed is %+v and %v", d, text, got, is)
		}
		if other, is := deeds[text]; is {
			t.Fatalf("%+v and %+v have one text", d, other)
		}
		deeds[text] = d
	}
	if len(deeds) != 4*(26+26*26+26*26*26)+3*(99+99+9999) {
		t.Errorf("the test says little: %d deeds", len(deeds))
	}
}

// What is done with a book is told in the word of a knot, so each deed's text is one.
func TestShowDeedIsAWord(t *testing.T) {
	for _, d := range manyDeeds() {
		if word := impl.ShowDeed(d); !impl.KnotOk(impl.Knot{Word: word}) {
			t.Fatalf("ShowDeed(%+v) is %q, which no knot may have", d, word)
		}
	}
}

// A text is read only where ShowDeed makes it: whatever a change of one byte makes, it is refused or shown again as it is.
func TestADeedThatIsReadIsShownAsItWas(t *testing.T) {
	read, refused := 0, 0
	for _, c := range shownDeeds {
		for i := 0; i <= len(c.text); i++ {
			for _, b := range []byte(" 0159-+_.azAZ:\n\x00\xc3") {
				changed := []string{c.text[:i] + string([]byte{b}) + c.text[i:]}
				if i < len(c.text) {
					changed = append(changed, c.text[:i]+string([]byte{b})+c.text[i+1:], c.text[:i]+c.text[i+1:])
				}
				for _, s := range changed {
					d, is := impl.ReadDeed(s)
					if is && (!plainDeedOk(d) || impl.ShowDeed(d) != s) || !is && d != (impl.Deed{}) {
						t.Errorf("ReadDeed(%q) is %+v and %v", s, d, is)
					}
					if is {
						read++
					} else {
						refused++
					}
				}
			}
		}
	}
	if read < 500 || refused < 5000 {
		t.Errorf("the test says little: %d read, %d refused", read, refused)
	}
}

// Words of all kinds laid side by side: read is what a plain look at the words takes for a deed, and nothing else.
func TestReadDeedOfDrawnWords(t *testing.T) {
	words := []string{"put", "cut", "add", "if", "a", "abc", "zz", "abcd", "0", "5", "99", "100", "05", "-1", "", "x9"}
	d, read := dice(16), 0
	for range 40000 {
		parts := make([]string, 1+d.below(5))
		for i := range parts {
			parts[i] = words[d.below(int64(len(words)))]
		}
		// Most words are where they may be, or few texts would be read.
		if d.below(4) > 0 {
			parts[0] = words[d.below(4)]
		}
		if len(parts) > 1 && d.below(4) > 0 {
			parts[1] = words[4+d.below(3)]
		}
		text := strings.Join(parts, " ")
		want, right := plainReadDeed(parts)
		if right {
			read++
		}
		if got, is := impl.ReadDeed(text); is != right || got != want {
			t.Fatalf("ReadDeed(%q) is %+v and %v, not %+v and %v", text, got, is, want, right)
		}
	}
	if read < 1500 {
		t.Errorf("the test says little: %d of the texts are deeds", read)
	}
}

// plainReadDeed knows of the drawn words alone which are kinds, keys and numbers.
func plainReadDeed(parts []string) (impl.Deed, bool) {
	kinds := map[string]int64{"put": 1, "cut": 2, "add": 3, "if": 4}
	lengths := map[string]int{"put": 3, "cut": 2, "add": 3, "if": 4}
	numbers := map[string]int64{"0": 0, "5": 5, "99": 99}
	keys := []string{"put", "cut", "add", "if", "a", "abc", "zz"}
	if kinds[parts[0]] == 0 || len(parts) != lengths[parts[0]] || !slices.Contains(keys, parts[1]) {
		return impl.Deed{}, false
	}
	d := impl.Deed{Kind: kinds[parts[0]], Key: parts[1]}
	for i, part := range parts[2:] {
		n, is := numbers[part]
		if !is {
			return impl.Deed{}, false
		}
		if i == 0 {
			d.Value = n
		} else {
			d.New = n
		}
	}
	return d, true
}
