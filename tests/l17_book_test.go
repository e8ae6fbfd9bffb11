package tests

import (
	"maps"
	"math"
	"slices"
	"strings"
	"testing"

	"loop.example/g00418/impl"
)

const eightKeys = "b d f h j l n p"

// keyed is a book of these keys, the first one with this value, each other one with one more than the one ahead of it.
func keyed(keys string, value int64) []impl.Entry {
	var b []impl.Entry
	for i, key := range strings.Fields(keys) {
		b = append(b, impl.Entry{Key: key, Value: value + int64(i)})
	}
	return b
}

// rightBooks are of no entry, of one, of some, of 7 and of 8, and have the least and the greatest values and keys of each length.
func rightBooks() [][]impl.Entry {
	return [][]impl.Entry{
		nil, {},
		keyed("a", 0), keyed("zzz", 9999), keyed("m", 5000),
		keyed("a aa aaa aab ab b z zz", 1),
		keyed("az b", 9998), keyed("a b", 0),
		keyed("b d f h j l n", 7), keyed(eightKeys, 7), keyed(eightKeys, 9992),
		keyed("add cut if put", 3),
		{{Key: "a", Value: 9999}, {Key: "b"}, {Key: "c", Value: 9999}, {Key: "d"}},
	}
}

// wrongBooks are right but for what is told of each.
func wrongBooks() map[string][][]impl.Entry {
	wrong := map[string][][]impl.Entry{
		"too many":          {keyed(eightKeys+" r", 7), keyed("a b c d e f g h i j", 0), keyed("a "+eightKeys, 0)},
		"keys do not rise":  {keyed("b a", 5), keyed("a c b", 5), keyed("b a c", 5), keyed("aa a", 5), keyed("b ab", 5), keyed("z aaa", 5), keyed("a b c d e f h g", 5), keyed("b a d f h j l n", 5), keyed("c b a", 5)},
		"a key twice":       {keyed("a a", 5), keyed("a b b", 5), keyed("a a b", 5), keyed("abc abc", 5), keyed("a b a", 5), {{Key: "a", Value: 5}, {Key: "a", Value: 5}}, keyed("b d f h j l n n", 5)},
		"of a length of 64": {slices.Repeat(keyed("a", 5), 64)},
	}
	for _, key := range []string{"", "abcd", "abcde", " ", "a b", " a", "a ", "aB", "A", "1", "a1", "a-", "é", "a\x00", "\xff", "ab\n", "`", "{", "a=", strings.Repeat("a", 300)} {
		why := "no key"
		wrong[why] = append(wrong[why], []impl.Entry{{Key: key}}, []impl.Entry{{Key: key, Value: 5}, {Key: "zzz", Value: 5}}, []impl.Entry{{Key: "a", Value: 5}, {Key: key, Value: 5}})
	}
	for _, n := range []int64{-1, -9999, 10000, 10001, 1 << 32, math.MinInt64, math.MaxInt64} {
		why := "a value out of range"
		wrong[why] = append(wrong[why], []impl.Entry{{Key: "a", Value: n}}, []impl.Entry{{Key: "a", Value: n}, {Key: "b"}}, []impl.Entry{{Key: "a"}, {Key: "b", Value: n}})
		full := keyed(eightKeys, 7)
		full[7].Value = n
		wrong[why] = append(wrong[why], full)
	}
	return wrong
}

// keyNumber makes of a key a number of three digits, of which none is less than every sign; -1 of what is no key.
func keyNumber(key string) int {
	if len(key) < 1 || len(key) > 3 {
		return -1
	}
	n := 0
	for i := range 3 {
		digit := 0
		if i < len(key) {
			digit = strings.Index("abcdefghijklmnopqrstuvwxyz", key[i:i+1]) + 1
			if digit == 0 {
				return -1
			}
		}
		n = n*27 + digit
	}
	return n
}

// plainBookOk says what the words of chapter 17 say: each entry is held against all ahead of it.
func plainBookOk(b []impl.Entry) bool {
	for i, e := range b {
		if keyNumber(e.Key) < 0 || e.Value < 0 || e.Value > 9999 {
			return false
		}
		for _, ahead := range b[:i] {
			if keyNumber(ahead.Key) >= keyNumber(e.Key) {
				return false
			}
		}
	}
	return len(b) <= 8
}

// plainDone does the deed on the values by their keys, and puts the keys in order behind it.
func plainDone(b []impl.Entry, d impl.Deed) ([]impl.Entry, int64) {
	if !plainBookOk(b) || !plainDeedOk(d) {
		return nil, 4
	}
	values := map[string]int64{}
	for _, e := range b {
		values[e.Key] = e.Value
	}
	value, is := values[d.Key]
	put, cut, add, swap := d.Kind == 1, d.Kind == 2, d.Kind == 3, d.Kind == 4
	switch {
	case !is && !put:
		return b, 1
	case swap && value != d.Value:
		return b, 2
	case !is && len(b) == 8 || add && value+d.Value > 9999:
		return b, 3
	case put:
		values[d.Key] = d.Value
	case cut:
		delete(values, d.Key)
	case add:
		values[d.Key] += d.Value
	case swap:
		values[d.Key] = d.New
	}
	var after []impl.Entry
	for _, key := range slices.SortedFunc(maps.Keys(values), func(a, b string) int { return keyNumber(a) - keyNumber(b) }) {
		after = append(after, impl.Entry{Key: key, Value: values[key]})
	}
	return after, 0
}

// plainValue looks at each entry.
func plainValue(b []impl.Entry, key string) (int64, bool) {
	if plainBookOk(b) {
		for _, e := range b {
			if e.Key == key {
				return e.Value, true
			}
		}
	}
	return 0, false
}

// drawnDeed is wrong but seldom; half of them are puts, so that a book that it is done on often is full.
func (d *dice) drawnDeed(keys []string) impl.Deed {
	kinds := []int64{impl.DdPut, impl.DdPut, impl.DdPut, impl.DdPut, impl.DdCut, impl.DdAdd, impl.DdAdd, impl.DdIf}
	deed := impl.Deed{Kind: kinds[d.below(int64(len(kinds)))], Key: keys[d.below(int64(len(keys)))]}
	if deed.Kind != impl.DdCut {
		deed.Value = d.below(100)
	}
	if deed.Kind == impl.DdIf {
		deed.New = d.below(100)
	}
	if d.below(60) == 0 {
		deed.New = 100
	}
	return deed
}

func TestBooksHaveTheNumbersOfTheDocument(t *testing.T) {
	if impl.MaxEntries != 8 || impl.DnOk != 0 || impl.DnNone != 1 || impl.DnOther != 2 || impl.DnFull != 3 || impl.DnBad != 4 {
		t.Error(impl.MaxEntries, impl.DnOk, impl.DnNone, impl.DnOther, impl.DnFull, impl.DnBad)
	}
}

func TestBookOk(t *testing.T) {
	for _, b := range rightBooks() {
		if !impl.BookOk(b) {
			t.Errorf("BookOk(%+v) is false", b)
		}
	}
	for why, books := range wrongBooks() {
		for _, b := range books {
			if impl.BookOk(b) {
				t.Errorf("%s: BookOk(%+v) is true", why, b)
			}
		}
	}
}

func TestBookOkAtTheEdges(t *testing.T) {
	for n := range 20 {
		if got := impl.BookOk(keyed("a b c d e f g h i j k l m n o p q r s t u v w x y z", 0)[:n]); got != (n <= 8) {
			t.Errorf("BookOk of %d entries is %v", n, got)
		}
	}
	for _, n := range []int64{0, 1, 99, 100, 5000, 9998, 9999, 10000, 10001, -1, -2, 1 << 16, 1 << 32, math.MinInt64, math.MaxInt64} {
		for at := range 8 {
			b := keyed(eightKeys, 7)
			b[at].Value = n
			if got := impl.BookOk(b); got != (n >= 0 && n <= 9999) {
				t.Errorf("BookOk of a book with %d at %d is %v", n, at, got)
			}
		}
	}
	for c := range 256 {
		s := string([]byte{byte(c)})
		for _, key := range []string{s, s + "a", "a" + s, s + "bc", "a" + s + "c", "ab" + s} {
			if got := impl.BookOk([]impl.Entry{{Key: key, Value: 5}}); got != (c >= 'a' && c <= 'z') {
				t.Errorf("BookOk with the key %q is %v", key, got)
			}
		}
	}
}

// Each two keys, and each three of some, stand in a book where they rise, sign by sign, and nowhere else.
func TestBookOkOfKeysInEachOrder(t *testing.T) {
	keys := []string{"a", "aa", "aaa", "aab", "ab", "aba", "az", "azz", "b", "ba", "m", "za", "zz", "zzz", "", "abcd", "A"}
	right := 0
	for _, a := range keys {
		for _, b := range keys {
			for _, c := range keys {
				list := []impl.Entry{{Key: a, Value: 1}, {Key: b, Value: 2}, {Key: c, Value: 3}}
				for n := range 4 {
					want := plainBookOk(list[:n])
					if want && n == 3 {
						right++
					}
					if got := impl.BookOk(list[:n]); got != want {
						t.Fatalf("BookOk(%+v) is %v", list[:n], got)
					}
				}
			}
		}
	}
	// 14 of the keys are right: each three of them rise in one order.
	if right != 14*13*12/6 {
		t.Errorf("the test says little: %d right books of three", right)
	}
}

// doneDeeds are deeds with what chapter 17 asks for, of each code some.
var doneDeeds = []struct {
	why  string
	book []impl.Entry
	deed impl.Deed
	want []impl.Entry
	code int64
}{
	{"a put into no entries", nil, impl.Deed{Kind: impl.DdPut, Key: "a", Value: 5}, keyed("a", 5), impl.DnOk},
	{"a put of 0", nil, impl.Deed{Kind: impl.DdPut, Key: "abc"}, keyed("abc", 0), impl.DnOk},
	{"a put of 99", keyed("b", 4), impl.Deed{Kind: impl.DdPut, Key: "a", Value: 99}, []impl.Entry{{Key: "a", Value: 99}, {Key: "b", Value: 4}}, impl.DnOk},
	{"a put ahead of all", keyed("b d", 4), impl.Deed{Kind: impl.DdPut, Key: "a", Value: 3}, keyed("a b d", 3), impl.DnOk},
	{"a put between two", keyed("b d", 4), impl.Deed{Kind: impl.DdPut, Key: "c", Value: 9}, []impl.Entry{{Key: "b", Value: 4}, {Key: "c", Value: 9}, {Key: "d", Value: 5}}, impl.DnOk},
	{"a put behind all", keyed("b d", 4), impl.Deed{Kind: impl.DdPut, Key: "e", Value: 6}, keyed("b d e", 4), impl.DnOk},
	{"a put behind its beginning", keyed("a b", 4), impl.Deed{Kind: impl.DdPut, Key: "aa", Value: 9}, []impl.Entry{{Key: "a", Value: 4}, {Key: "aa", Value: 9}, {Key: "b", Value: 5}}, impl.DnOk},
	{"a put of a key that is there", keyed("b d f", 4), impl.Deed{Kind: impl.DdPut, Key: "d", Value: 77}, []impl.Entry{{Key: "b", Value: 4}, {Key: "d", Value: 77}, {Key: "f", Value: 6}}, impl.DnOk},
	{"a put of a key that is there, over a great value", keyed("b", 9999), impl.Deed{Kind: impl.DdPut, Key: "b"}, keyed("b", 0), impl.DnOk},
	{"a put of the value that is there", keyed("b d", 4), impl.Deed{Kind: impl.DdPut, Key: "b", Value: 4}, keyed("b d", 4), impl.DnOk},
	{"a put into 7, ahead of all", keyed("d f h j l n p", 8), impl.Deed{Kind: impl.DdPut, Key: "b", Value: 7}, keyed(eightKeys, 7), impl.DnOk},
	{"a put into 7, between two", []impl.Entry{{Key: "b", Value: 1}, {Key: "d", Value: 2}, {Key: "f", Value: 3}, {Key: "j", Value: 5}, {Key: "l", Value: 6}, {Key: "n", Value: 7}, {Key: "p", Value: 8}}, impl.Deed{Kind: impl.DdPut, Key: "h", Value: 4}, keyed(eightKeys, 1), impl.DnOk},
	{"a put into 7, behind all", keyed("b d f h j l n", 7), impl.Deed{Kind: impl.DdPut, Key: "p", Value: 14}, keyed(eightKeys, 7), impl.DnOk},
	{"a put into 8, ahead of all", keyed(eightKeys, 7), impl.Deed{Kind: impl.DdPut, Key: "a", Value: 1}, keyed(eightKeys, 7), impl.DnFull},
	{"a put into 8, between two", keyed(eightKeys, 7), impl.Deed{Kind: impl.DdPut, Key: "i", Value: 1}, keyed(eightKeys, 7), impl.DnFull},
	{"a put into 8, behind all", keyed(eightKeys, 7), impl.Deed{Kind: impl.DdPut, Key: "q", Value: 1}, keyed(eightKeys, 7), impl.DnFull},
	{"a put into 8 of the first, which is there", keyed(eightKeys, 7), impl.Deed{Kind: impl.DdPut, Key: "b", Value: 6}, append(keyed("b", 6), keyed(eightKeys, 7)[1:]...), impl.DnOk},
	{"a put into 8 of the last, which is there", keyed(eightKeys, 7), impl.Deed{Kind: impl.DdPut, Key: "p", Value: 99}, append(keyed("b d f h j l n", 7), impl.Entry{Key: "p", Value: 99}), impl.DnOk},
	{"a cut of the first", keyed("b d f", 4), impl.Deed{Kind: impl.DdCut, Key: "b"}, keyed("d f", 5), impl.DnOk},
	{"a cut of the second", keyed("b d f", 4), impl.Deed{Kind: impl.DdCut, Key: "d"}, []impl.Entry{{Key: "b", Value: 4}, {Key: "f", Value: 6}}, impl.DnOk},
	{"a cut of the last", keyed("b d f", 4), impl.Deed{Kind: impl.DdCut, Key: "f"}, keyed("b d", 4), impl.DnOk},
	{"a cut of the only one", keyed("b", 4), impl.Deed{Kind: impl.DdCut, Key: "b"}, nil, impl.DnOk},
	{"a cut of the first of 8", keyed(eightKeys, 7), impl.Deed{Kind: impl.DdCut, Key: "b"}, keyed("d f h j l n p", 8), impl.DnOk},
	{"a cut of the last of 8", keyed(eightKeys, 7), impl.Deed{Kind: impl.DdCut, Key: "p"}, keyed("b d f h j l n", 7), impl.DnOk},
	{"a cut of what is not there", keyed("b d f", 4), impl.Deed{Kind: impl.DdCut, Key: "c"}, keyed("b d f", 4), impl.DnNone},
	{"a cut of a beginning of what is there", keyed("bb", 4), impl.Deed{Kind: impl.DdCut, Key: "b"}, keyed("bb", 4), impl.DnNone},
	{"a cut of more than what is there", keyed("b", 4), impl.Deed{Kind: impl.DdCut, Key: "bb"}, keyed("b", 4), impl.DnNone},
	{"a cut in no entries", nil, impl.Deed{Kind: impl.DdCut, Key: "a"}, nil, impl.DnNone},
	{"a cut in 8 of what is not there", keyed(eightKeys, 7), impl.Deed{Kind: impl.DdCut, Key: "q"}, keyed(eightKeys, 7), impl.DnNone},
	{"an add", keyed("b d f", 4), impl.Deed{Kind: impl.DdAdd, Key: "d", Value: 95}, []impl.Entry{{Key: "b", Value: 4}, {Key: "d", Value: 100}, {Key: "f", Value: 6}}, impl.DnOk},
	{"an add of 0", keyed("b d", 4), impl.Deed{Kind: impl.DdAdd, Key: "d"}, keyed("b d", 4), impl.DnOk},
	{"an add of 0 to 9999", keyed("b", 9999), impl.Deed{Kind: impl.DdAdd, Key: "b"}, keyed("b", 9999), impl.DnOk},
	{"an add that comes to 9999", keyed("b", 9990), impl.Deed{Kind: impl.DdAdd, Key: "b", Value: 9}, keyed("b", 9999), impl.DnOk},
	{"an add that comes to 10000", keyed("b", 9990), impl.Deed{Kind: impl.DdAdd, Key: "b", Value: 10}, keyed("b", 9990), impl.DnFull},
	{"an add of 99 that comes to 9999", keyed("b d", 9899), impl.Deed{Kind: impl.DdAdd, Key: "d", Value: 99}, []impl.Entry{{Key: "b", Value: 9899}, {Key: "d", Value: 9999}}, impl.DnOk},
	{"an add of 99 to 9999", keyed("b", 9999), impl.Deed{Kind: impl.DdAdd, Key: "b", Value: 99}, keyed("b", 9999), impl.DnFull},
	{"an add in 8", keyed(eightKeys, 7), impl.Deed{Kind: impl.DdAdd, Key: "p", Value: 1}, append(keyed("b d f h j l n", 7), impl.Entry{Key: "p", Value: 15}), impl.DnOk},
	{"an add to what is not there, in a book with 10000", keyed("b d", 9999), impl.Deed{Kind: impl.DdAdd, Key: "c", Value: 5}, nil, impl.DnBad},
	{"an add to what is not there", keyed("b d", 9998), impl.Deed{Kind: impl.DdAdd, Key: "c", Value: 5}, keyed("b d", 9998), impl.DnNone},
	{"an add of 0 to what is not there", nil, impl.Deed{Kind: impl.DdAdd, Key: "c"}, nil, impl.DnNone},
	{"an add in 8 to what is not there", keyed(eightKeys, 7), impl.Deed{Kind: impl.DdAdd, Key: "a", Value: 5}, keyed(eightKeys, 7), impl.DnNone},
	{"an if where it has the value", keyed("b d f", 4), impl.Deed{Kind: impl.DdIf, Key: "d", Value: 5, New: 99}, []impl.Entry{{Key: "b", Value: 4}, {Key: "d", Value: 99}, {Key: "f", Value: 6}}, impl.DnOk},
	{"an if from 0 to 0", keyed("b", 0), impl.Deed{Kind: impl.DdIf, Key: "b"}, keyed("b", 0), impl.DnOk},
	{"an if to 0", keyed("b", 5), impl.Deed{Kind: impl.DdIf, Key: "b", Value: 5}, keyed("b", 0), impl.DnOk},
	{"an if where it has another", keyed("b d f", 4), impl.Deed{Kind: impl.DdIf, Key: "d", Value: 6, New: 99}, keyed("b d f", 4), impl.DnOther},
	{"an if where it has the new one", keyed("b", 9), impl.Deed{Kind: impl.DdIf, Key: "b", Value: 8, New: 9}, keyed("b", 9), impl.DnOther},
	{"an if where it has one that no deed can tell", keyed("b", 100), impl.Deed{Kind: impl.DdIf, Key: "b", Value: 99, New: 1}, keyed("b", 100), impl.DnOther},
	{"an if of another key's value", keyed("b d f", 4), impl.Deed{Kind: impl.DdIf, Key: "b", Value: 5, New: 1}, keyed("b d f", 4), impl.DnOther},
	{"an if of what is not there", keyed("b d", 0), impl.Deed{Kind: impl.DdIf, Key: "c", New: 7}, keyed("b d", 0), impl.DnNone},
	{"an if in no entries", nil, impl.Deed{Kind: impl.DdIf, Key: "c"}, nil, impl.DnNone},
	{"an if in 8 of what is not there", keyed(eightKeys, 7), impl.Deed{Kind: impl.DdIf, Key: "q", Value: 7, New: 8}, keyed(eightKeys, 7), impl.DnNone},
}

func TestDone(t *testing.T) {
	codes := map[int64]int{}
	for _, c := range doneDeeds {
		got, code := impl.Done(c.book, c.deed)
		codes[code]++
		if !slices.Equal(got, c.want) || code != c.code {
			t.Errorf("%s: Done(%v, %+v) is %v and %d, not %v and %d", c.why, c.book, c.deed, got, code, c.want, c.code)
		}
	}
	if len(codes) != 5 {
		t.Errorf("the test says little: %v", codes)
	}
}

func TestDoneOnAWrongBook(t *testing.T) {
	deeds := []impl.Deed{
		{Kind: impl.DdPut, Key: "a", Value: 5}, {Kind: impl.DdPut, Key: "c", Value: 5}, {Kind: impl.DdCut, Key: "a"}, {Kind: impl.DdCut, Key: "q"},
		{Kind: impl.DdAdd, Key: "a", Value: 99}, {Kind: impl.DdAdd, Key: "q"}, {Kind: impl.DdIf, Key: "a", Value: 5, New: 6}, {Kind: impl.DdIf, Key: "a", Value: 7},
		{}, {Kind: 5, Key: "a"}, {Kind: impl.DdPut, Key: "a", Value: 100},
	}
	for why, books := range wrongBooks() {
		for _, b := range books {
			for _, d := range deeds {
				if got, code := impl.Done(b, d); len(got) != 0 || code != impl.DnBad {
					t.Errorf("%s: Done(%v, %+v) is %v and %d", why, b, d, got, code)
				}
			}
		}
	}
}

// A deed that is not right is told ahead of all else, also where its key is not there, or there is no room.
func TestDoneOfAWrongDeed(t *testing.T) {
	for why, deeds := range wrongDeeds() {
		for _, d := range deeds {
			for _, b := range append(rightBooks(), keyed("a", 5), wrongBooks()["a key twice"][0]) {
				if got, code := impl.Done(b, d); len(got) != 0 || code != impl.DnBad {
					t.Errorf("%s: Done(%v, %+v) is %v and %d", why, b, d, got, code)
				}
			}
		}
	}
}

func TestRead(t *testing.T) {
	words := []string{"put b 5", "add b 3", "put a 1", "if b 8 9", "if b 8 1", "cut c", "what", "cut a", "", "put ab 99", "add ab 99", "put b 100", "if ab 99 0", "put B 1", "cut b"}
	codes := []int64{0, 0, 0, 0, 2, 1, 4, 0, 4, 0, 0, 4, 2, 4, 0}
	books := [][]impl.Entry{
		{}, {{Key: "b", Value: 5}}, {{Key: "b", Value: 8}}, {{Key: "a", Value: 1}, {Key: "b", Value: 8}}, {{Key: "a", Value: 1}, {Key: "b", Value: 9}},
		{{Key: "a", Value: 1}, {Key: "b", Value: 9}}, {{Key: "a", Value: 1}, {Key: "b", Value: 9}}, {{Key: "a", Value: 1}, {Key: "b", Value: 9}},
		{{Key: "b", Value: 9}}, {{Key: "b", Value: 9}}, {{Key: "ab", Value: 99}, {Key: "b", Value: 9}}, {{Key: "ab", Value: 198}, {Key: "b", Value: 9}},
		{{Key: "ab", Value: 198}, {Key: "b", Value: 9}}, {{Key: "ab", Value: 198}, {Key: "b", Value: 9}}, {{Key: "ab", Value: 198}, {Key: "b", Value: 9}}, {{Key: "ab", Value: 198}},
	}
	for n := 0; n <= len(words); n++ {
		got, told := impl.Read(words[:n])
		if !slices.Equal(got, books[n]) || !slices.Equal(told, codes[:n]) {
			t.Errorf("Read(%q) is %v and %v, not %v and %v", words[:n], got, told, books[n], codes[:n])
		}
	}
}

func TestReadOfNothing(t *testing.T) {
	for _, words := range [][]string{nil, {}} {
		if got, codes := impl.Read(words); len(got) != 0 || len(codes) != 0 {
			t.Errorf("Read of no words is %v and %v", got, codes)
		}
	}
}

func TestReadOfWordsThatAreNoDeeds(t *testing.T) {
	wrong := []string{"", " ", "put", "put a", "put a 5 ", " put a 5", "put  a 5", "put a 05", "put a 100", "put a -1", "put abcd 5", "put A 5", "cut", "cut a 5", "add a", "if a 5", "if a 5 6 7", "set a 5", "PUT a 5", "\x00", strings.Repeat("put a 5", 1000)}
	if got, codes := impl.Read(wrong); len(got) != 0 || !slices.Equal(codes, slices.Repeat([]int64{impl.DnBad}, len(wrong))) {
		t.Errorf("Read(%.40q) is %v and %v", wrong, got, codes)
	}
	for _, word := range wrong {
		got, codes := impl.Read([]string{"put a 5", word, "add a 1", word, word, "put b 2"})
		if !slices.Equal(got, []impl.Entry{{Key: "a", Value: 6}, {Key: "b", Value: 2}}) || !slices.Equal(codes, []int64{0, 4, 0, 4, 4, 0}) {
			t.Errorf("with %.40q between, Read is %v and %v", word, got, codes)
		}
	}
}

// A book that is full takes a new key again where one was cut; a value comes above 99 by adds alone.
func TestReadUntilItIsFull(t *testing.T) {
	var words []string
	for _, key := range strings.Fields("h g f e d c b a") {
		words = append(words, "put "+key+" 9")
	}
	words = append(words, "put i 1", "put aa 1", "put h 1", "cut d", "put dd 2", "cut d", "put d 3")
	got, codes := impl.Read(words)
	want := []impl.Entry{{Key: "a", Value: 9}, {Key: "b", Value: 9}, {Key: "c", Value: 9}, {Key: "dd", Value: 2}, {Key: "e", Value: 9}, {Key: "f", Value: 9}, {Key: "g", Value: 9}, {Key: "h", Value: 1}}
	if !slices.Equal(got, want) || !slices.Equal(codes, []int64{0, 0, 0, 0, 0, 0, 0, 0, 3, 3, 0, 0, 0, 1, 3}) {
		t.Errorf("Read(%q) is %v and %v", words, got, codes)
	}
	adds := append([]string{"put a 0"}, slices.Repeat([]string{"add a 99"}, 101)...)
	adds = append(adds, "add a 1", "add a 0", "add a 1")
	got, codes = impl.Read(adds)
	// 101 times 99 is 9999.
	if !slices.Equal(got, keyed("a", 9999)) || !slices.Equal(codes[:102], make([]int64, 102)) || !slices.Equal(codes[102:], []int64{3, 0, 3}) {
		t.Errorf("101 adds of 99 and some more are %v and %v", got, codes)
	}
}

func TestReadOfManyWords(t *testing.T) {
	words := slices.Repeat([]string{"put a 1", "add a 2", "no", "if a 3 4", "cut a", "cut a"}, 20000)
	got, codes := impl.Read(words)
	if len(got) != 0 || !slices.Equal(codes, slices.Repeat([]int64{0, 0, 4, 0, 0, 1}, 20000)) {
		t.Errorf("Read of many words is %v and %d codes", got, len(codes))
	}
}

func TestValueOf(t *testing.T) {
	for _, b := range rightBooks() {
		for _, e := range b {
			if got, is := impl.ValueOf(b, e.Key); !is || got != e.Value {
				t.Errorf("ValueOf(%v, %q) is %d and %v", b, e.Key, got, is)
			}
		}
		for _, key := range []string{"c", "e", "zy", "aaaa", "", "abcd", " ", "A", "B", "1", "b ", " b", "b\x00", "ba", "m1", "é", "\xff", strings.Repeat("b", 300)} {
			if got, is := impl.ValueOf(b, key); !slices.ContainsFunc(b, func(e impl.Entry) bool { return e.Key == key }) && (is || got != 0) {
				t.Errorf("ValueOf(%v, %q) is %d and %v", b, key, got, is)
			}
		}
	}
}

// What stands in a wrong book is not told, whether the key itself is right or not.
func TestValueOfAWrongBook(t *testing.T) {
	for why, books := range wrongBooks() {
		for _, b := range books {
			for _, e := range append([]impl.Entry{{Key: "q"}, {Key: "a"}, {Key: ""}}, b...) {
				if got, is := impl.ValueOf(b, e.Key); is || got != 0 {
					t.Errorf("%s: ValueOf(%v, %q) is %d and %v", why, b, e.Key, got, is)
				}
			}
		}
	}
}

// Promise 17: a book stays right; what is put is read; and every other key is as it was.
func TestABookStaysRightAndWhatIsPutIsRead(t *testing.T) {
	keys := strings.Fields("a aa aaa ab b ba c m z zz zzz")
	d, codes := dice(17), map[int64]int{}
	for range 300 {
		// The values are near the greatest one, so that adds often come above it.
		b := keyed("aa b m zz", 9996-d.below(200))
		for range 200 {
			deed := d.drawnDeed(keys)
			after, code := impl.Done(b, deed)
			want, asked := plainDone(b, deed)
			if !slices.Equal(after, want) || code != asked {
				t.Fatalf("Done(%v, %+v) is %v and %d, not %v and %d", b, deed, after, code, want, asked)
			}
			codes[code]++
			if !impl.BookOk(after) || !plainBookOk(after) {
				t.Fatalf("Done(%v, %+v) is %v, which is no book", b, deed, after)
			}
			if code == impl.DnBad {
				continue
			}
			for _, key := range keys {
				value, is := impl.ValueOf(after, key)
				before, was := impl.ValueOf(b, key)
				if key != deed.Key && (value != before || is != was) {
					t.Fatalf("Done(%v, %+v) changed %q to %d and %v", b, deed, key, value, is)
				}
				if key == deed.Key && code == impl.DnOk && deed.Kind == impl.DdPut && (value != deed.Value || !is) {
					t.Fatalf("what %+v put is read as %d and %v", deed, value, is)
				}
			}
			b = after
		}
	}
	for code := int64(impl.DnOk); code <= impl.DnBad; code++ {
		if codes[code] < 500 {
			t.Errorf("the test says little: %v", codes)
		}
	}
}

// Each deed of a few on each book of a few, the wrong ones among them.
func TestDoneIsWhatTheWordsSay(t *testing.T) {
	books := rightBooks()
	for _, wrong := range wrongBooks() {
		books = append(books, wrong...)
	}
	asked := 0
	for _, b := range books {
		for kind := int64(-1); kind <= 5; kind++ {
			for _, key := range strings.Split("a aa ab b c d zzz add abcd A ", " ") {
				for _, value := range []int64{0, 1, 5, 7, 99, 100, -1, 9999, math.MaxInt64, math.MinInt64} {
					for _, other := range []int64{0, 6, 99, 100, -1} {
						d := impl.Deed{Kind: kind, Key: key, Value: value, New: other}
						want, code := plainDone(b, d)
						if got, told := impl.Done(b, d); !slices.Equal(got, want) || told != code {
							t.Fatalf("Done(%v, %+v) is %v and %d, not %v and %d", b, d, got, told, want, code)
						}
						asked++
					}
				}
			}
		}
		for _, key := range strings.Split("a aa ab b c d zzz add abcd A ", " ") {
			want, is := plainValue(b, key)
			if got, has := impl.ValueOf(b, key); got != want || has != is {
				t.Fatalf("ValueOf(%v, %q) is %d and %v", b, key, got, has)
			}
		}
	}
	if asked < 100000 {
		t.Errorf("the test says little: %d deeds", asked)
	}
}

// drawnWord is a deed's text but for some, which are no deed.
func (d *dice) drawnWord(keys []string) string {
	wrong := []string{"", "what", "put a", "cut a 1", "put a 05", " cut a", "put abcd 1"}
	if d.below(10) == 0 {
		return wrong[d.below(int64(len(wrong)))]
	}
	return impl.ShowDeed(d.drawnDeed(keys))
}

func TestReadIsDoneWordByWord(t *testing.T) {
	keys := strings.Fields("a aa b bcd c d e f g zz")
	d, codes := dice(170), map[int64]int{}
	for range 300 {
		words := make([]string, d.below(120))
		for i := range words {
			words[i] = d.drawnWord(keys)
		}
		var want []impl.Entry
		for n, word := range words {
			code := int64(impl.DnBad)
			if deed, is := impl.ReadDeed(word); is {
				want, code = impl.Done(want, deed)
			}
			got, told := impl.Read(words[:n+1])
			if !slices.Equal(got, want) || len(told) != n+1 || told[n] != code || !impl.BookOk(got) {
				t.Fatalf("Read(%q) is %v and %v, not %v and %d last", words[:n+1], got, told, want, code)
			}
			codes[code]++
		}
	}
	for code := int64(impl.DnOk); code <= impl.DnBad; code++ {
		if codes[code] < 200 {
			t.Errorf("the test says little: %v", codes)
		}
	}
}

// The codes of a beginning are the beginning of the codes, and the same words make the same book.
func TestTheSameWordsMakeTheSameBook(t *testing.T) {
	keys := strings.Fields("a b c d e f g h i")
	d := dice(1700)
	for range 200 {
		words := make([]string, 80)
		for i := range words {
			words[i] = d.drawnWord(keys)
		}
		first, codes := impl.Read(words)
		second, again := impl.Read(slices.Clone(words))
		_, part := impl.Read(words[:40])
		if !slices.Equal(first, second) || !slices.Equal(codes, again) || !impl.BeginsWith(codes, part) {
			t.Fatalf("Read(%q) is %v and %v, then %v and %v", words, first, codes, second, again)
		}
	}
}

// roomyBook is the same book with room behind it, which holds entries that nobody may write over.
func roomyBook(b []impl.Entry) ([]impl.Entry, []impl.Entry) {
	whole := slices.Concat(b, []impl.Entry{{Key: "KEEP", Value: -7}, {Key: "KEEP", Value: -8}})
	return whole[:len(b)], whole
}

func deedsOfEachKind() []impl.Deed {
	var deeds []impl.Deed
	for _, c := range doneDeeds {
		deeds = append(deeds, c.deed)
	}
	return append(deeds, impl.Deed{}, impl.Deed{Kind: impl.DdPut, Key: "a", Value: 100})
}

func TestBooksStayAsTheyAre(t *testing.T) {
	books := rightBooks()
	for _, wrong := range wrongBooks() {
		books = append(books, wrong...)
	}
	for _, list := range books {
		b, whole := roomyBook(list)
		before := slices.Clone(whole)
		for _, d := range deedsOfEachKind() {
			first, code := impl.Done(b, d)
			second, again := impl.Done(b, d)
			if !slices.Equal(first, second) || code != again {
				t.Fatalf("asked again about %+v, the answer is %v and %d, not %v and %d", d, second, again, first, code)
			}
			impl.ValueOf(b, d.Key)
			impl.BookOk(b)
			if !slices.Equal(whole, before) {
				t.Fatalf("%+v changed %v into %v", d, before, whole)
			}
		}
	}
}

func TestDoneIsNewMemory(t *testing.T) {
	over := impl.Entry{Key: "OVER", Value: -9}
	for _, list := range rightBooks() {
		for _, d := range deedsOfEachKind() {
			b, whole := roomyBook(list)
			before := slices.Clone(whole)
			first, _ := impl.Done(b, d)
			second, _ := impl.Done(b, d)
			want := slices.Clone(second)
			overwritten(first, over)
			if !slices.Equal(whole, before) || !slices.Equal(second, want) {
				t.Fatalf("what Done answered of %+v was written into, and changed %v or %v", d, whole, second)
			}
			overwritten(whole, over)
			if !slices.Equal(second, want) {
				t.Fatalf("the book was written into, and changed what Done had answered of %+v: %v", d, second)
			}
		}
	}
}

func TestReadIsNewMemory(t *testing.T) {
	for _, list := range [][]string{nil, {"put a 5"}, {"put b 5", "put a 4", "cut c", "no"}, {"put a 5", "cut a"}, {"no"}} {
		whole := slices.Concat(list, []string{"KEEP", "KEEP"})
		before := slices.Clone(whole)
		words := whole[:len(list)]
		first, codes := impl.Read(words)
		second, again := impl.Read(words)
		want, asked := slices.Clone(second), slices.Clone(again)
		overwritten(first, impl.Entry{Key: "OVER", Value: -9})
		overwritten(codes, -9)
		if !slices.Equal(whole, before) || !slices.Equal(second, want) || !slices.Equal(again, asked) {
			t.Fatalf("what Read answered of %q was written into, and changed %q, %v or %v", list, whole, second, again)
		}
		overwritten(whole, "put z 1")
		if !slices.Equal(second, want) || !slices.Equal(again, asked) {
			t.Fatalf("the words were written into, and changed what Read had answered of %q: %v, %v", list, second, again)
		}
	}
}
