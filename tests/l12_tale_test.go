package tests

import (
	"math"
	"slices"
	"testing"

	"loop.example/g00418/impl"
)

// toldAhead has the chain 0, 10 and 19; 18 is doubled with all of hand 1, and 19 alone sees it, when 1, 4, 7 and 10 are told.
func toldAhead() []impl.Knot {
	return append(fullRounds(3, 6), impl.Knot{Hand: 1, Word: "again"}, impl.Knot{Hand: 2, Round: 6, From: setOf(15, 16, 17, 18)})
}

// wordyLace has words of each kind: none, blanks alone, as long as they may be, and the same one twice.
func wordyLace() []impl.Knot {
	l := fullRounds(3, 3)
	for i, word := range []string{"", "put a 1", " ", "", "", "twelve bytes", "put a 1", "", "9"} {
		l[i].Word = word
	}
	return l
}

func taleLaces() [][]impl.Knot { return append(sortLaces(), toldAhead(), wordyLace()) }

// plainTale says what the words of chapter 12 say; sealers and nodders are plainSealers and plainNodders of the lace.
func plainTale(l []impl.Knot, sealers, nodders, coins []int64, k int64) []int64 {
	var told []int64
	chain := plainChain(l, sealers, coins, k)
	for i, x := range chain {
		earlier := int64(-1)
		if i > 0 {
			earlier = chain[i-1]
		}
		told = append(told, plainFresh(l, nodders, x, earlier)...)
	}
	return told
}

func plainBegins(a, b []int64) bool {
	for i, x := range b {
		if i >= len(a) || a[i] != x {
			return false
		}
	}
	return true
}

// plainWords goes over the list twice, so that what is no knot is known ahead of the first word.
func plainWords(l []impl.Knot, list []int64) []string {
	for _, k := range list {
		if k < 0 || k >= int64(len(l)) {
			return nil
		}
	}
	var words []string
	for _, k := range list {
		if len(l[k].Word) > 0 {
			words = append(words, l[k].Word)
		}
	}
	return words
}

func TestTaleOf(t *testing.T) {
	three, four := fullRounds(3, 20), fullRounds(4, 15)
	cases := []struct {
		why   string
		l     []impl.Knot
		coins []int64
		k     int64
		chain []int64
		want  []int64
	}{
		{"a knot alone, which leads", []impl.Knot{{Hand: 0}}, nil, 0, []int64{0}, []int64{0}},
		{"a knot alone, which does not lead", []impl.Knot{{Hand: 3, Word: "x"}}, nil, 0, []int64{0}, []int64{0}},
		{"the last one of sixty in round 0", sixtyAtOnce(), nil, 59, []int64{59}, []int64{59}},
		{"a chain of one, which sees three", three, nil, 5, []int64{5}, []int64{0, 1, 2, 5}},
		{"a chain of one, which leads and seals none that does", leaderLate(), nil, 9, []int64{9}, []int64{0, 1, 2, 3, 4, 5, 6, 7, 8, 9}},
		{"a chain of one, in another order than they stand", mixedLace(), nil, 11, []int64{11}, []int64{10, 1, 3, 5, 11}},
		{"a chain of one, where the hand of no wave ties", three, []int64{3, 3, 3, 3, 3, 3}, 12, []int64{12}, []int64{0, 1, 2, 3, 4, 5, 6, 7, 8, 9, 10, 11, 12}},
		{"a chain of two", three, nil, 10, []int64{0, 10}, []int64{0, 1, 2, 3, 4, 5, 6, 7, 8, 10}},
		{"a chain of two by a coin: another one comes first", three, []int64{2, 0}, 9, []int64{2, 9}, []int64{2, 0, 1, 3, 4, 5, 6, 7, 8, 9}},
		{"a chain of two, and the last one does not lead", three, nil, 6, []int64{0, 6}, []int64{0, 1, 2, 3, 4, 5, 6}},
		{"a chain of two, in another order than they stand", mixedLace(), nil, 8, []int64{0, 8}, []int64{0, 3, 5, 4, 6, 7, 8}},
		{"the greater round of the lesser number, behind it a knot of round 0", bothSealed(), nil, 25, []int64{9, 25}, []int64{0, 1, 2, 3, 4, 5, 6, 7, 8, 9, 18, 25}},
		{"a chain of three: what was told has greater rounds than what is fresh", three, nil, 15, []int64{0, 10, 15}, []int64{0, 1, 2, 3, 4, 5, 6, 7, 8, 10, 9, 11, 12, 13, 14, 15}},
		{"a chain of three, which leads", four, nil, 26, []int64{0, 13, 26}, []int64{0, 1, 2, 3, 4, 5, 6, 7, 8, 9, 10, 11, 13, 12, 14, 15, 16, 17, 18, 19, 20, 21, 22, 23, 26}},
		{"a chain of two that passes over a leader", sealedLate(), []int64{0, 0}, 20, []int64{12, 20}, []int64{0, 1, 2, 3, 4, 5, 6, 11, 8, 9, 12, 13, 14, 15, 16, 17, 18, 19, 20}},
		{"two that are doubled below it: neither is told", mixedLace(), nil, 6, []int64{6}, []int64{0, 3, 6}},
		{"two leaders that are doubled below it: the one on the chain is told", twoLeaders(), nil, 10, []int64{0, 10}, []int64{0, 1, 2, 10}},
		{"two leaders that are doubled below it, and another one leads", twoLeaders(), []int64{2}, 10, []int64{2, 10}, []int64{2, 1, 10}},
		{"it sees the other one of two that are doubled", twoInTurn(), nil, 11, []int64{3, 11}, []int64{3, 1, 2, 7, 8, 9, 11}},
		{"twice two leaders that are doubled below it", twoOfLaterRound(), nil, 23, []int64{0, 14, 23}, []int64{0, 1, 2, 10, 11, 12, 14, 13, 15, 23}},
		{"one that has a double is told, what is doubled with others is not", sealedInSpite(), nil, 16, []int64{0, 16}, []int64{0, 1, 2, 4, 8, 13, 14, 16}},
		{"of two that are doubled the one was told: the other one is not", toldAhead(), nil, 19, []int64{0, 10, 19}, []int64{0, 1, 2, 3, 4, 5, 6, 7, 8, 10, 9, 11, 12, 14, 15, 17, 19}},
		{"of two that are doubled the one is not told ahead, so neither is told", toldAhead(), []int64{3, 3}, 19, []int64{19}, []int64{0, 2, 3, 5, 6, 8, 9, 11, 12, 14, 15, 17, 19}},
	}
	for _, c := range cases {
		if chain := impl.ChainOf(c.l, c.coins, c.k); !impl.LaceOk(c.l) || !slices.Equal(chain, c.chain) {
			t.Fatalf("%s: ChainOf is %v: the lace is not what the test is about", c.why, chain)
		}
		if got := impl.TaleOf(c.l, c.coins, c.k); !slices.Equal(got, c.want) {
			t.Errorf("%s: TaleOf %d by %v is %v, not %v", c.why, c.k, c.coins, got, c.want)
		}
	}
}

func TestTaleOfAFullLace(t *testing.T) {
	// Of each wave the leader ends a part of the tale, so the others of its round are told behind it.
	want := impl.Members(1<<57 - 1 | 1<<59)
	for _, leader := range []int{10, 46} {
		want[leader], want[leader-1] = want[leader-1], want[leader]
	}
	want[18], want[19], want[20] = 20, 18, 19
	if got := impl.TaleOf(fullRounds(3, 20), nil, 59); !slices.Equal(got, want) {
		t.Errorf("TaleOf 59 is %v, not %v", got, want)
	}
	if got := impl.TaleOf(fullRounds(3, 20), []int64{0, 0, 0, 0, 0, 0}, 59); !slices.Equal(got, impl.Members(1<<57-1|1<<59)) {
		t.Errorf("TaleOf 59 by the coins of hand 0 is %v", got)
	}
}

func TestOutOf(t *testing.T) {
	three, late, two := fullRounds(3, 20), leaderLate(), twoLeaders()
	cases := []struct {
		why   string
		l     []impl.Knot
		coins []int64
		s     int64
		last  int64
		want  []int64
	}{
		{"the empty lace", nil, nil, 0, -1, nil},
		{"the empty lace, not nil", []impl.Knot{}, []int64{}, 0, -1, nil},
		{"the empty set", three, nil, 0, -1, nil},
		{"a knot alone, which leads", []impl.Knot{{Hand: 0}}, nil, 1, -1, nil},
		{"sixty of one round", sixtyAtOnce(), nil, fullSet, -1, nil},
		{"a set without one that is firm", three, nil, 255, -1, nil},
		{"all of a lace without one that is firm", three, []int64{3, 3, 3, 3, 3, 3}, fullSet, -1, nil},
		{"one that is firm", three, nil, 511, 0, []int64{0}},
		{"one that is firm by a coin", three, []int64{2}, 511, 2, []int64{2}},
		{"one that is firm, and more behind it", three, nil, 1<<17 - 1, 0, []int64{0}},
		{"one that is firm, and one ahead of it that is not", sealedLate(), nil, 1<<24 - 1, 13, []int64{0, 1, 2, 3, 4, 5, 6, 11, 8, 9, 13}},
		{"firm ones of two waves", three, nil, 1<<18 - 1, 10, []int64{0, 1, 2, 3, 4, 5, 6, 7, 8, 10}},
		{"firm ones of three waves", three, nil, 1<<27 - 1, 20, []int64{0, 1, 2, 3, 4, 5, 6, 7, 8, 10, 9, 11, 12, 13, 14, 15, 16, 17, 20}},
		{"firm ones of two waves, the greatest round of the lesser number", late, nil, 1<<25 - 1, 9, []int64{0, 1, 2, 3, 4, 5, 6, 7, 8, 9}},
		{"the late one alone", late, nil, impl.Below(late, 22) | impl.Below(late, 23) | impl.Below(late, 24), 18, []int64{18}},
		{"two of one round: the least", two, nil, 1<<13 - 1, 0, []int64{0}},
		{"firm ones of three waves, and two that are doubled in the set", append(toldAhead(), fullBehind(19)...), nil, 1<<29 - 1, 19, []int64{0, 1, 2, 3, 4, 5, 6, 7, 8, 10, 9, 11, 12, 14, 15, 17, 19}},
	}
	for _, c := range cases {
		if !impl.LaceOk(c.l) || !impl.Closed(c.l, c.s) || impl.LastFirm(c.l, c.coins, c.s) != c.last {
			t.Fatalf("%s: the lace or the set is not what the test is about", c.why)
		}
		if got := impl.OutOf(c.l, c.coins, c.s); !slices.Equal(got, c.want) {
			t.Errorf("%s: OutOf by %v is %v, not %v", c.why, c.coins, got, c.want)
		}
	}
}

// fullBehind is, behind a leader of round 6 and of hand 2 in toldAhead, the rest of its wave.
func fullBehind(leader int64) []impl.Knot {
	rest := []impl.Knot{{Hand: 0, Round: 6, From: setOf(15, 16, 17)}, {Hand: 3, Round: 6, From: setOf(15, 16, 17)}, {Hand: 1, Round: 6, From: setOf(15, 16, 17)}}
	for round := int64(7); round < 9; round++ {
		from := setOf(leader, leader+1, leader+2)
		if round == 8 {
			from = setOf(leader+4, leader+5, leader+6)
		}
		for _, hand := range []int64{0, 2, 3} {
			rest = append(rest, impl.Knot{Hand: hand, Round: round, From: from})
		}
	}
	return rest
}

func TestBeginsWith(t *testing.T) {
	long := make([]int64, 100000)
	cases := []struct {
		why  string
		a, b []int64
		want bool
	}{
		{"nothing of nothing", nil, nil, true},
		{"an empty list of nothing", nil, []int64{}, true},
		{"nothing of an empty list", []int64{}, nil, true},
		{"nothing of something", []int64{1, 2}, nil, true},
		{"an empty list of something", []int64{1, 2}, []int64{}, true},
		{"something of nothing", nil, []int64{1}, false},
		{"something of an empty list", []int64{}, []int64{0}, false},
		{"the first one", []int64{4, 5, 6}, []int64{4}, true},
		{"all but the last one", []int64{4, 5, 6}, []int64{4, 5}, true},
		{"all of it", []int64{4, 5, 6}, []int64{4, 5, 6}, true},
		{"all of one", []int64{4}, []int64{4}, true},
		{"longer by one", []int64{4, 5, 6}, []int64{4, 5, 6, 7}, false},
		{"longer by a nought", []int64{4, 5, 6}, []int64{4, 5, 6, 0}, false},
		{"longer by the same again", []int64{4, 5}, []int64{4, 5, 4, 5}, false},
		{"parts at the first", []int64{4, 5, 6}, []int64{3, 5, 6}, false},
		{"parts at the first, and is short", []int64{4, 5, 6}, []int64{5}, false},
		{"parts in the middle", []int64{4, 5, 6}, []int64{4, 4, 6}, false},
		{"parts at the last", []int64{4, 5, 6}, []int64{4, 5, 7}, false},
		{"parts at its own last", []int64{4, 5, 6}, []int64{4, 6}, false},
		{"parts at the sign", []int64{4, 5, 6}, []int64{4, -5}, false},
		{"parts past 32 bits", []int64{4, 5, 6}, []int64{4, 5 + 1<<32}, false},
		{"the end of it", []int64{4, 5, 6}, []int64{5, 6}, false},
		{"the same ones in another order", []int64{4, 5, 6}, []int64{5, 4}, false},
		{"numbers of no knot", []int64{math.MinInt64, -1, math.MaxInt64}, []int64{math.MinInt64, -1}, true},
		{"the same number twice", []int64{7, 7, 7}, []int64{7, 7}, true},
		{"the same number too often", []int64{7, 7}, []int64{7, 7, 7}, false},
		{"long ones", long, long[:99999], true},
		{"long ones the other way", long[:99999], long, false},
		{"what lies behind the end has no say", long[:3:3], long[:4], false},
		{"room behind the end has no say", long[:3], long[:4], false},
	}
	for _, c := range cases {
		if got := impl.BeginsWith(c.a, c.b); got != c.want {
			t.Errorf("%s: BeginsWith is %v of %v and %v", c.why, got, c.a[:min(len(c.a), 9)], c.b[:min(len(c.b), 9)])
		}
	}
}

func TestWordsOf(t *testing.T) {
	many := make([]int64, 100000)
	for i := range many {
		many[i] = int64(i) % 9
	}
	cases := []struct {
		why  string
		l    []impl.Knot
		list []int64
		want []string
	}{
		{"nothing", wordyLace(), nil, nil},
		{"an empty list", wordyLace(), []int64{}, nil},
		{"nothing, of the empty lace", nil, nil, nil},
		{"one", wordyLace(), []int64{5}, []string{"twelve bytes"}},
		{"one that is empty", wordyLace(), []int64{0}, nil},
		{"all that are empty", wordyLace(), []int64{0, 3, 4, 7}, nil},
		{"a blank is not empty", wordyLace(), []int64{2}, []string{" "}},
		{"all", wordyLace(), []int64{0, 1, 2, 3, 4, 5, 6, 7, 8}, []string{"put a 1", " ", "twelve bytes", "put a 1", "9"}},
		{"empty ones between", wordyLace(), []int64{1, 0, 3, 5, 7, 8}, []string{"put a 1", "twelve bytes", "9"}},
		{"an empty one ahead and one behind", wordyLace(), []int64{4, 8, 7}, []string{"9"}},
		{"in the order of the list, later rounds first", wordyLace(), []int64{8, 5, 2, 1}, []string{"9", "twelve bytes", " ", "put a 1"}},
		{"the same number twice", wordyLace(), []int64{8, 8}, []string{"9", "9"}},
		{"the same number twice, with another one between", wordyLace(), []int64{1, 5, 1}, []string{"put a 1", "twelve bytes", "put a 1"}},
		{"the same number twice, and it is empty", wordyLace(), []int64{0, 8, 0}, []string{"9"}},
		{"two numbers that have the same word", wordyLace(), []int64{6, 1}, []string{"put a 1", "put a 1"}},
		{"the last one of a full lace", append(sixtyAtOnce()[:59], impl.Knot{Word: "last"}), []int64{59, 58}, []string{"last"}},
		{"a number behind the end", wordyLace(), []int64{1, 9}, nil},
		{"a number behind the end, ahead of others", wordyLace(), []int64{9, 1}, nil},
		{"a number behind the end, between others", wordyLace(), []int64{1, 5, 9, 8}, nil},
		{"a number below 0", wordyLace(), []int64{-1}, nil},
		{"a number below 0, behind others", wordyLace(), []int64{1, 5, 8, -1}, nil},
		{"a number below 0, between empty ones", wordyLace(), []int64{0, -1, 3}, nil},
		{"a number behind the end, ahead of an empty one and a word", wordyLace(), []int64{1, 59, 0, 8}, nil},
		{"any number of the empty lace", nil, []int64{0}, nil},
		{"many, and the last one is none", wordyLace(), append(slices.Clone(many), 60), nil},
	}
	for _, c := range cases {
		if !impl.LaceOk(c.l) {
			t.Fatalf("%s: it is no lace", c.why)
		}
		if got := impl.WordsOf(c.l, c.list); !slices.Equal(got, c.want) {
			t.Errorf("%s: WordsOf %v is %q, not %q", c.why, c.list[:min(len(c.list), 9)], got[:min(len(got), 9)], c.want)
		}
	}
	if got := impl.WordsOf(wordyLace(), many); !slices.Equal(got, plainWords(wordyLace(), many)) || len(got) < 55000 {
		t.Errorf("of %d numbers WordsOf has %d words", len(many), len(got))
	}
}

func TestTaleOfNumbersThatAreNoKnot(t *testing.T) {
	for _, l := range taleLaces() {
		wrong := slices.Concat(wrongMembers, []int64{int64(len(l)), math.MinInt64 + 1, -1 << 32, 1<<32 + 9})
		for i := int64(len(l)); i < 60; i += 9 {
			wrong = append(wrong, i, 59)
		}
		all := impl.Members(wholeOf(l))
		for _, k := range wrong {
			for _, coins := range [][]int64{nil, {2}, {1, 1, 1, 1, 1, 1}} {
				if got := impl.TaleOf(l, coins, k); len(got) != 0 {
					t.Errorf("of %d knots TaleOf %d, which is none, is %v", len(l), k, got)
				}
			}
			for _, list := range [][]int64{{k}, append([]int64{k}, all...), append(slices.Clone(all), k), slices.Insert(slices.Clone(all), len(all)/2, k)} {
				if got := impl.WordsOf(l, list); len(got) != 0 {
					t.Errorf("of %d knots WordsOf a list with %d, which is none, is %q", len(l), k, got)
				}
			}
		}
	}
}

func TestOutOfSetsThatAreNotClosed(t *testing.T) {
	three, late := fullRounds(3, 6), leaderLate()
	for _, c := range []struct {
		l []impl.Knot
		s int64
	}{
		{three, setOf(0, 6, 7, 8)}, {three, 511 - 2}, {three, 511 - 8}, {three, 511 - 1}, {three, setOf(6, 7, 8)}, {three, setOf(10)},
		{three, 1<<18 - 1<<9}, {three, 1<<18 - 2}, {late, 1<<25 - 1 - 1<<12}, {late, 1<<25 - 1 - 1<<3},
	} {
		if impl.Closed(c.l, c.s) {
			t.Fatalf("%v is closed: it is not what the test is about", impl.Members(c.s))
		}
		if got := impl.OutOf(c.l, nil, c.s); len(got) != 0 {
			t.Errorf("OutOf %v, which is not closed, is %v", impl.Members(c.s), got)
		}
	}
}

func TestOutOfSetsThatAreNotOfTheLace(t *testing.T) {
	for _, l := range taleLaces() {
		wrong := append(slices.Clone(wrongSets), -1<<59, -1<<60)
		for i := len(l); i < 60; i += 5 {
			wrong = append(wrong, 1<<uint(i), 1<<uint(i)|wholeOf(l), fullSet)
		}
		for _, s := range wrong {
			for _, coins := range [][]int64{nil, {1, 1, 1, 1, 1, 1}} {
				if got := impl.OutOf(l, coins, s); len(got) != 0 {
					t.Errorf("OutOf %d of %d knots is %v", s, len(l), got)
				}
			}
		}
	}
}

func TestTaleOfWhatIsNoLace(t *testing.T) {
	lists := wrongLaces()
	// What has a tale in a lace, and would where nobody looked whether it is one.
	lists["a wrong knot behind a tale"] = [][]impl.Knot{append(fullRounds(3, 6), impl.Knot{Hand: 4, Word: "x"}), append(fullRounds(3, 20), impl.Knot{}), append(wordyLace(), impl.Knot{Round: 1})}
	for reason, laces := range lists {
		for _, l := range laces {
			for _, k := range []int64{-1, 0, 1, 6, 9, 10, 15, int64(len(l)) - 1, int64(len(l)), 59, 60} {
				if got := impl.TaleOf(l, nil, k); len(got) != 0 {
					t.Errorf("%s: TaleOf %d is %v", reason, k, got)
				}
			}
			for _, s := range []int64{0, 1, 7, 511, 1<<12 - 1, 1<<18 - 1, fullSet, -1} {
				if got := impl.OutOf(l, nil, s); len(got) != 0 {
					t.Errorf("%s: OutOf %d is %v", reason, s, got)
				}
			}
			for _, list := range [][]int64{nil, {}, {0}, {0, 1}, {5, 8}, {-1}, {int64(len(l)) - 1}, {int64(len(l))}} {
				if got := impl.WordsOf(l, list); len(got) != 0 {
					t.Errorf("%s: WordsOf %v is %q", reason, list, got)
				}
			}
		}
	}
}

func TestTaleOfTheEmptyLace(t *testing.T) {
	for _, l := range [][]impl.Knot{nil, {}, wordyLace()[:0]} {
		for _, n := range []int64{-1, 0, 1, 59, 60, fullSet, 1 << 60} {
			if tale, out := impl.TaleOf(l, nil, n), impl.OutOf(l, nil, n); len(tale) != 0 || len(out) != 0 {
				t.Errorf("of no knots TaleOf %d is %v, OutOf it %v", n, tale, out)
			}
			if got := impl.WordsOf(l, []int64{n}); len(got) != 0 {
				t.Errorf("of no knots WordsOf %d is %q", n, got)
			}
		}
	}
}

// A wrong coin of one wave takes the tale from all others, too.
func TestTaleByCoinsThatAreNone(t *testing.T) {
	l := fullRounds(4, 7)
	for reason, lists := range wrongCoins() {
		for _, coins := range lists {
			for _, k := range []int64{-1, 0, 1, 8, 13, 24, 27, 28} {
				if got := impl.TaleOf(l, coins, k); len(got) != 0 {
					t.Errorf("%s: TaleOf %d by %d coins is %v", reason, k, len(coins), got)
				}
			}
			for _, s := range []int64{0, 1<<12 - 1, 1<<24 - 1, 1<<28 - 1, -1} {
				if got := impl.OutOf(l, coins, s); len(got) != 0 {
					t.Errorf("%s: OutOf %d by %d coins is %v", reason, s, len(coins), got)
				}
			}
		}
	}
}

// Promise 12: TaleOf of one on the chain begins TaleOf.
func TestTheTaleOfOneOnTheChainBeginsTheTale(t *testing.T) {
	begun := make([]int, 8)
	for n, l := range taleLaces() {
		for try := range 2 {
			coins := someCoins()[(3*n+11*try)%len(someCoins())]
			for k := int64((n + try) % 3); k < int64(len(l)); k += 3 {
				tale, ahead := impl.TaleOf(l, coins, k), []int64{}
				for i, x := range impl.ChainOf(l, coins, k) {
					part := impl.TaleOf(l, coins, x)
					if !impl.BeginsWith(tale, part) || !impl.BeginsWith(part, ahead) || !plainBegins(tale, part) || !plainBegins(part, ahead) {
						t.Fatalf("TaleOf %d by %v is %v, of %d on its chain %v, of the one ahead %v", k, coins, tale, x, part, ahead)
					}
					if len(part) <= len(ahead) || part[len(part)-1] != x {
						t.Fatalf("TaleOf %d by %v is %v, of the one ahead on its chain %v: it does not end with %d", x, coins, part, ahead, x)
					}
					ahead = part
					begun[i]++
				}
				if !slices.Equal(ahead, tale) {
					t.Fatalf("TaleOf %d by %v is %v, of the last one of its chain %v", k, coins, tale, ahead)
				}
			}
		}
	}
	if begun[0] < 500 || begun[1] < 300 || begun[2] < 150 || begun[3] < 50 || begun[4] < 20 || begun[5] < 5 {
		t.Fatalf("as many had so many ahead: %v: the test says little", begun)
	}
}

// Promise 12: nothing is told twice; and, as FreshOf has none that is Doubled, nor has the tale; it Respects, too.
func TestNothingIsToldTwice(t *testing.T) {
	oneRound, left, fresh := 0, 0, 0
	for n, l := range taleLaces() {
		coins := someCoins()[5*n%len(someCoins())]
		doubles := make([]int64, len(l))
		for a := range l {
			doubles[a] = impl.DoublesOf(l, int64(a))
		}
		for k := int64(n % 2); k < int64(len(l)); k += 2 {
			told := int64(0)
			tale := impl.TaleOf(l, coins, k)
			for i, x := range tale {
				if impl.InSet(told, x) || !impl.Sees(l, k, x) {
					t.Fatalf("TaleOf %d by %v, %v, has %d twice, or does not see it", k, coins, tale, x)
				}
				if with := doubles[x] & told; with != 0 {
					t.Fatalf("TaleOf %d by %v, %v, has %d, and %v, which are doubled with it", k, coins, tale, x, impl.Members(with))
				}
				told = impl.With(told, x)
				if i > 0 && l[x].Round == l[tale[i-1]].Round && l[x].Hand != l[tale[i-1]].Hand {
					oneRound++
				}
			}
			if !impl.Respects(l, tale) || !plainRespects(l, tale) {
				t.Fatalf("TaleOf %d by %v, %v, does not respect", k, coins, tale)
			}
			if impl.Below(l, k) != told {
				left++
			}
			if chain := impl.ChainOf(l, coins, k); len(chain) > 1 {
				fresh++
			}
		}
	}
	if oneRound < 2000 || left < 200 || fresh < 200 {
		t.Fatalf("%d stood behind another hand's knot of their round, %d tales left some out, %d had more than one part: the test says little", oneRound, left, fresh)
	}
}

// TaleOf, OutOf and WordsOf are what a plain look at all knots tells.
func TestTaleIsWhatTheWordsSay(t *testing.T) {
	d := dice(13)
	parts, outs, words, none := 0, 0, 0, 0
	for n, l := range taleLaces() {
		if len(l) == 0 {
			continue
		}
		for i := range l {
			if l[i].Word == "" && d.below(2) == 0 {
				l[i].Word = []string{"a", "b c", " ", "7"}[d.below(4)]
			}
		}
		sealers, nodders := plainSealers(l), plainNodders(l)
		for range 12 {
			coins := someCoins()[d.below(int64(len(someCoins())))]
			k, s := d.below(int64(len(l))), d.closedSet(l)
			tale := plainTale(l, sealers, nodders, coins, k)
			if got := impl.TaleOf(l, coins, k); !slices.Equal(got, tale) {
				t.Fatalf("lace %d: TaleOf %d by %v is %v, not %v", n, k, coins, got, tale)
			}
			parts += len(plainChain(l, sealers, coins, k)) - 1
			var out []int64
			if last := plainLast(l, plainFirmOnes(l, sealers, coins, s)); last != -1 {
				out = plainTale(l, sealers, nodders, coins, last)
				outs++
			}
			if got := impl.OutOf(l, coins, s); !slices.Equal(got, out) {
				t.Fatalf("lace %d: OutOf %v by %v is %v, not %v", n, impl.Members(s), coins, got, out)
			}
			list := slices.Concat(tale, out)
			if d.below(4) == 0 {
				list = slices.Insert(list, int(d.below(int64(len(list))+1)), int64(len(l))-d.below(2)*int64(len(l)+1))
				none++
			}
			got := impl.WordsOf(l, list)
			if want := plainWords(l, list); !slices.Equal(got, want) {
				t.Fatalf("lace %d: WordsOf %v is %q, not %q", n, list, got, want)
			}
			words += len(got)
		}
	}
	if parts < 300 || outs < 60 || words < 2000 || none < 50 {
		t.Fatalf("%d parts had one ahead, %d sets one that is firm, %d words, %d lists one that is none: the test says little", parts, outs, words, none)
	}
}

func TestBeginsWithIsWhatTheWordsSay(t *testing.T) {
	d := dice(14)
	drawn := func() []int64 {
		list := make([]int64, d.below(5))
		for i := range list {
			list[i] = d.below(2)
		}
		return list
	}
	begins, all, not := 0, 0, 0
	for range 5000 {
		a, b := drawn(), drawn()
		got := impl.BeginsWith(a, b)
		if got != plainBegins(a, b) {
			t.Fatalf("BeginsWith is %v of %v and %v", got, a, b)
		}
		switch {
		case !got:
			not++
		case len(a) == len(b):
			all++
		default:
			begins++
		}
		// Of two each of which begins the other one, both are the same.
		if got && impl.BeginsWith(b, a) != slices.Equal(a, b) {
			t.Fatalf("of %v and %v each begins the other one", a, b)
		}
	}
	if begins < 300 || all < 300 || not < 1000 {
		t.Fatalf("%d began, %d were all of it, %d were neither: the test says little", begins, all, not)
	}
}

// Where one hand alone is bad, what is told of a closed set begins what is told of a greater one, and of any two sets the one begins the other.
func TestOutOfAClosedSetBeginsOutOfAGreaterOne(t *testing.T) {
	d := dice(42)
	grown, same, apart := 0, 0, 0
	for n := range int64(24) {
		l := d.risingLace(n%5 - 1)
		for range 10 {
			coins := someCoins()[d.below(int64(len(someCoins())))]
			s, other := d.closedSet(l), d.closedSet(l)
			out, others, both := impl.OutOf(l, coins, s), impl.OutOf(l, coins, other), impl.OutOf(l, coins, s|other)
			if !impl.BeginsWith(both, out) || !impl.BeginsWith(both, others) {
				t.Fatalf("OutOf by %v of %v is %v, of %v %v, of both %v", coins, impl.Members(s), out, impl.Members(other), others, both)
			}
			if !impl.BeginsWith(out, others) && !impl.BeginsWith(others, out) {
				t.Fatalf("OutOf by %v of %v is %v, of %v %v: neither begins the other", coins, impl.Members(s), out, impl.Members(other), others)
			}
			switch {
			case len(out) > 0 && len(out) < len(both):
				grown++
			case len(out) > 0:
				same++
			}
			if len(out) > 0 && len(others) > 0 && len(out) != len(others) {
				apart++
			}
		}
	}
	if grown < 20 || same < 50 || apart < 20 {
		t.Fatalf("%d grew, %d stayed, %d had two that differ: the test says little", grown, same, apart)
	}
}

// What is tied later has no say about a tale, nor about what is told of a set, nor about words.
func TestATaleStaysWhenMoreIsTied(t *testing.T) {
	for n, l := range taleLaces() {
		coins := someCoins()[7*n%len(someCoins())]
		for k := n % 6; k < len(l); k += 6 {
			for _, end := range []int{k + 1, (k + 1 + len(l)) / 2} {
				short, long := impl.TaleOf(l[:end], coins, int64(k)), impl.TaleOf(l, coins, int64(k))
				if !slices.Equal(short, long) {
					t.Fatalf("TaleOf %d is %v in the first %d knots, %v in %d", k, short, end, long, len(l))
				}
				s := wholeOf(l[:k+1])
				if short, long := impl.OutOf(l[:end], coins, s), impl.OutOf(l, coins, s); !slices.Equal(short, long) {
					t.Fatalf("OutOf the first %d is %v in the first %d knots, %v in %d", k+1, short, end, long, len(l))
				}
				if short, long := impl.WordsOf(l[:end], short), impl.WordsOf(l, short); !slices.Equal(short, long) {
					t.Fatalf("WordsOf is %q in the first %d knots, %q in %d", short, end, long, len(l))
				}
			}
		}
	}
}

// The words of a tale come in its order, not by rounds: the leader's own word ends each part.
func TestWordsOfATale(t *testing.T) {
	l := fullRounds(3, 20)
	for i := range l {
		l[i].Word = string([]byte{byte('0' + l[i].Hand), ' ', byte('a' + l[i].Round)})
	}
	words := impl.WordsOf(l, impl.TaleOf(l, nil, 15))
	want := []string{"0 a", "1 a", "2 a", "0 b", "1 b", "2 b", "0 c", "1 c", "2 c", "1 d", "0 d", "2 d", "0 e", "1 e", "2 e", "0 f"}
	if !slices.Equal(words, want) {
		t.Errorf("WordsOf TaleOf 15 is %q, not %q", words, want)
	}
	if got := impl.WordsOf(l, impl.OutOf(l, nil, 1<<18-1)); !slices.Equal(got, want[:10]) {
		t.Errorf("WordsOf OutOf two waves is %q, not %q", got, want[:10])
	}
}

func overwritten[T any](list []T, with T) {
	list = list[:cap(list)]
	for i := range list {
		list[i] = with
	}
}

func TestTaleIsNewMemory(t *testing.T) {
	for _, l := range [][]impl.Knot{nil, fullRounds(3, 1), fullRounds(3, 20), toldAhead(), wordyLace(), wrongLaces()["out of order"][0]} {
		for _, coins := range [][]int64{nil, {2, 2, 2, 2, 2, 2}, {4}} {
			for _, n := range []int64{-1, 0, 1, 7, int64(len(l)) - 1, int64(len(l)), wholeOf(l)} {
				asks := []func() []int64{
					func() []int64 { return impl.TaleOf(l, coins, n) },
					func() []int64 { return impl.OutOf(l, coins, n) },
				}
				for _, ask := range asks {
					first, second := ask(), ask()
					want := slices.Clone(second)
					overwritten(first, 77)
					if !slices.Equal(second, want) || !slices.Equal(ask(), want) {
						t.Fatalf("a list that was written into changed another one: %v, %v", second, ask())
					}
				}
			}
		}
		for _, list := range [][]int64{nil, {0}, {1, 2, 5, 8}, {1, 60}} {
			first, second := impl.WordsOf(l, list), impl.WordsOf(l, list)
			want := slices.Clone(second)
			overwritten(first, "changed")
			if !slices.Equal(second, want) || !slices.Equal(impl.WordsOf(l, list), want) {
				t.Fatalf("a list that was written into changed another one: %q, %q", second, impl.WordsOf(l, list))
			}
		}
	}
}

// The tale of one on a chain is the beginning of another tale, in memory of its own.
func TestTalesOfOneChainShareNoMemory(t *testing.T) {
	l := fullRounds(3, 20)
	chain := impl.ChainOf(l, nil, 59)
	tales := make([][]int64, len(chain))
	for i, x := range chain {
		tales[i] = impl.TaleOf(l, nil, x)
	}
	for i := range tales {
		overwritten(tales[i], 77)
		for _, later := range tales[i+1:] {
			if slices.Contains(later, 77) {
				t.Fatalf("what was written into the tale of %d is in another one", chain[i])
			}
		}
	}
	if got := impl.TaleOf(l, nil, 10); !slices.Equal(got, []int64{0, 1, 2, 3, 4, 5, 6, 7, 8, 10}) {
		t.Errorf("TaleOf 10 is %v by now", got)
	}
}

func TestTaleLeavesListsAndCoinsAsTheyAre(t *testing.T) {
	lists := [][]impl.Knot{nil, fullRounds(3, 20), fullRounds(4, 7), toldAhead(), wordyLace(), bothSealed()}
	for _, laces := range wrongLaces() {
		lists = append(lists, laces[0])
	}
	for _, given := range [][]int64{{}, {2}, {1, 0, 3, 2, 1, 0}, {0, 1, 2}, {4}, {0, 0, 0, 0, 0, 0, 0}, {8, 8, -1}} {
		whole := slices.Concat(given, []int64{77, 78, 79, 80, 81, 82, 83})
		numbers, before := whole[:len(given)], slices.Clone(whole)
		for _, list := range lists {
			l, room := roomy(list)
			knots := slices.Clone(room)
			for _, n := range []int64{-1, 0, 9, int64(len(l)) - 1, int64(len(l)), 1<<uint(min(len(l), 60)) - 1} {
				tale, out := impl.TaleOf(l, numbers, n), impl.OutOf(l, numbers, n)
				if !slices.Equal(impl.TaleOf(l, numbers, n), tale) || !slices.Equal(impl.OutOf(l, numbers, n), out) {
					t.Fatalf("asked again about %d, the answer is another one", n)
				}
				if impl.BeginsWith(numbers, tale) != plainBegins(numbers, tale) || impl.BeginsWith(tale, numbers) != plainBegins(tale, numbers) {
					t.Fatalf("BeginsWith is not as told of %v and %v", numbers, tale)
				}
			}
			if words := impl.WordsOf(l, numbers); !slices.Equal(impl.WordsOf(l, numbers), words) {
				t.Fatalf("asked again about %v, the answer is another one", numbers)
			}
			if !slices.Equal(room, knots) {
				t.Fatalf("%+v was changed into %+v", knots, room)
			}
		}
		if !slices.Equal(whole, before) {
			t.Fatalf("%v was changed into %v", before, whole)
		}
	}
}
