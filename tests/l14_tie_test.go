package tests

import (
	"slices"
	"strings"
	"testing"

	"loop.example/g00418/impl"
)

var rightWords = []string{"", "x", "0", "put a 5", " ", " a ", "abcdefghijkl", "mnopqrstuvwx", "yz0123456789", "            "}

var wrongWords = []string{
	"abcdefghijklm", "             ", "0123456789abc", strings.Repeat("a", 5000),
	"A", "putA", "a:", "a-b", "a.", "a\n", "\na", "a\tb", "a\x00", "\x7f", "\xff", "é", "a\u00a0b",
}

// plainWord says what the words of chapter 2 say of a Word.
func plainWord(word string) bool {
	return len(word) <= 12 && strings.Trim(word, "abcdefghijklmnopqrstuvwxyz0123456789 ") == ""
}

// plainNextRound says what the words of chapter 14 say of a right hand; it asks all that the hand tied, not Last alone.
func plainNextRound(l []impl.Knot, h impl.Hand) int64 {
	next := int64(0)
	for round := int64(1); round <= 19; round++ {
		hands := map[int64]int{}
		for i, k := range l {
			if h.Has>>uint(i)&1 == 1 && k.Round == round-1 {
				hands[k.Hand]++
			}
		}
		if len(hands) >= 3 {
			next = round
		}
	}
	for _, k := range plainOwn(l, h.Who, h.Has) {
		if l[k].Round >= next {
			return -1
		}
	}
	return next
}

func plainDraft(l []impl.Knot, h impl.Hand, word string) (impl.Knot, bool) {
	round := plainNextRound(l, h)
	if round == -1 || !plainWord(word) {
		return impl.Knot{}, false
	}
	lesser := int64(0)
	for i, k := range l {
		if h.Has>>uint(i)&1 == 1 && k.Round < round {
			lesser |= 1 << uint(i)
		}
	}
	return impl.Knot{Hand: h.Who, Round: round, From: plainTips(l, lesser), Word: word}, true
}

func plainTies(l []impl.Knot, h impl.Hand, word string) ([]impl.Knot, impl.Hand, bool) {
	k, is := plainDraft(l, h, word)
	if !is || len(l) >= 60 {
		return l, h, false
	}
	has := h.Has + 1<<uint(len(l))
	return append(slices.Clone(l), k), impl.Hand{Who: h.Who, Has: has, Kept: has, Last: int64(len(l))}, true
}

// tieWants tells where one of the functions does not answer a right hand as it should: next is its next round, from is what it hangs on then.
func tieWants(t *testing.T, why string, l []impl.Knot, h impl.Hand, next, from int64) {
	t.Helper()
	if !impl.LaceOk(l) || !impl.HandOk(l, h) || !plainHandOk(l, h) {
		t.Fatalf("%s: the lace or the hand %+v is not what the test is about", why, h)
	}
	if got := impl.NextRound(l, h); got != next {
		t.Errorf("%s: NextRound of %+v is %d, not %d", why, h, got, next)
	}
	for _, word := range slices.Concat(rightWords, wrongWords) {
		want, may := impl.Knot{Hand: h.Who, Round: next, From: from, Word: word}, next != -1 && slices.Contains(rightWords, word)
		if !may {
			want = impl.Knot{}
		}
		if got, is := impl.Draft(l, h, word); got != want || is != may {
			t.Errorf("%s: Draft of %+v and %q is %+v and %v, not %+v and %v", why, h, word, got, is, want, may)
		}
		tied, hand, is := impl.Ties(l, h, word)
		if !may || len(l) == 60 {
			if !slices.Equal(tied, l) || hand != h || is {
				t.Errorf("%s: %+v Ties %q: %d knots, %+v and %v, not as they are and false", why, h, word, len(tied), hand, is)
			}
			continue
		}
		has := h.Has + setOf(int64(len(l)))
		after := impl.Hand{Who: h.Who, Has: has, Kept: has, Last: int64(len(l))}
		if !slices.Equal(tied, append(slices.Clone(l), want)) || hand != after || !is {
			t.Errorf("%s: %+v Ties %q: %d knots, %+v and %v, not %+v and true", why, h, word, len(tied), hand, is, after)
		}
	}
}

func TestTiesOfANewHand(t *testing.T) {
	for _, l := range rightLaces() {
		for who := range int64(4) {
			h, _ := impl.NewHand(who)
			tieWants(t, "a new hand", l, h, 0, 0)
		}
	}
}

// threeOfRoundTwo is mixedLace without what is behind 9, and a third hand's knot of round 2.
func threeOfRoundTwo() []impl.Knot {
	return append(mixedLace()[:10], impl.Knot{Hand: 1, Round: 2, From: setOf(4, 6, 7)})
}

func TestTiesByWhatItHas(t *testing.T) {
	mixed, third := mixedLace(), threeOfRoundTwo()
	cases := []struct {
		why  string
		l    []impl.Knot
		h    impl.Hand
		next int64
		from int64
	}{
		{"it has not tied, and has a knot of one hand", mixed, impl.Hand{Who: 3, Has: setOf(0), Last: -1}, 0, 0},
		{"it has not tied, and has knots of two hands", mixed, impl.Hand{Who: 3, Has: setOf(0, 1), Last: -1}, 0, 0},
		{"it has not tied, and has three knots of two hands", mixed, impl.Hand{Who: 3, Has: setOf(0, 1, 2), Last: -1}, 0, 0},
		{"it has not tied, and has four knots of two hands, which it keeps", mixed, impl.Hand{Who: 3, Has: setOf(0, 1, 2, 10), Kept: setOf(0, 1, 2, 10), Last: -1}, 0, 0},
		{"it has not tied, and has knots of three hands", mixed, impl.Hand{Who: 3, Has: setOf(0, 1, 3), Last: -1}, 1, setOf(0, 1, 3)},
		{"it has not tied, and has knots of three hands, which it keeps", mixed, impl.Hand{Who: 3, Has: setOf(0, 1, 3), Kept: setOf(0, 1, 3), Last: -1}, 1, setOf(0, 1, 3)},
		{"it has not tied, and has knots of three hands, one of them tied twice", mixed, impl.Hand{Who: 3, Has: setOf(0, 1, 2, 3), Last: -1}, 1, setOf(0, 1, 2, 3)},
		{"it has tied in round 0, and has nothing else", mixed, impl.Hand{Who: 3, Has: setOf(5), Kept: setOf(5), Last: 5}, -1, 0},
		{"it has tied in round 0, the first knot of all", mixed, impl.Hand{Who: 0, Has: setOf(0), Kept: setOf(0), Last: 0}, -1, 0},
		{"it has tied in round 0, and has knots of two hands", mixed, impl.Hand{Who: 3, Has: setOf(0, 5), Kept: setOf(5), Last: 5}, -1, 0},
		{"it has tied in round 0, and has knots of two hands, one of them tied twice", mixed, impl.Hand{Who: 3, Has: setOf(1, 2, 5), Kept: setOf(5), Last: 5}, -1, 0},
		{"it has tied in round 0, and has knots of two hands, itself tied twice", mixed, impl.Hand{Who: 1, Has: setOf(0, 1, 2), Kept: setOf(1, 2), Last: 1}, -1, 0},
		{"it has tied in round 0, and has knots of three hands", mixed, impl.Hand{Who: 3, Has: setOf(0, 1, 5), Kept: setOf(5), Last: 5}, 1, setOf(0, 1, 5)},
		{"it has tied in round 0, and has knots of three hands, one of them tied twice", mixed, impl.Hand{Who: 3, Has: setOf(1, 2, 3, 5), Kept: setOf(5), Last: 5}, 1, setOf(1, 2, 3, 5)},
		{"it has tied in round 0, and has knots of three hands, itself tied twice", mixed, impl.Hand{Who: 1, Has: setOf(0, 1, 2, 3), Kept: setOf(1, 2), Last: 1}, 1, setOf(0, 1, 2, 3)},
		{"it has tied in round 0, and has knots of all four", mixed, impl.Hand{Who: 3, Has: setOf(0, 1, 3, 5), Kept: setOf(5), Last: 5}, 1, setOf(0, 1, 3, 5)},
		{"it has tied in round 0, and has all of that round", mixed, impl.Hand{Who: 2, Has: setOf(0, 1, 2, 3, 5, 10), Kept: setOf(3), Last: 3}, 1, setOf(0, 1, 2, 3, 5, 10)},
		{"its Last is of that round already", mixed, impl.Hand{Who: 0, Has: setOf(0, 1, 3, 4), Kept: setOf(0, 1, 3, 4), Last: 4}, -1, 0},
		{"its Last is of that round already, and it has one more of it", mixed, impl.Hand{Who: 0, Has: setOf(0, 1, 2, 3, 4, 6), Kept: setOf(0, 1, 3, 4), Last: 4}, -1, 0},
		{"its Last is of that round already, and behind it stands one of its own of a lesser one", mixed, impl.Hand{Who: 0, Has: setOf(0, 1, 3, 4, 10), Kept: setOf(0, 1, 3, 4, 10), Last: 4}, -1, 0},
		{"its Last is of that round already, two rounds deep", mixed, allOf(mixed, 3), -1, 0},
		{"its Last is of that round already, and stands between others of its own", mixed, allOf(mixed, 2), -1, 0},
		{"its Last is of the round just before", mixed, impl.Hand{Who: 0, Has: setOf(0, 1, 2, 3, 4, 5, 6, 7), Kept: setOf(0, 1, 3, 4), Last: 4}, 2, setOf(4, 6, 7)},
		{"its Last is of the round just before, and it has all", mixed, allOf(mixed, 1), 2, setOf(4, 6, 7, 11)},
		{"its Last is of a lesser one by two", mixed, impl.Hand{Who: 3, Has: setOf(0, 1, 2, 3, 4, 5, 6, 10, 11), Kept: setOf(5), Last: 5}, 2, setOf(4, 6, 11)},
		{"its Last is of a lesser one by two, and is no tip", third, impl.Hand{Who: 2, Has: setOf(0, 1, 2, 3, 4, 5, 6, 7), Kept: setOf(3), Last: 3}, 2, setOf(4, 6, 7)},
		{"its Last is of a lesser one by two, three hands of the next round are there, one of them twice", append(third, impl.Knot{Hand: 1, Round: 2, From: setOf(4, 6, 7)}), impl.Hand{Who: 0, Has: 1<<12 - 1, Kept: setOf(0, 1, 3, 4), Last: 4}, 3, setOf(8, 9, 10, 11)},
		{"a knot of round 0 that none sees is hung on, too", mixed, impl.Hand{Who: 2, Has: setOf(0, 1, 2, 3, 4, 5, 6, 7, 10), Kept: setOf(3), Last: 3}, 2, setOf(4, 6, 7, 10)},
		{"a knot of the same round is not hung on", mixed, impl.Hand{Who: 3, Has: setOf(0, 1, 3, 4), Last: -1}, 1, setOf(0, 1, 3)},
		{"what a knot of the same round sees is hung on, and what it does not see", mixed, impl.Hand{Who: 1, Has: setOf(0, 1, 2, 3, 4, 5, 7), Kept: setOf(1, 2), Last: 1}, 1, setOf(0, 1, 2, 3, 5)},
		{"a knot of the same round is not hung on, two rounds deep", mixed, impl.Hand{Who: 0, Has: 511, Kept: setOf(0, 1, 3, 4), Last: 4}, 2, setOf(4, 6, 7)},
		{"two hands of a round do not open the next one", mixed, allOf(mixed, 0), 2, setOf(4, 6, 7, 11)},
		{"three knots of two hands of a round do not open the next one", oneHandTwice(), impl.Hand{Who: 3, Has: 511, Last: -1}, 2, setOf(3, 4, 5)},
		{"three hands of the greater round: that one is next", third, allOf(third, 0), 3, setOf(8, 9, 10)},
		{"three hands of the greater round, and its Last is of it", third, allOf(third, 1), 3, setOf(8, 9, 10)},
		{"the three knots are in the lace, and it lacks one", third, impl.Hand{Who: 0, Has: 1<<10 - 1, Kept: 1<<10 - 1, Last: 4}, 2, setOf(4, 6, 7)},
	}
	for _, c := range cases {
		tieWants(t, c.why, c.l, c.h, c.next, c.from)
	}
}

// A hand that ties nothing may tie in the greatest round that all it has opens, and no round is past the last one.
func TestTiesAtTheGreatestRound(t *testing.T) {
	three, four := fullRounds(3, 20), fullRounds(4, 15)
	for rounds := int64(1); rounds <= 20; rounds++ {
		next := min(rounds, impl.MaxRound)
		has := int64(1)<<uint(3*rounds) - 1
		from := int64(7) << uint(3*next-3)
		tieWants(t, "it has whole rounds of a longer lace", three, impl.Hand{Who: 3, Has: has, Last: -1}, next, from)
		tieWants(t, "it has whole rounds, and these are all", fullRounds(3, rounds), impl.Hand{Who: 3, Has: has, Kept: 1, Last: -1}, next, from)
		if rounds < 20 {
			tieWants(t, "it has two hands of the next round beside", three, impl.Hand{Who: 3, Has: has | 3<<uint(3*rounds), Last: -1}, next, from)
			tieWants(t, "it has tied in each round", three, impl.Hand{Who: 2, Has: has, Kept: has, Last: 3*rounds - 1}, next, from)
			tieWants(t, "it has tied in each round but the next one, of which it has two", three, impl.Hand{Who: 2, Has: has | 3<<uint(3*rounds), Kept: has, Last: 3*rounds - 1}, next, from)
			tieWants(t, "it has tied in each round and in the next one", three, impl.Hand{Who: 0, Has: has | 1<<uint(3*rounds), Kept: has | 1<<uint(3*rounds), Last: 3 * rounds}, -1, 0)
		}
	}
	late := append(fullRounds(3, 19), impl.Knot{Hand: 3, Word: "late"})
	cases := []struct {
		why  string
		l    []impl.Knot
		h    impl.Hand
		next int64
		from int64
	}{
		{"its Last is of MaxRound", three, allOf(three, 0), -1, 0},
		{"its Last is of MaxRound, and there is room", three[:58], allOf(three[:58], 0), -1, 0},
		{"its Last is of the round just before MaxRound", three, impl.Hand{Who: 0, Has: fullSet - 1<<57, Kept: 1<<57 - 1, Last: 54}, 19, 7 << 54},
		{"its Last is of the round just before MaxRound, and there is room", three[:58], allOf(three[:58], 1), 19, 7 << 54},
		{"its Last is of round 0, and MaxRound is open", late, allOf(late, 3), 19, 15 << 54},
		{"it has no Last, and MaxRound is open", late, impl.Hand{Who: 3, Has: 1<<57 - 1, Last: -1}, 19, 7 << 54},
		{"its Last is of round 0, and two hands of the round just before MaxRound are there", late, impl.Hand{Who: 3, Has: 1<<56 - 1 | 1<<57, Kept: 1 << 57, Last: 57}, 18, 7<<51 | 1<<57},
		{"all four of the round just before", four, allOf(four, 2), 15, 15 << 56},
		{"three of the four of the round just before", four, impl.Hand{Who: 2, Has: fullSet - 1<<59, Kept: fullSet - 1<<59, Last: 58}, 15, 7 << 56},
		{"two of the four of the round just before, its own not among them", four, impl.Hand{Who: 2, Has: 1<<58 - 1, Kept: 1<<56 - 1, Last: 54}, 14, 15 << 52},
		{"two of the four of the round just before, its own among them", four, impl.Hand{Who: 2, Has: 1<<57 - 1 | 1<<58, Kept: 1<<56 - 1 | 1<<58, Last: 58}, -1, 0},
	}
	for _, c := range cases {
		tieWants(t, c.why, c.l, c.h, c.next, c.from)
	}
}

// A lace that has one knot less than there may be takes one more, whatever the round; then it takes none, though there is a draft.
func TestTiesUntilTheLaceIsFull(t *testing.T) {
	for _, l := range [][]impl.Knot{sixtyAtOnce(), fullRounds(3, 20), fullRounds(4, 15), fourthHandLate()} {
		for who := range int64(4) {
			for _, h := range []impl.Hand{{Who: who, Last: -1}, allOf(l[:58], who), allOf(l[:58-who], who)} {
				short := l[:59]
				k, is := impl.Draft(short, h, "z 9")
				tied, after, may := impl.Ties(short, h, "z 9")
				if is != may || is && !slices.Equal(tied, append(slices.Clone(short), k)) || is && after.Last != 59 {
					t.Fatalf("%+v Ties to 59 knots: %d knots, %+v and %v, where Draft is %+v and %v", h, len(tied), after, may, k, is)
				}
				if got, have := impl.Draft(l, h, "z 9"); got != k || have != is {
					t.Fatalf("Draft of %+v is %+v and %v of 60 knots, %+v and %v of 59", h, got, have, k, is)
				}
				if got, same, no := impl.Ties(l, h, "z 9"); no || same != h || !slices.Equal(got, l) {
					t.Fatalf("%+v Ties to 60 knots: %d knots, %+v and %v", h, len(got), same, no)
				}
			}
		}
	}
	short := sixtyAtOnce()[:59]
	tieWants(t, "the last one that there is room for", short, allOf(short, 3), 1, 1<<59-1)
	tieWants(t, "all sixty of one round", sixtyAtOnce(), allOf(sixtyAtOnce(), 3), 1, fullSet)
}

func TestTiesEachByteOfAWord(t *testing.T) {
	l, h := mixedLace(), allOf(mixedLace(), 1)
	for c := range 256 {
		for _, word := range []string{string([]byte{byte(c)}), string([]byte{'a', byte(c)}), string([]byte{byte(c), ' ', '0'})} {
			k, is := impl.Draft(l, h, word)
			tied, _, may := impl.Ties(l, h, word)
			want := plainWord(word)
			if is != want || may != want || want && (k.Word != word || tied[12] != k) || !want && k != (impl.Knot{}) {
				t.Errorf("Draft of %q is %+v and %v, and Ties %v", word, k, is, may)
			}
		}
	}
}

// noTie tells where one of the functions does not answer a hand that is none as it should.
func noTie(t *testing.T, why string, l []impl.Knot, h impl.Hand) {
	t.Helper()
	if got := impl.NextRound(l, h); got != -1 {
		t.Errorf("%s: NextRound of %+v is %d", why, h, got)
	}
	for _, word := range []string{"", "x", "abcdefghijklm", "A"} {
		if got, is := impl.Draft(l, h, word); got != (impl.Knot{}) || is {
			t.Errorf("%s: Draft of %+v and %q is %+v and %v", why, h, word, got, is)
		}
		if tied, got, is := impl.Ties(l, h, word); len(tied) != 0 || got != (impl.Hand{}) || is {
			t.Errorf("%s: %+v Ties %q: %d knots, %+v and %v", why, h, word, len(tied), got, is)
		}
	}
}

func TestTiesOfHandsThatAreNone(t *testing.T) {
	for why, hands := range wrongHands() {
		for _, h := range hands {
			noTie(t, why, mixedLace(), h)
		}
	}
}

func TestTiesToWhatIsNoLace(t *testing.T) {
	for reason, laces := range wrongLaces() {
		for _, l := range laces {
			for _, h := range []impl.Hand{{}, {Who: 3, Last: -1}, {Who: 3, Has: 11, Last: -1}, {Who: 0, Has: 1, Kept: 1}, {Who: 3, Has: allMixed, Kept: allMixed, Last: 9}} {
				noTie(t, reason, l, h)
			}
		}
	}
}

func TestTiesToNoKnots(t *testing.T) {
	for _, l := range [][]impl.Knot{nil, {}, mixedLace()[:0]} {
		for who := range int64(4) {
			tieWants(t, "no knots", l, impl.Hand{Who: who, Last: -1}, 0, 0)
			tied, h, is := impl.Ties(l, impl.Hand{Who: who, Last: -1}, "first")
			if want := (impl.Hand{Who: who, Has: 1, Kept: 1}); !is || h != want || !slices.Equal(tied, []impl.Knot{{Hand: who, Word: "first"}}) {
				t.Errorf("the first one of all: %+v, %+v and %v", tied, h, is)
			}
			for _, h := range []impl.Hand{{Who: who}, {Who: who, Has: 1, Last: -1}, {Who: who, Has: 1, Kept: 1}, {Who: who, Kept: 1, Last: -1}, {Who: who, Has: -1, Kept: -1, Last: -1}, {Who: who - 4, Last: -1}, {Who: who + 4, Last: -1}} {
				noTie(t, "no knots", l, h)
			}
		}
	}
}

// tiesAgain asks a hand that has just tied to tie again right away: that is refused, but where its own knot is of the third hand of its round, or of the fourth, which opens the next round.
func tiesAgain(t *testing.T, l []impl.Knot, h impl.Hand) {
	t.Helper()
	round := l[h.Last].Round
	opens := round < impl.MaxRound && impl.HandsOf(l, impl.AtRound(l, h.Has, round)) >= 3
	tied, after, again := impl.Ties(l, h, "")
	if !opens && (impl.NextRound(l, h) != -1 || again || after != h || !slices.Equal(tied, l)) {
		t.Fatalf("%+v tied in round %d, and may tie again right away: NextRound is %d, Ties %+v and %v", h, round, impl.NextRound(l, h), after, again)
	}
	if opens && (impl.NextRound(l, h) != round+1 || again != (len(l) < 60) || again && tied[after.Last].Round != round+1) {
		t.Fatalf("%+v tied in round %d, which opens the next one: NextRound is %d, Ties %+v and %v", h, round, impl.NextRound(l, h), after, again)
	}
}

func TestTiesAgainRightAway(t *testing.T) {
	mixed := mixedLace()
	cases := []struct {
		why  string
		l    []impl.Knot
		h    impl.Hand
		then int64
	}{
		{"the first knot of all", nil, impl.Hand{Who: 2, Last: -1}, -1},
		{"it is of the first hand of its round", mixed, impl.Hand{Who: 3, Last: -1}, -1},
		{"it is of the second hand of its round", mixed, impl.Hand{Who: 3, Has: setOf(0), Last: -1}, -1},
		{"it is of the second hand of its round, the first one tied twice", mixed, impl.Hand{Who: 3, Has: setOf(1, 2), Last: -1}, -1},
		{"it is of the third hand of its round, which opens the next one", mixed, impl.Hand{Who: 3, Has: setOf(0, 1), Last: -1}, 1},
		{"it is of the first hand of round 1", mixed, impl.Hand{Who: 3, Has: setOf(0, 1, 3), Last: -1}, -1},
		{"it is of the second hand of round 1", mixed, impl.Hand{Who: 3, Has: setOf(0, 1, 3, 4), Last: -1}, -1},
		{"it is of the third hand of round 1, which opens the next one", mixed, impl.Hand{Who: 2, Has: setOf(0, 1, 2, 3, 4, 6), Kept: setOf(3), Last: 3}, 2},
		{"it is of the third hand of round 2, which opens the next one", mixed, allOf(mixed, 1), 3},
		{"it is of MaxRound", fullRounds(3, 19), allOf(fullRounds(3, 19), 0), -1},
		{"it is of the second hand of MaxRound", fullRounds(3, 20)[:58], allOf(fullRounds(3, 20)[:58], 1), -1},
		{"it is of the third hand of MaxRound", fullRounds(3, 20)[:59], allOf(fullRounds(3, 20)[:59], 2), -1},
	}
	for _, c := range cases {
		l, h, is := impl.Ties(c.l, c.h, "once")
		if got := impl.NextRound(l, h); !is || got != c.then {
			t.Errorf("%s: %+v Ties is %v, and NextRound behind it is %d, not %d", c.why, c.h, is, got, c.then)
		}
		tied, after, again := impl.Ties(l, h, "twice")
		if again != (c.then != -1) || again && (tied[after.Last].Round != c.then || !impl.Sees(tied, after.Last, h.Last)) || !again && (after != h || !slices.Equal(tied, l)) {
			t.Errorf("%s: %+v ties again right away: %+v and %v", c.why, h, after, again)
		}
	}
}

// tiers is a lace that four hands tie at, and of each hand what it has tied itself; bad, where there is one, ties as it likes.
type tiers struct {
	l     []impl.Knot
	hands [4]impl.Hand
	tied  [4][]int64
	bad   int64
}

func newTiers(bad int64) tiers {
	r := tiers{bad: bad}
	for who := range r.hands {
		r.hands[who], _ = impl.NewHand(int64(who))
	}
	return r
}

// ties lets a hand tie, holds promise 14 against what it tied, and tells whether it did.
func (r *tiers) ties(t *testing.T, who int64, word string) bool {
	t.Helper()
	l, h, is := impl.Ties(r.l, r.hands[who], word)
	if !is {
		if h != r.hands[who] || !slices.Equal(l, r.l) {
			t.Fatalf("%+v was refused, and came to be %+v", r.hands[who], h)
		}
		return false
	}
	at := int64(len(r.l))
	if !impl.LaceOk(l) || !plainLace(l) || !impl.HandOk(l, h) || !plainHandOk(l, h) {
		t.Fatalf("%+v tied, and came to be %+v: the lace or the hand is not right", r.hands[who], h)
	}
	if len(l) != len(r.l)+1 || !slices.Equal(l[:at], r.l) || l[at].Hand != who || l[at].Word != word || h.Last != at || h.Kept != h.Has || h.Has != r.hands[who].Has|1<<uint(at) {
		t.Fatalf("%+v tied %+v, and came to be %+v", r.hands[who], l[len(l)-1], h)
	}
	below := plainBelow(l, at)
	for _, before := range r.tied[who] {
		if l[before].Round >= l[at].Round {
			t.Fatalf("hand %d tied %d in round %d, behind %d in round %d", who, at, l[at].Round, before, l[before].Round)
		}
		if below[before] == 0 || !impl.Sees(l, at, before) || impl.Doubled(l, at, before) {
			t.Fatalf("hand %d tied %d, which does not see %d, which it tied before", who, at, before)
		}
	}
	tiesAgain(t, l, h)
	r.l, r.hands[who], r.tied[who] = l, h, append(r.tied[who], at)
	return true
}

// Hands that all learn, then all tie, make round by round what fullRounds has, until there is no room.
func TestHandsTieAFullLace(t *testing.T) {
	for _, c := range []struct{ hands, rounds int64 }{{3, 20}, {4, 15}} {
		want := fullRounds(c.hands, c.rounds)
		r := newTiers(-1)
		for round := range c.rounds {
			for who := range c.hands {
				for k := range r.l {
					r.hands[who], _ = impl.Learns(r.l, r.hands[who], int64(k))
				}
			}
			for who := range c.hands {
				if next := impl.NextRound(r.l, r.hands[who]); next != round {
					t.Fatalf("hand %d, round %d: NextRound is %d", who, round, next)
				}
				if is := r.ties(t, who, ""); !is || !slices.Equal(r.l, want[:len(r.l)]) {
					t.Fatalf("hand %d, round %d: Ties is %v, and the last knot is %+v", who, round, is, r.l[len(r.l)-1])
				}
			}
		}
		if !slices.Equal(r.l, want) {
			t.Fatalf("%d hands tied %d knots, not %d", c.hands, len(r.l), len(want))
		}
		for who := range int64(4) {
			if r.ties(t, who, "") {
				t.Fatalf("hand %d ties where there is no room", who)
			}
		}
	}
}

// learns lets a hand learn a drawn knot, most of the time one that it lacks, alone or with all below it.
func (r *tiers) learns(d *dice, who int64) {
	if len(r.l) == 0 {
		return
	}
	k := d.below(int64(len(r.l)))
	for d.below(8) > 0 && impl.InSet(r.hands[who].Has, k) && k < int64(len(r.l))-1 {
		k++
	}
	if d.below(3) == 0 {
		r.hands[who], _ = impl.LearnsAll(r.l, r.hands[who], k)
		return
	}
	r.hands[who], _ = impl.Learns(r.l, r.hands[who], k)
}

func (r *tiers) tiesBadly(d *dice) {
	k := d.anyKnot(r.l)
	k.Hand = r.bad
	r.l, _ = impl.Tied(r.l, k)
}

// Promise 14: who ties does not tie twice in a round, and what it ties sees all it tied before, whatever it learns, keeps and forgets between, and whatever one bad hand ties.
func TestWhoTiesDoesNotTieTwiceInARound(t *testing.T) {
	d := dice(14)
	tied, refused, later, passed, badly := 0, 0, 0, 0, 0
	for n := range int64(50) {
		r := newTiers(n%5 - 1)
		for range 500 {
			who := d.below(4)
			switch d.below(16) {
			case 0:
				r.hands[who] = impl.Keeps(r.l, r.hands[who])
			case 1:
				if d.below(4) == 0 {
					r.hands[who] = impl.Forgets(r.l, r.hands[who])
				}
			case 2, 3, 4:
				if who != r.bad && r.ties(t, who, []string{"", "x", "add a 1"}[d.below(3)]) {
					tied++
				} else {
					refused++
				}
			case 5:
				if r.bad >= 0 && len(r.l) < 50 {
					r.tiesBadly(&d)
				}
			default:
				r.learns(&d, who)
			}
			for _, h := range r.hands {
				if !impl.HandOk(r.l, h) {
					t.Fatalf("%+v is no right hand any more", h)
				}
			}
		}
		if fakes := impl.FalseHands(r.l, wholeOf(r.l)); len(fakes) > 1 || len(fakes) == 1 && fakes[0] != r.bad {
			t.Fatalf("FalseHands is %v, where %d alone is bad", fakes, r.bad)
		} else {
			badly += len(fakes)
		}
		for _, list := range r.tied {
			for i, k := range list {
				if r.l[k].Round > 3 {
					later++
				}
				if i > 0 && r.l[k].Round > r.l[list[i-1]].Round+1 {
					passed++
				}
			}
		}
	}
	if tied < 1000 || refused < 1000 || later < 300 || passed < 20 || badly < 20 {
		t.Fatalf("%d were tied, %d refused, %d in later rounds, %d times a round was passed over, %d times a hand was false: the test says little", tied, refused, later, passed, badly)
	}
}

// NextRound, Draft and Ties are what a plain look at all knots tells.
func TestTiesIsWhatTheWordsSay(t *testing.T) {
	d := dice(1414)
	drafted, refused, more, same := 0, 0, 0, 0
	words := slices.Concat(rightWords, rightWords, wrongWords)
	for n, l := range handLaces() {
		for range 40 {
			h := d.drawnHand(l)
			if d.below(3) == 0 && len(l) > 0 {
				cut := l[:1+d.below(int64(len(l)))]
				h = allOf(cut, h.Who)
			}
			word := words[d.below(int64(len(words)))]
			next := plainNextRound(l, h)
			if got := impl.NextRound(l, h); got != next {
				t.Fatalf("lace %d: NextRound of %+v is %d, not %d", n, h, got, next)
			}
			want, may := plainDraft(l, h, word)
			k, is := impl.Draft(l, h, word)
			if k != want || is != may {
				t.Fatalf("lace %d: Draft of %+v and %q is %+v and %v, not %+v and %v", n, h, word, k, is, want, may)
			}
			wantTied, wantHand, can := plainTies(l, h, word)
			if tied, hand, did := impl.Ties(l, h, word); !slices.Equal(tied, wantTied) || hand != wantHand || did != can {
				t.Fatalf("lace %d: %+v Ties %q: %d knots, %+v and %v, not %+v and %v", n, h, word, len(tied), hand, did, wantHand, can)
			}
			if !is {
				refused++
				continue
			}
			drafted++
			if impl.CanTie(l, k) != (len(l) < 60) {
				t.Fatalf("lace %d: CanTie of the draft %+v is %v, of %d knots", n, k, impl.CanTie(l, k), len(l))
			}
			if impl.AtRound(l, k.From, next-1) != impl.AtRound(l, h.Has, next-1) {
				t.Fatalf("lace %d: the draft %+v does not hang on all of the round just before that %+v has", n, k, h)
			}
			if impl.AtRound(l, h.Has, next) != 0 {
				same++
			}
			if k.From != impl.AtRound(l, k.From, next-1) {
				more++
			}
		}
	}
	if drafted < 800 || refused < 800 || same < 300 || more < 100 {
		t.Fatalf("%d were drafted, %d refused, %d had some of the same round, %d hung on more than the round before: the test says little", drafted, refused, same, more)
	}
}

// What is tied sees all that it has of lesser rounds, and nothing else but itself.
func TestWhatIsTiedSeesAllOfLesserRounds(t *testing.T) {
	d := dice(8)
	seen := 0
	for n, l := range handLaces() {
		for range 10 {
			h := d.drawnHand(l)
			tied, after, is := impl.Ties(l, h, "")
			if !is {
				continue
			}
			seen++
			want := setOf(after.Last)
			for i, k := range l {
				if impl.InSet(h.Has, int64(i)) && k.Round < tied[after.Last].Round {
					want |= 1 << uint(i)
				}
			}
			if got := impl.Below(tied, after.Last); got != want {
				t.Fatalf("lace %d: %+v tied what sees %v, not %v", n, h, impl.Members(got), impl.Members(want))
			}
		}
	}
	if seen < 100 {
		t.Fatalf("%d were tied: the test says little", seen)
	}
}

// What is in the lace, and not with the hand, has no say but for the number and the room.
func TestTiesStaysWhenMoreIsTied(t *testing.T) {
	d := dice(41)
	for n, l := range handLaces() {
		for end := 1 + n%4; end < len(l); end += 4 {
			short := l[:end]
			h := d.drawnHand(short)
			if impl.NextRound(short, h) != impl.NextRound(l, h) {
				t.Fatalf("NextRound of %+v is %d in the first %d knots, %d in %d", h, impl.NextRound(short, h), end, impl.NextRound(l, h), len(l))
			}
			k, is := impl.Draft(short, h, "x")
			if got, may := impl.Draft(l, h, "x"); got != k || may != is {
				t.Fatalf("Draft of %+v is %+v in the first %d knots, %+v in %d", h, k, end, got, len(l))
			}
			// Nor has what it keeps of others a say.
			if kept := impl.Keeps(short, h); impl.NextRound(short, kept) != impl.NextRound(short, h) {
				t.Fatalf("NextRound of %+v is another one when it keeps what it has", h)
			}
		}
	}
}

func TestTiesIsNewMemory(t *testing.T) {
	over := impl.Knot{Hand: 9, Word: "OVER"}
	for _, list := range append(rightLaces(), wrongLaces()["out of order"][0]) {
		for _, h := range []impl.Hand{{}, {Who: 3, Last: -1}, allOf(list, 0), allOf(list, 1)} {
			for _, word := range []string{"", "x", "NO"} {
				l, whole := roomy(list)
				before := slices.Clone(whole)
				first, _, is := impl.Ties(l, h, word)
				second, _, _ := impl.Ties(l, h, word)
				want := slices.Clone(second)
				overwritten(first, over)
				if !slices.Equal(whole, before) || !slices.Equal(second, want) {
					t.Fatalf("what %+v tied (%v) was written into, and changed something else", h, is)
				}
				overwritten(whole, over)
				if !slices.Equal(second, want) {
					t.Fatalf("the list was written into, and changed what %+v had tied", h)
				}
			}
		}
	}
}

func TestTiesLeavesTheListAsItIs(t *testing.T) {
	lists := slices.Concat(rightLaces(), [][]impl.Knot{toldAhead(), wordyLace(), twoForOne()})
	for _, laces := range wrongLaces() {
		lists = append(lists, laces[0])
	}
	for _, list := range lists {
		l, whole := roomy(list)
		before := slices.Clone(whole)
		for _, h := range []impl.Hand{{}, {Who: 3, Last: -1}, {Who: 3, Has: 7, Kept: 3, Last: -1}, {Who: 1, Has: 7, Kept: 7, Last: 1}, allOf(list, 2), {Who: 4, Has: -1}} {
			for _, word := range []string{"", "word", "NO", wrongWords[3]} {
				k, is := impl.Draft(l, h, word)
				again, may := impl.Draft(l, h, word)
				tied, hand, did := impl.Ties(l, h, word)
				other, same, could := impl.Ties(l, h, word)
				if k != again || is != may || !slices.Equal(tied, other) || hand != same || did != could || impl.NextRound(l, h) != impl.NextRound(l, h) {
					t.Fatalf("asked again about %+v and %q, the answer is another one", h, word)
				}
			}
		}
		if !slices.Equal(whole, before) {
			t.Fatalf("%+v was changed into %+v", before, whole)
		}
	}
}
