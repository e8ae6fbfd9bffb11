package tests

import (
	"math"
	"slices"
	"testing"

	"loop.example/g00418/impl"
)

// plainOwn are the numbers of the set whose knots this hand tied.
func plainOwn(l []impl.Knot, who, s int64) []int64 {
	var own []int64
	for i, k := range l {
		if s>>uint(i)&1 == 1 && k.Hand == who {
			own = append(own, int64(i))
		}
	}
	return own
}

// plainLastOwn looks for one that no other one passes.
func plainLastOwn(l []impl.Knot, who, kept int64) int64 {
	own := plainOwn(l, who, kept)
	for _, k := range own {
		passed := slices.ContainsFunc(own, func(x int64) bool {
			return l[x].Round > l[k].Round || l[x].Round == l[k].Round && x < k
		})
		if !passed {
			return k
		}
	}
	return -1
}

// plainHandOk says what the words of chapter 13 say, of a lace.
func plainHandOk(l []impl.Knot, h impl.Hand) bool {
	if h.Who < 0 || h.Who > 3 || !plainClosed(l, h.Has) || !plainClosed(l, h.Kept) {
		return false
	}
	for i, k := range l {
		has, kept := h.Has>>uint(i)&1 == 1, h.Kept>>uint(i)&1 == 1
		if kept && !has || has && !kept && k.Hand == h.Who {
			return false
		}
	}
	return h.Last == plainLastOwn(l, h.Who, h.Kept)
}

// plainLacks are the numbers Below k that it lacks.
func plainLacks(l []impl.Knot, h impl.Hand, k int64) []int64 {
	var lacks []int64
	for x := range plainBelow(l, k) {
		if h.Has>>uint(x)&1 == 0 {
			lacks = append(lacks, x)
		}
	}
	slices.Sort(lacks)
	return lacks
}

func plainLearns(l []impl.Knot, h impl.Hand, k int64) (impl.Hand, bool) {
	if !slices.Equal(plainLacks(l, h, k), []int64{k}) || l[k].Hand == h.Who {
		return h, false
	}
	h.Has += 1 << uint(k)
	return h, true
}

func plainLearnsAll(l []impl.Knot, h impl.Hand, k int64) (impl.Hand, bool) {
	lacks := plainLacks(l, h, k)
	if len(lacks) == 0 || len(plainOwn(l, h.Who, setOf(lacks...))) > 0 {
		return h, false
	}
	h.Has += setOf(lacks...)
	return h, true
}

// drawnHand is a right hand: it keeps some closed set, and has more of others.
func (d *dice) drawnHand(l []impl.Knot) impl.Hand {
	h := impl.Hand{Who: d.below(4)}
	if d.below(3) > 0 {
		h.Kept = d.closedSet(l)
	}
	h.Has, h.Last = h.Kept, plainLastOwn(l, h.Who, h.Kept)
	for range d.below(8) {
		if len(l) > 0 {
			h, _ = plainLearnsAll(l, h, d.below(int64(len(l))))
		}
	}
	return h
}

// allOf is the hand that has and keeps all of the lace.
func allOf(l []impl.Knot, who int64) impl.Hand {
	return impl.Hand{Who: who, Has: wholeOf(l), Kept: wholeOf(l), Last: plainLastOwn(l, who, wholeOf(l))}
}

func handLaces() [][]impl.Knot { return append(taleLaces(), twoForOne(), oneToEach()) }

func TestNewHand(t *testing.T) {
	for who := range int64(4) {
		h, is := impl.NewHand(who)
		if h != (impl.Hand{Who: who, Last: -1}) || !is {
			t.Errorf("NewHand %d is %+v and %v", who, h, is)
		}
		for _, l := range rightLaces() {
			if !impl.HandOk(l, h) {
				t.Errorf("HandOk is false of a new hand %d, of %d knots", who, len(l))
			}
		}
	}
	for _, who := range notHands {
		if h, is := impl.NewHand(who); h != (impl.Hand{}) || is {
			t.Errorf("NewHand %d, which is none, is %+v and %v", who, h, is)
		}
	}
}

func TestHandOk(t *testing.T) {
	mixed, three := mixedLace(), fullRounds(3, 20)
	cases := []struct {
		why string
		l   []impl.Knot
		h   impl.Hand
	}{
		{"it has nothing", mixed, impl.Hand{Who: 2, Last: -1}},
		{"it has nothing, of the empty lace", nil, impl.Hand{Who: 2, Last: -1}},
		{"it has all of a lace", mixed, impl.Hand{Who: 3, Has: allMixed, Kept: allMixed, Last: 9}},
		{"it has all of a full lace", three, impl.Hand{Who: 2, Has: fullSet, Kept: fullSet, Last: 59}},
		{"it has all of a full lace, and none of its own", three, impl.Hand{Who: 3, Has: fullSet, Kept: fullSet, Last: -1}},
		{"it has all of a full lace, and keeps nothing", three, impl.Hand{Who: 3, Has: fullSet, Last: -1}},
		{"it has a knot of another hand, and keeps it", mixed, impl.Hand{Who: 3, Has: 1, Kept: 1, Last: -1}},
		{"it has a knot of another hand, and does not keep it", mixed, impl.Hand{Who: 3, Has: 1, Last: -1}},
		{"it has one of its own: the first of all", mixed, impl.Hand{Who: 0, Has: 1, Kept: 1, Last: 0}},
		{"it has one of its own, and more that it does not keep", mixed, impl.Hand{Who: 3, Has: setOf(0, 1, 3, 4, 5), Kept: setOf(5), Last: 5}},
		{"it has one of its own, and keeps some of the others", mixed, impl.Hand{Who: 3, Has: setOf(0, 1, 3, 4, 5), Kept: setOf(1, 3, 5), Last: 5}},
		{"it has more than one of its own, each of another round", mixed, impl.Hand{Who: 3, Has: setOf(2, 3, 5, 7), Kept: setOf(2, 3, 5, 7), Last: 7}},
		{"the greatest round has the lesser number", mixed, impl.Hand{Who: 0, Has: setOf(0, 1, 3, 4, 10), Kept: setOf(0, 1, 3, 4, 10), Last: 4}},
		{"the greatest round stands between two others", mixed, impl.Hand{Who: 2, Has: allMixed, Kept: allMixed, Last: 8}},
		{"two of its own of one round", mixed, impl.Hand{Who: 1, Has: setOf(1, 2), Kept: setOf(1, 2), Last: 1}},
		{"two of its own of one round, of which it has the greater number alone", mixed, impl.Hand{Who: 1, Has: setOf(2), Kept: setOf(2), Last: 2}},
		{"two of its own of one round, with others between", mixed, impl.Hand{Who: 0, Has: setOf(0, 3, 10), Kept: setOf(0, 10), Last: 0}},
		{"two of its own of the greatest round, one of a lesser one ahead", oneHandTwice(), impl.Hand{Who: 1, Has: 511, Kept: 511, Last: 7}},
		{"fifteen of its own of one round", sixtyAtOnce(), impl.Hand{Who: 3, Has: fullSet, Kept: fullSet, Last: 3}},
		{"fifteen of its own of one round, of which it has one", sixtyAtOnce(), impl.Hand{Who: 3, Has: 1<<59 | 7, Kept: 1 << 59, Last: 59}},
	}
	for _, c := range cases {
		if !impl.LaceOk(c.l) {
			t.Fatalf("%s: it is no lace", c.why)
		}
		if !impl.HandOk(c.l, c.h) {
			t.Errorf("%s: HandOk is false of %+v", c.why, c.h)
		}
		// Each other Last is wrong.
		for last := int64(-3); last < 64; last++ {
			other := c.h
			other.Last = last
			if impl.HandOk(c.l, other) != (last == c.h.Last) {
				t.Errorf("%s: HandOk is %v of %+v", c.why, last != c.h.Last, other)
			}
		}
	}
}

// wrongHands are hands that are none of mixedLace, with the reason; but for it, each would be one.
func wrongHands() map[string][]impl.Hand {
	wrong := map[string][]impl.Hand{
		"Has is not closed": {
			{Who: 3, Has: setOf(4), Last: -1}, {Who: 3, Has: setOf(0, 1, 4), Last: -1}, {Who: 3, Has: setOf(0, 3, 4), Kept: setOf(0), Last: -1},
			{Who: 1, Has: setOf(8), Last: -1}, {Who: 0, Has: allMixed - 4, Kept: setOf(0, 1, 3, 4, 10), Last: 4}, {Who: 2, Has: setOf(4, 6, 7), Last: -1},
		},
		"Kept is not closed": {
			{Who: 3, Has: setOf(0, 1, 3, 4), Kept: setOf(4), Last: -1}, {Who: 3, Has: setOf(0, 1, 3, 4), Kept: setOf(0, 3, 4), Last: -1},
			{Who: 0, Has: allMixed, Kept: setOf(0, 4, 10), Last: 4}, {Who: 3, Has: allMixed, Kept: allMixed - 4, Last: 9}, {Who: 2, Has: allMixed, Kept: setOf(3, 8, 11), Last: 8},
		},
		"neither is closed": {
			{Who: 0, Has: setOf(4), Kept: setOf(4), Last: 4}, {Who: 3, Has: allMixed - 1, Kept: allMixed - 1, Last: 9}, {Who: 1, Has: setOf(11), Kept: setOf(11), Last: -1},
		},
		"Kept is not within Has": {
			{Who: 3, Kept: setOf(0), Last: -1}, {Who: 0, Kept: setOf(0), Last: 0}, {Who: 3, Has: setOf(0), Kept: setOf(3), Last: -1},
			{Who: 3, Has: setOf(0), Kept: setOf(0, 3), Last: -1}, {Who: 3, Has: setOf(0, 1, 3), Kept: setOf(0, 1, 3, 4), Last: -1}, {Who: 3, Kept: allMixed, Last: 9},
			{Who: 0, Has: allMixed - setOf(8), Kept: allMixed - setOf(9), Last: 4},
		},
		"one of its own is not kept": {
			{Who: 0, Has: setOf(0), Last: -1}, {Who: 0, Has: setOf(0, 10), Kept: setOf(0), Last: 0}, {Who: 0, Has: setOf(0, 10), Kept: setOf(10), Last: 10},
			{Who: 1, Has: setOf(0, 1, 2, 3, 6), Kept: setOf(0, 1, 2, 3), Last: 1}, {Who: 1, Has: setOf(1, 2), Kept: setOf(1), Last: 1},
			{Who: 2, Has: allMixed, Kept: setOf(0, 1, 2, 3, 4, 5, 6, 7, 8), Last: 8}, {Who: 3, Has: allMixed, Last: -1},
		},
		"Last is another one": {
			{}, {Who: 1}, {Who: 2}, {Who: 3}, {Who: 0, Has: allMixed, Kept: allMixed, Last: 0}, {Who: 0, Has: allMixed, Kept: allMixed, Last: 10},
			{Who: 1, Has: setOf(1, 2), Kept: setOf(1, 2), Last: 2}, {Who: 3, Has: allMixed, Kept: allMixed, Last: 8}, {Who: 3, Has: allMixed, Kept: allMixed, Last: 7},
			{Who: 3, Has: setOf(2, 3), Kept: setOf(2, 3), Last: 3}, {Who: 3, Has: setOf(2, 3), Last: 9}, {Who: 0, Has: setOf(0), Kept: setOf(0), Last: 4},
		},
		"Last is -1 where there is one": {
			{Who: 0, Has: setOf(0), Kept: setOf(0), Last: -1}, {Who: 3, Has: allMixed, Kept: allMixed, Last: -1}, {Who: 1, Has: setOf(2), Kept: setOf(2), Last: -1},
		},
	}
	for _, who := range notHands {
		wrong["Who is no hand"] = append(wrong["Who is no hand"], impl.Hand{Who: who, Last: -1}, impl.Hand{Who: who, Has: 11, Kept: 1, Last: -1}, impl.Hand{Who: who, Has: allMixed, Kept: allMixed, Last: -1})
	}
	for _, last := range []int64{-2, 12, 13, 59, 60, 64, 1 << 32, math.MinInt64, math.MaxInt64} {
		wrong["Last is no knot"] = append(wrong["Last is no knot"], impl.Hand{Who: 3, Last: last}, impl.Hand{Who: 0, Has: 1, Kept: 1, Last: last}, impl.Hand{Who: 3, Has: allMixed, Kept: allMixed, Last: last})
	}
	for _, s := range wrongSets {
		wrong["it is no set"] = append(wrong["it is no set"], impl.Hand{Has: s, Last: -1}, impl.Hand{Has: s, Kept: s, Last: -1}, impl.Hand{Kept: s, Last: -1}, impl.Hand{Who: 3, Has: allMixed, Kept: s, Last: 9}, impl.Hand{Who: 3, Has: s | allMixed, Kept: allMixed, Last: 9}, impl.Hand{Who: 3, Has: s | allMixed, Kept: s | allMixed, Last: 9})
	}
	for _, i := range []int64{12, 13, 31, 32, 58, 59} {
		more := setOf(i)
		wrong["there is no such knot"] = append(wrong["there is no such knot"], impl.Hand{Has: more, Last: -1}, impl.Hand{Has: more, Kept: more, Last: -1}, impl.Hand{Who: 3, Has: more | 1, Kept: 1, Last: -1}, impl.Hand{Who: 3, Has: more | allMixed, Kept: allMixed, Last: 9}, impl.Hand{Who: 3, Has: more | allMixed, Kept: more | allMixed, Last: 9}, impl.Hand{Who: 3, Has: allMixed, Kept: more | allMixed, Last: 9})
	}
	return wrong
}

// noAnswer tells where one of the functions does not answer a hand that is none as it should.
func noAnswer(t *testing.T, why string, l []impl.Knot, h impl.Hand) {
	t.Helper()
	if impl.HandOk(l, h) {
		t.Errorf("%s: HandOk is true of %+v", why, h)
	}
	for _, k := range []int64{-1, 0, 1, 3, 5, 10, 11, 12, 59, 60, math.MinInt64, math.MaxInt64} {
		if got, is := impl.Learns(l, h, k); got != (impl.Hand{}) || is {
			t.Errorf("%s: %+v Learns %d: %+v and %v", why, h, k, got, is)
		}
		if got, is := impl.LearnsAll(l, h, k); got != (impl.Hand{}) || is {
			t.Errorf("%s: %+v LearnsAll %d: %+v and %v", why, h, k, got, is)
		}
	}
	if got := impl.Keeps(l, h); got != (impl.Hand{}) {
		t.Errorf("%s: %+v Keeps: %+v", why, h, got)
	}
	if got := impl.Forgets(l, h); got != (impl.Hand{}) {
		t.Errorf("%s: %+v Forgets: %+v", why, h, got)
	}
}

func TestHandsThatAreNone(t *testing.T) {
	for why, hands := range wrongHands() {
		for _, h := range hands {
			noAnswer(t, why, mixedLace(), h)
		}
	}
}

func TestHandsOfWhatIsNoLace(t *testing.T) {
	for reason, laces := range wrongLaces() {
		for _, l := range laces {
			for _, h := range []impl.Hand{{}, {Who: 3, Last: -1}, {Who: 3, Has: 1, Last: -1}, {Who: 0, Has: 1, Kept: 1}, {Who: 3, Has: allMixed, Kept: allMixed, Last: 9}} {
				noAnswer(t, reason, l, h)
			}
		}
	}
}

func TestHandsOfNoKnots(t *testing.T) {
	for _, l := range [][]impl.Knot{nil, {}, mixedLace()[:0]} {
		for who := range int64(4) {
			h := impl.Hand{Who: who, Last: -1}
			if !impl.HandOk(l, h) || impl.Keeps(l, h) != h || impl.Forgets(l, h) != h {
				t.Errorf("of no knots HandOk is %v of %+v, Keeps is %+v, Forgets %+v", impl.HandOk(l, h), h, impl.Keeps(l, h), impl.Forgets(l, h))
			}
			for _, k := range []int64{-1, 0, 1, 59, 60} {
				if got, is := impl.Learns(l, h, k); got != h || is {
					t.Errorf("of no knots %+v Learns %d: %+v and %v", h, k, got, is)
				}
				if got, is := impl.LearnsAll(l, h, k); got != h || is {
					t.Errorf("of no knots %+v LearnsAll %d: %+v and %v", h, k, got, is)
				}
			}
			for _, other := range []impl.Hand{{Who: who}, {Who: who, Has: 1, Last: -1}, {Who: who, Has: 1, Kept: 1}, {Who: who, Kept: 1, Last: -1}, {Who: who, Has: -1, Kept: -1, Last: -1}, {Who: who - 4, Last: -1}} {
				noAnswer(t, "no knots", l, other)
			}
		}
	}
}

// What is taken changes Has alone.
func TestLearns(t *testing.T) {
	mixed, three := mixedLace(), fullRounds(3, 20)
	cases := []struct {
		why  string
		l    []impl.Knot
		h    impl.Hand
		k    int64
		one  int64
		many int64
	}{
		{"it hangs on nothing", mixed, impl.Hand{Who: 3, Last: -1}, 0, setOf(0), setOf(0)},
		{"it hangs on nothing, and others are there", mixed, impl.Hand{Who: 3, Has: setOf(0, 1, 3, 4, 5), Kept: setOf(5), Last: 5}, 10, setOf(0, 1, 3, 4, 5, 10), setOf(0, 1, 3, 4, 5, 10)},
		{"it hangs on nothing, of a hand that has another one there", mixed, impl.Hand{Who: 0, Has: setOf(1), Last: -1}, 2, setOf(1, 2), setOf(1, 2)},
		{"it hangs on nothing, and is the last one of a full lace", sixtyAtOnce(), impl.Hand{Who: 0, Has: fullSet - 1<<59, Kept: fullSet - 1<<59}, 59, fullSet, fullSet},
		{"all else below it is there, and no more", mixed, impl.Hand{Who: 3, Has: setOf(0, 1, 3), Last: -1}, 4, setOf(0, 1, 3, 4), setOf(0, 1, 3, 4)},
		{"all else below it is there, and more", mixed, impl.Hand{Who: 3, Has: setOf(0, 1, 2, 3), Kept: setOf(1, 2), Last: -1}, 4, setOf(0, 1, 2, 3, 4), setOf(0, 1, 2, 3, 4)},
		{"all else below it is there, some of it is its own", mixed, impl.Hand{Who: 1, Has: setOf(0, 1, 3), Kept: setOf(1), Last: 1}, 4, setOf(0, 1, 3, 4), setOf(0, 1, 3, 4)},
		{"all else below it is there, two rounds deep", mixed, impl.Hand{Who: 3, Has: 255, Kept: 255, Last: 7}, 8, 511, 511},
		{"all else of a full lace is there", three, impl.Hand{Who: 3, Has: fullSet - 1<<59, Last: -1}, 59, fullSet, fullSet},
		{"one that it hangs on lacks", mixed, impl.Hand{Who: 3, Has: setOf(0, 1), Last: -1}, 4, -1, setOf(0, 1, 3, 4)},
		{"one that it hangs on lacks, kept is less", mixed, impl.Hand{Who: 3, Has: setOf(0, 3), Kept: setOf(3), Last: -1}, 4, -1, setOf(0, 1, 3, 4)},
		{"one that it hangs on lacks, of the same hand", mixed, impl.Hand{Who: 3, Has: setOf(1, 3), Last: -1}, 4, -1, setOf(0, 1, 3, 4)},
		{"one that it hangs on lacks, with one below that", mixed, impl.Hand{Who: 0, Has: setOf(0, 1, 3, 4, 2, 5, 7), Kept: setOf(0, 1, 3, 4), Last: 4}, 8, -1, 511},
		{"one of the rounds before the last one lacks, with what hangs on it", three, impl.Hand{Who: 3, Has: setOf(0, 1), Last: -1}, 6, -1, setOf(0, 1, 2, 3, 4, 5, 6)},
		{"all below it lacks at once", mixed, impl.Hand{Who: 1, Last: -1}, 3, setOf(3), setOf(3)},
		{"all below it lacks at once, thread by thread", fullRounds(3, 4), impl.Hand{Who: 3, Last: -1}, 10, -1, setOf(0, 1, 2, 3, 4, 5, 6, 7, 8, 10)},
		{"all below it lacks at once, and others are there", mixed, impl.Hand{Who: 1, Has: setOf(0), Last: -1}, 5, setOf(0, 5), setOf(0, 5)},
		{"all but one of a full lace lacks at once", three, impl.Hand{Who: 3, Has: 1, Kept: 1, Last: -1}, 58, -1, 1<<57 - 1 | 1<<58},
		{"it is there already", mixed, impl.Hand{Who: 3, Has: setOf(0, 1, 3, 4), Last: -1}, 4, -1, -1},
		{"it is there already, and hangs on nothing", mixed, impl.Hand{Who: 3, Has: 1, Last: -1}, 0, -1, -1},
		{"it is kept already", mixed, impl.Hand{Who: 3, Has: 1, Kept: 1, Last: -1}, 0, -1, -1},
		{"it is there already, with all others", mixed, allOf(mixed, 2), 9, -1, -1},
		{"it is its own, and there already", mixed, impl.Hand{Who: 0, Has: 1, Kept: 1}, 0, -1, -1},
		{"it is its own, there already, and Last", mixed, allOf(mixed, 3), 9, -1, -1},
		{"it is its own, which hangs on nothing", mixed, impl.Hand{Who: 0, Last: -1}, 0, -1, -1},
		{"it is its own, of the round of another one of its own", mixed, impl.Hand{Who: 1, Has: setOf(1), Kept: setOf(1), Last: 1}, 2, -1, -1},
		{"it is its own, and all else below it is there", mixed, impl.Hand{Who: 0, Has: setOf(0, 1, 3), Kept: setOf(0), Last: 0}, 4, -1, -1},
		{"it is its own, and something else below it lacks", mixed, impl.Hand{Who: 0, Has: setOf(0, 1), Kept: setOf(0), Last: 0}, 4, -1, -1},
		{"it is its own, and its own is below it", mixed, impl.Hand{Who: 0, Last: -1}, 4, -1, -1},
		{"it is its own, and all else below it lacks, which is of others", mixed, impl.Hand{Who: 3, Has: setOf(5), Kept: setOf(5), Last: 5}, 7, -1, -1},
		{"one of its own below it lacks, alone", mixed, impl.Hand{Who: 0, Has: setOf(1, 3), Last: -1}, 6, -1, -1},
		{"one of its own below it lacks, directly", mixed, impl.Hand{Who: 1, Last: -1}, 4, -1, -1},
		{"one of its own below it lacks, thread by thread", three, impl.Hand{Who: 1, Last: -1}, 6, -1, -1},
		{"one of its own below it lacks, another one is there", mixed, impl.Hand{Who: 1, Has: setOf(1), Kept: setOf(1), Last: 1}, 7, -1, -1},
		{"one of its own below it lacks, its Last is there", mixed, impl.Hand{Who: 0, Has: setOf(0, 1, 3, 4, 5), Kept: setOf(0, 1, 3, 4), Last: 4}, 11, -1, -1},
		{"its own below it is there, one of others lacks", mixed, impl.Hand{Who: 1, Has: setOf(1, 3), Kept: setOf(1), Last: 1}, 4, -1, setOf(0, 1, 3, 4)},
		{"its own below it is there, those of others lack thread by thread", three, impl.Hand{Who: 0, Has: setOf(0), Kept: setOf(0), Last: 0}, 4, -1, setOf(0, 1, 2, 4)},
		{"one of its own lacks, which is not below it", mixed, impl.Hand{Who: 3, Has: setOf(0, 1), Last: -1}, 6, -1, setOf(0, 1, 2, 3, 6)},
		{"a number below 0", mixed, allOf(mixed, 0), -1, -1, -1},
		{"a number below 0, of a hand that has nothing", mixed, impl.Hand{Who: 3, Last: -1}, -1, -1, -1},
		{"a number as great as the list is long", mixed, impl.Hand{Who: 3, Last: -1}, 12, -1, -1},
		{"a number as great as a full list is long", three, impl.Hand{Who: 3, Last: -1}, 60, -1, -1},
	}
	for _, c := range cases {
		if !impl.LaceOk(c.l) || !impl.HandOk(c.l, c.h) || !plainHandOk(c.l, c.h) {
			t.Fatalf("%s: the lace or the hand %+v is not what the test is about", c.why, c.h)
		}
		for _, ask := range []struct {
			name string
			call func([]impl.Knot, impl.Hand, int64) (impl.Hand, bool)
			has  int64
		}{{"Learns", impl.Learns, c.one}, {"LearnsAll", impl.LearnsAll, c.many}} {
			want := c.h
			if ask.has != -1 {
				want.Has = ask.has
			}
			if got, is := ask.call(c.l, c.h, c.k); got != want || is != (ask.has != -1) {
				t.Errorf("%s: %+v %s %d: %+v and %v, not %+v and %v", c.why, c.h, ask.name, c.k, got, is, want, !is)
			}
		}
	}
}

func TestLearnsNumbersThatAreNoKnot(t *testing.T) {
	d := dice(131)
	for _, l := range handLaces() {
		wrong := slices.Concat(wrongMembers, []int64{int64(len(l)), int64(len(l)) + 1, math.MinInt64 + 1, -1 << 32, 1<<32 + 1})
		for i := int64(len(l)); i < 60; i += 7 {
			wrong = append(wrong, i, 59)
		}
		for _, h := range []impl.Hand{{Who: 1, Last: -1}, allOf(l, 0), d.drawnHand(l), d.drawnHand(l)} {
			for _, k := range wrong {
				if got, is := impl.Learns(l, h, k); got != h || is {
					t.Errorf("of %d knots %+v Learns %d, which is none: %+v and %v", len(l), h, k, got, is)
				}
				if got, is := impl.LearnsAll(l, h, k); got != h || is {
					t.Errorf("of %d knots %+v LearnsAll %d, which is none: %+v and %v", len(l), h, k, got, is)
				}
			}
		}
	}
}

func TestKeepsAndForgets(t *testing.T) {
	mixed, three := mixedLace(), fullRounds(3, 20)
	cases := []struct {
		why       string
		l         []impl.Knot
		who       int64
		has, kept int64
		last      int64
	}{
		{"it has nothing", mixed, 0, 0, 0, -1},
		{"it has all, and keeps it", mixed, 3, allMixed, allMixed, 9},
		{"it has all of a full lace, and keeps it", three, 1, fullSet, fullSet, 58},
		{"it has all of a full lace, and keeps nothing", three, 3, fullSet, 0, -1},
		{"it has all of a full lace, and keeps all but one", three, 1, fullSet, fullSet - 1<<59, 58},
		{"it keeps nothing", mixed, 3, setOf(0, 1, 3, 4), 0, -1},
		{"it keeps some, none of its own", mixed, 3, setOf(0, 1, 3, 4), setOf(0, 1), -1},
		{"it keeps its own alone", mixed, 1, setOf(0, 1, 2, 3), setOf(1, 2), 1},
		{"it keeps its own and what is below it", mixed, 0, setOf(0, 1, 2, 3, 4, 5, 7, 10), setOf(0, 1, 3, 4, 10), 4},
		{"it keeps all that it has", mixed, 0, setOf(0, 1, 3, 4), setOf(0, 1, 3, 4), 4},
	}
	for _, c := range cases {
		h := impl.Hand{Who: c.who, Has: c.has, Kept: c.kept, Last: c.last}
		if !impl.LaceOk(c.l) || !impl.HandOk(c.l, h) {
			t.Fatalf("%s: the lace or the hand %+v is not what the test is about", c.why, h)
		}
		kept, forgot := impl.Keeps(c.l, h), impl.Forgets(c.l, h)
		if want := (impl.Hand{Who: c.who, Has: c.has, Kept: c.has, Last: c.last}); kept != want {
			t.Errorf("%s: %+v Keeps: %+v, not %+v", c.why, h, kept, want)
		}
		if want := (impl.Hand{Who: c.who, Has: c.kept, Kept: c.kept, Last: c.last}); forgot != want {
			t.Errorf("%s: %+v Forgets: %+v, not %+v", c.why, h, forgot, want)
		}
		if impl.Forgets(c.l, kept) != kept || impl.Keeps(c.l, forgot) != forgot || impl.Keeps(c.l, kept) != kept || impl.Forgets(c.l, forgot) != forgot {
			t.Errorf("%s: what is kept does not stay, or what is forgotten comes again", c.why)
		}
	}
}

// What is forgotten is learned again as it was at first; what is kept stays.
func TestLearnedForgottenAndLearnedAgain(t *testing.T) {
	l := mixedLace()
	h, _ := impl.NewHand(3)
	for _, k := range []int64{0, 1, 3, 4} {
		h, _ = impl.Learns(l, h, k)
	}
	if want := (impl.Hand{Who: 3, Has: setOf(0, 1, 3, 4), Last: -1}); h != want {
		t.Fatalf("it learned, and is %+v", h)
	}
	none := impl.Forgets(l, h)
	if want := (impl.Hand{Who: 3, Last: -1}); none != want {
		t.Fatalf("it forgot, and is %+v", none)
	}
	if got, is := impl.Learns(l, none, 4); got != none || is {
		t.Fatalf("it forgot what 4 hangs on, and learned it: %+v", got)
	}
	if again, is := impl.LearnsAll(l, none, 4); again != h || !is {
		t.Fatalf("it learned again, and is %+v", again)
	}
	kept := impl.Keeps(l, h)
	more, is := impl.LearnsAll(l, kept, 6)
	if want := (impl.Hand{Who: 3, Has: setOf(0, 1, 2, 3, 4, 6), Kept: setOf(0, 1, 3, 4), Last: -1}); more != want || !is {
		t.Fatalf("it learned more, and is %+v", more)
	}
	if got := impl.Forgets(l, more); got != kept {
		t.Fatalf("it forgot what it had not kept, and is %+v", got)
	}
	if got, is := impl.Learns(l, kept, 4); got != kept || is {
		t.Fatalf("it has 4, and learned it: %+v", got)
	}
}

// A hand that ties nothing learns a full lace in order, and backward as far as something hangs on nothing.
func TestLearnsAFullLace(t *testing.T) {
	l := fullRounds(3, 20)
	h, _ := impl.NewHand(3)
	for k := range int64(60) {
		for later := k + 3 - k%3; later < 60; later++ {
			if got, is := impl.Learns(l, h, later); got != h || is {
				t.Fatalf("it has what is ahead of %d, and learned %d: %+v", k, later, got)
			}
		}
		next, is := impl.Learns(l, h, k)
		if !is || next.Has != h.Has+setOf(k) || next.Kept != 0 || next.Last != -1 {
			t.Fatalf("%+v Learns %d: %+v and %v", h, k, next, is)
		}
		h = next
	}
	learned := 0
	back, _ := impl.NewHand(3)
	for k := int64(59); k >= 0; k-- {
		next, is := impl.Learns(l, back, k)
		if is {
			learned++
		}
		back = next
	}
	if learned != 3 || back.Has != 7 {
		t.Errorf("backward it learned %d, and is %+v", learned, back)
	}
	at := impl.Hand{Who: 3, Last: -1}
	for _, k := range []int64{57, 58, 59} {
		at, _ = impl.LearnsAll(l, at, k)
	}
	if at != h {
		t.Errorf("of the last round it learned all at once, and is %+v", at)
	}
}

// Promise 13: a hand's own lace stays Closed, and it stays a right hand, whatever it learns, keeps and forgets.
func TestAHandsOwnLaceStaysClosed(t *testing.T) {
	d := dice(13)
	learned, all, refused, kept, forgot, ties := 0, 0, 0, 0, 0, 0
	for n, l := range handLaces() {
		if len(l) == 0 {
			continue
		}
		h, _ := impl.NewHand(int64(n) % 4)
		if n%3 == 0 {
			h = d.drawnHand(l)
		}
		for range 250 {
			before, is := h, true
			k := d.below(int64(len(l))+2) - 1
			for d.below(6) > 0 && impl.InSet(h.Has, k) {
				k++
			}
			switch d.below(14) {
			case 0:
				h = impl.Keeps(l, h)
				kept++
			case 1:
				h = impl.Forgets(l, h)
				forgot++
			case 2:
				if h, is = impl.LearnsAll(l, h, k); is {
					all++
				}
			case 3:
				// A hand that ties anew has a knot of its own, as chapter 14 has it; here one of the lace is taken for it.
				if k >= 0 && k < int64(len(l)) && l[k].Hand == h.Who {
					h.Has |= impl.Below(l, k)
					h.Kept, h.Last = h.Has, plainLastOwn(l, h.Who, h.Has)
					ties++
				}
			default:
				if h, is = impl.Learns(l, h, k); is {
					learned++
				}
			}
			if !impl.Closed(l, h.Has) || !impl.Closed(l, h.Kept) || !plainClosed(l, h.Has) || !plainClosed(l, h.Kept) {
				t.Fatalf("lace %d: %+v came to be %+v, which is not closed", n, before, h)
			}
			if !impl.HandOk(l, h) || !plainHandOk(l, h) {
				t.Fatalf("lace %d: %+v came to be %+v, which is no right hand", n, before, h)
			}
			if !is {
				refused++
			}
			if !is && h != before {
				t.Fatalf("lace %d: %+v was refused, and came to be %+v", n, before, h)
			}
		}
	}
	if learned < 500 || all < 100 || refused < 1000 || kept < 300 || forgot < 300 || ties < 50 {
		t.Fatalf("%d were learned, %d times all below one, %d refused, %d kept, %d forgot, %d tied: the test says little", learned, all, refused, kept, forgot, ties)
	}
}

// HandOk, Learns and LearnsAll are what a plain look at all knots tells.
func TestHandIsWhatTheWordsSay(t *testing.T) {
	d := dice(77)
	one, many, neither, own := 0, 0, 0, 0
	for n, l := range handLaces() {
		for range 8 {
			h := d.drawnHand(l)
			if !plainHandOk(l, h) || !impl.HandOk(l, h) {
				t.Fatalf("lace %d: HandOk is %v of %+v", n, impl.HandOk(l, h), h)
			}
			for k := range int64(len(l)) {
				learned, is := impl.Learns(l, h, k)
				if want, may := plainLearns(l, h, k); learned != want || is != may {
					t.Fatalf("lace %d: %+v Learns %d: %+v and %v, not %+v and %v", n, h, k, learned, is, want, may)
				}
				all, are := impl.LearnsAll(l, h, k)
				if want, may := plainLearnsAll(l, h, k); all != want || are != may {
					t.Fatalf("lace %d: %+v LearnsAll %d: %+v and %v, not %+v and %v", n, h, k, all, are, want, may)
				}
				if is && (learned != all || !are) {
					t.Fatalf("lace %d: %+v Learns %d, and LearnsAll is another one: %+v, %+v", n, h, k, learned, all)
				}
				switch {
				case is:
					one++
				case are:
					many++
				case !impl.InSet(h.Has, k) && l[k].Hand != h.Who:
					own++
				default:
					neither++
				}
			}
			if got, want := impl.Keeps(l, h), (impl.Hand{Who: h.Who, Has: h.Has, Kept: h.Has, Last: h.Last}); got != want {
				t.Fatalf("lace %d: %+v Keeps: %+v", n, h, got)
			}
			if got, want := impl.Forgets(l, h), (impl.Hand{Who: h.Who, Has: h.Kept, Kept: h.Kept, Last: h.Last}); got != want {
				t.Fatalf("lace %d: %+v Forgets: %+v", n, h, got)
			}
		}
	}
	if one < 1000 || many < 200 || neither < 1000 || own < 500 {
		t.Fatalf("%d were learned, %d with all below, %d refused for its own below, %d for others: the test says little", one, many, own, neither)
	}
}

// One bit, or one number, that is another one makes most right hands none.
func TestHandOkIsWhatTheWordsSay(t *testing.T) {
	d := dice(5)
	right, wrong := 0, 0
	for n, l := range handLaces() {
		for range 120 {
			h := d.drawnHand(l)
			bit := int64(1) << uint(d.below(int64(len(l))+1))
			switch d.below(7) {
			case 0:
				h.Has ^= bit
			case 1:
				h.Kept ^= bit
			case 2:
				h.Has, h.Kept = h.Has^bit, h.Kept^bit
			case 3:
				h.Has, h.Kept = h.Has|bit, h.Kept|bit
				h.Last = plainLastOwn(l, h.Who, h.Kept)
			case 4:
				h.Last = d.below(int64(len(l))+2) - 1
			case 5:
				h.Who = d.below(4)
			case 6:
				h.Kept = d.closedSet(l)
				h.Last = plainLastOwn(l, h.Who, h.Kept)
			}
			want := plainHandOk(l, h)
			if got := impl.HandOk(l, h); got != want {
				t.Fatalf("lace %d: HandOk is %v of %+v", n, got, h)
			}
			if !want {
				wrong++
				if got, is := impl.LearnsAll(l, h, d.below(60)); got != (impl.Hand{}) || is || impl.Keeps(l, h) != got || impl.Forgets(l, h) != got {
					t.Fatalf("lace %d: %+v is no right hand, and is answered", n, h)
				}
				continue
			}
			right++
		}
	}
	if right < 1000 || wrong < 3000 {
		t.Fatalf("%d were right, %d wrong: the test says little", right, wrong)
	}
}

// To learn all below a knot is to learn one by one, in order, what lacks of it.
func TestLearnsAllIsOneByOne(t *testing.T) {
	d := dice(21)
	taken, stopped := 0, 0
	for n, l := range handLaces() {
		if len(l) == 0 {
			continue
		}
		for range 12 {
			h, k := d.drawnHand(l), d.below(int64(len(l)))
			step, ok := h, !impl.InSet(h.Has, k)
			for _, x := range plainLacks(l, h, k) {
				if step, ok = impl.Learns(l, step, x); !ok {
					stopped++
					break
				}
			}
			if !ok {
				step = h
			} else {
				taken++
			}
			if got, is := impl.LearnsAll(l, h, k); got != step || is != ok {
				t.Fatalf("lace %d: %+v LearnsAll %d: %+v and %v, one by one %+v and %v", n, h, k, got, is, step, ok)
			}
		}
	}
	if taken < 100 || stopped < 100 {
		t.Fatalf("%d were taken, %d were stopped: the test says little", taken, stopped)
	}
}

// What is tied later has no say about a hand that does not have it.
func TestAHandStaysWhenMoreIsTied(t *testing.T) {
	d := dice(99)
	for n, l := range handLaces() {
		for end := 1 + n%5; end < len(l); end += 5 {
			short := l[:end]
			h := d.drawnHand(short)
			if !impl.HandOk(short, h) || !impl.HandOk(l, h) {
				t.Fatalf("HandOk is %v of %+v in the first %d knots, %v in %d", impl.HandOk(short, h), h, end, impl.HandOk(l, h), len(l))
			}
			k := d.below(int64(end))
			one, is := impl.Learns(short, h, k)
			if got, may := impl.Learns(l, h, k); got != one || may != is {
				t.Fatalf("%+v Learns %d: %+v in the first %d knots, %+v in %d", h, k, one, end, got, len(l))
			}
			all, are := impl.LearnsAll(short, h, k)
			if got, may := impl.LearnsAll(l, h, k); got != all || may != are {
				t.Fatalf("%+v LearnsAll %d: %+v in the first %d knots, %+v in %d", h, k, all, end, got, len(l))
			}
			if impl.Keeps(short, h) != impl.Keeps(l, h) || impl.Forgets(short, h) != impl.Forgets(l, h) {
				t.Fatalf("%+v keeps or forgets another way in the first %d knots than in %d", h, end, len(l))
			}
		}
	}
}

func TestHandsLeaveListsAsTheyAre(t *testing.T) {
	lists := slices.Concat(rightLaces(), [][]impl.Knot{toldAhead(), wordyLace(), twoForOne()})
	for _, laces := range wrongLaces() {
		lists = append(lists, laces[0])
	}
	for _, list := range lists {
		l, whole := roomy(list)
		before := slices.Clone(whole)
		for _, h := range []impl.Hand{{}, {Who: 3, Last: -1}, {Who: 3, Has: 7, Kept: 3, Last: -1}, {Who: 1, Has: 7, Kept: 7, Last: 1}, {Who: 4, Has: -1}} {
			for _, k := range []int64{-1, 0, 3, int64(len(l)) - 1, int64(len(l))} {
				one, is := impl.Learns(l, h, k)
				all, are := impl.LearnsAll(l, h, k)
				again, may := impl.Learns(l, h, k)
				both, can := impl.LearnsAll(l, h, k)
				if one != again || is != may || all != both || are != can {
					t.Fatalf("asked again about %d, the answer is another one", k)
				}
			}
			if impl.Keeps(l, h) != impl.Keeps(l, h) || impl.Forgets(l, h) != impl.Forgets(l, h) || impl.HandOk(l, h) != impl.HandOk(l, h) {
				t.Fatalf("asked again about %+v, the answer is another one", h)
			}
		}
		if !slices.Equal(whole, before) {
			t.Fatalf("%+v was changed into %+v", before, whole)
		}
	}
}
