package tests

import (
	"math"
	"slices"
	"testing"

	"loop.example/g00418/impl"
)

// mixedDoubles is, of each knot of mixedLace, what is doubled with it.
func mixedDoubles() []int64 {
	return []int64{
		setOf(10), setOf(2), setOf(1), 0,
		setOf(10), 0, 0, 0,
		setOf(11), 0, setOf(0, 4), setOf(8),
	}
}

// plainDoubled says of two numbers of the lace what the words of chapter 5 say.
func plainDoubled(l []impl.Knot, a, b int64) bool {
	return a != b && l[a].Hand == l[b].Hand && plainBelow(l, a)[b] == 0 && plainBelow(l, b)[a] == 0
}

func plainFalseHands(l []impl.Knot, s int64) []int64 {
	var hands []int64
	for hand := range int64(4) {
		twice := false
		for _, a := range impl.Members(s) {
			for _, b := range impl.Members(s) {
				twice = twice || l[a].Hand == hand && plainDoubled(l, a, b)
			}
		}
		if twice {
			hands = append(hands, hand)
		}
	}
	return hands
}

// twoForOne is full rounds of three hands, and behind them a knot of hand 1 and one of hand 3, both of round 0.
func twoForOne() []impl.Knot {
	return append(fullRounds(3, 3), impl.Knot{Hand: 1}, impl.Knot{Hand: 3})
}

func TestDoubled(t *testing.T) {
	for a, doubles := range mixedDoubles() {
		for b := range int64(12) {
			if want := doubles>>uint(b)&1 == 1; impl.Doubled(mixedLace(), int64(a), b) != want {
				t.Errorf("Doubled %d %d is %v", a, b, !want)
			}
		}
	}
	cases := []struct {
		why  string
		l    []impl.Knot
		a, b int64
		want bool
	}{
		{"two of one hand in one round", []impl.Knot{{Hand: 2}, {Hand: 2}}, 0, 1, true},
		{"two that are alike in all", []impl.Knot{{Hand: 2, Word: "a"}, {Hand: 2, Word: "a"}}, 0, 1, true},
		{"two of different hands", []impl.Knot{{Hand: 2}, {Hand: 3}}, 0, 1, false},
		{"a knot alone", []impl.Knot{{Hand: 2}}, 0, 0, false},
		{"one hand in one round", twoForOne(), 1, 9, true},
		{"one hand, a round between", twoForOne(), 4, 9, true},
		{"one hand, two rounds between", twoForOne(), 7, 9, true},
		{"another hand", twoForOne(), 9, 10, false},
		{"another hand in another round", twoForOne(), 9, 3, false},
		{"different hands in one round", twoForOne(), 6, 7, false},
		{"the one sees the other directly", twoForOne(), 4, 1, false},
		{"the one sees the other through knots between them", twoForOne(), 7, 1, false},
		{"a knot that has another one, and itself", twoForOne(), 9, 9, false},
	}
	for _, c := range cases {
		if impl.Doubled(c.l, c.a, c.b) != c.want || impl.Doubled(c.l, c.b, c.a) != c.want {
			t.Errorf("%s: Doubled %d %d is %v, and the other way %v", c.why, c.a, c.b, impl.Doubled(c.l, c.a, c.b), impl.Doubled(c.l, c.b, c.a))
		}
	}
}

// Two of one hand where one sees the other only by a thread to a third one that sees it.
func TestDoubledThroughOthers(t *testing.T) {
	around := append(fullRounds(4, 2), impl.Knot{Hand: 0, Round: 2, From: setOf(5, 6, 7)})
	if impl.Sees(around, 8, 4) || !impl.Sees(around, 8, 0) || impl.InSet(around[8].From, 0) {
		t.Fatal("the lace is not what the test is about")
	}
	if impl.Doubled(around, 8, 0) || impl.Doubled(around, 0, 8) || !impl.Doubled(around, 8, 4) || !impl.Doubled(around, 4, 8) {
		t.Error("what is seen through others is doubled, or what is passed by is not")
	}
	if impl.DoublesOf(around, 8) != setOf(4) || impl.DoublesOf(around, 4) != setOf(8) || impl.DoublesOf(around, 0) != 0 {
		t.Errorf("DoublesOf 8, 4, 0 is %d, %d, %d", impl.DoublesOf(around, 8), impl.DoublesOf(around, 4), impl.DoublesOf(around, 0))
	}
	if got := impl.FalseHands(around, 1<<9-1); !slices.Equal(got, []int64{0}) {
		t.Errorf("FalseHands is %v", got)
	}
}

func TestDoublesOf(t *testing.T) {
	for a, want := range mixedDoubles() {
		if got := impl.DoublesOf(mixedLace(), int64(a)); got != want {
			t.Errorf("DoublesOf %d is %v, not %v", a, impl.Members(got), impl.Members(want))
		}
	}
	wants := []int64{0, setOf(9), 0, 0, setOf(9), 0, 0, setOf(9), 0, setOf(1, 4, 7), 0}
	for a, want := range wants {
		if got := impl.DoublesOf(twoForOne(), int64(a)); got != want {
			t.Errorf("DoublesOf %d is %v, not %v", a, impl.Members(got), impl.Members(want))
		}
	}
	three := []impl.Knot{{Hand: 1}, {Hand: 1}, {Hand: 0}, {Hand: 1}}
	if impl.DoublesOf(three, 0) != setOf(1, 3) || impl.DoublesOf(three, 1) != setOf(0, 3) || impl.DoublesOf(three, 3) != setOf(0, 1) || impl.DoublesOf(three, 2) != 0 {
		t.Error("three of one hand in one round are not each doubled with the two others")
	}
}

func TestFalseHands(t *testing.T) {
	cases := []struct {
		s    int64
		want []int64
	}{
		{0, nil}, {setOf(10), nil}, {setOf(0, 4), nil}, {setOf(0, 10), []int64{0}}, {setOf(4, 10), []int64{0}}, {setOf(0, 4, 10), []int64{0}},
		{setOf(1, 2), []int64{1}}, {setOf(1, 6), nil}, {setOf(2, 6), nil}, {setOf(1, 2, 6), []int64{1}}, {setOf(3, 8), nil}, {setOf(3, 11), nil}, {setOf(8, 11), []int64{2}},
		{setOf(5, 7, 9), nil}, {setOf(0, 1, 3, 4, 5, 6, 7, 8, 9), nil}, {setOf(1, 10, 11, 5), nil}, {setOf(0, 1, 8), nil},
		{setOf(0, 10, 1, 2), []int64{0, 1}}, {setOf(11, 8, 4, 10), []int64{0, 2}}, {setOf(1, 2, 8, 11, 9, 0), []int64{1, 2}}, {allMixed, []int64{0, 1, 2}},
	}
	for _, c := range cases {
		if got := impl.FalseHands(mixedLace(), c.s); !slices.Equal(got, c.want) {
			t.Errorf("FalseHands of %v is %v, not %v", impl.Members(c.s), got, c.want)
		}
	}
	backward := []impl.Knot{{Hand: 3}, {Hand: 2}, {Hand: 3}, {Hand: 0}, {Hand: 2}, {Hand: 0}, {Hand: 3}}
	if got := impl.FalseHands(backward, 1<<7-1); !slices.Equal(got, []int64{0, 2, 3}) {
		t.Errorf("FalseHands of hands that come falling is %v", got)
	}
	if got := impl.FalseHands(twoForOne(), 1<<11-1); !slices.Equal(got, []int64{1}) {
		t.Errorf("FalseHands of hand 1 twice is %v", got)
	}
	if got := impl.FalseHands(twoForOne(), (1<<11-1)&^(1<<9)); len(got) != 0 {
		t.Errorf("FalseHands without the second one is %v", got)
	}
	if got := impl.FalseHands(nil, 0); len(got) != 0 {
		t.Errorf("FalseHands of the empty lace is %v", got)
	}
}

func TestDoublesOfAFullLace(t *testing.T) {
	for _, l := range [][]impl.Knot{fullRounds(3, 20), fullRounds(4, 15)} {
		for a := range int64(60) {
			if impl.DoublesOf(l, a) != 0 || impl.Doubled(l, a, 0) || impl.Doubled(l, 59, a) {
				t.Errorf("%d of a lace of full rounds is doubled", a)
			}
		}
		if got := impl.FalseHands(l, fullSet); len(got) != 0 {
			t.Errorf("FalseHands of full rounds is %v", got)
		}
	}
	column := int64(0)
	for i := range 15 {
		column |= 1 << uint(4*i)
	}
	for a := range int64(60) {
		if got, want := impl.DoublesOf(sixtyAtOnce(), a), column<<uint(a%4)&^(1<<uint(a)); got != want {
			t.Errorf("DoublesOf %d of sixty of one round is %v, not %v", a, impl.Members(got), impl.Members(want))
		}
		if impl.Doubled(sixtyAtOnce(), a, 59) != (a%4 == 3 && a != 59) {
			t.Errorf("Doubled %d 59 is %v", a, impl.Doubled(sixtyAtOnce(), a, 59))
		}
	}
	if got := impl.FalseHands(sixtyAtOnce(), fullSet); !slices.Equal(got, []int64{0, 1, 2, 3}) {
		t.Errorf("FalseHands of sixty of one round is %v", got)
	}
	if got := impl.FalseHands(sixtyAtOnce(), 15<<56); len(got) != 0 {
		t.Errorf("FalseHands of one of each hand is %v", got)
	}
	oneHand := make([]impl.Knot, 60)
	if impl.DoublesOf(oneHand, 59) != fullSet>>1 || impl.DoublesOf(oneHand, 0) != fullSet-1 || !slices.Equal(impl.FalseHands(oneHand, setOf(0, 59)), []int64{0}) {
		t.Error("sixty knots of one hand are not all doubled")
	}
	late := append(fullRounds(3, 19), impl.Knot{Hand: 0, Round: 19, From: 7 << 54}, impl.Knot{Hand: 0, Round: 19, From: 7 << 54}, impl.Knot{Hand: 1, Round: 18, From: 7 << 51})
	if impl.DoublesOf(late, 57) != 1<<58 || impl.DoublesOf(late, 59) != 1<<55 || impl.DoublesOf(late, 54) != 0 || !slices.Equal(impl.FalseHands(late, fullSet), []int64{0, 1}) {
		t.Error("two that are doubled at the end of a full lace are not told")
	}
}

func TestDoublesOfNumbersThatAreNoKnot(t *testing.T) {
	for _, l := range sightLaces() {
		wrong := slices.Concat(wrongMembers, []int64{math.MinInt64, math.MaxInt64, 1 << 32, -1 << 32})
		for i := int64(len(l)); i < 66; i++ {
			wrong = append(wrong, i)
		}
		for _, k := range wrong {
			if got := impl.DoublesOf(l, k); got != -1 {
				t.Errorf("DoublesOf %d of %d knots is %d", k, len(l), got)
			}
			for i := range int64(len(l)) {
				if impl.Doubled(l, k, i) || impl.Doubled(l, i, k) {
					t.Errorf("of %d knots %d is doubled with %d, which is none", len(l), i, k)
				}
			}
			if impl.Doubled(l, k, k) || impl.Doubled(l, k, -1) || impl.Doubled(l, 60, k) {
				t.Errorf("of %d knots %d, which is none, is doubled", len(l), k)
			}
		}
	}
}

func TestFalseHandsOfSetsThatAreNotOfTheLace(t *testing.T) {
	for _, l := range sightLaces() {
		wrong := slices.Clone(wrongSets)
		for i := len(l); i < 60; i++ {
			wrong = append(wrong, 1<<uint(i), 1<<uint(i)|(1<<uint(len(l))-1), fullSet)
		}
		for _, s := range wrong {
			if got := impl.FalseHands(l, s); len(got) != 0 {
				t.Errorf("FalseHands of %d of %d knots is %v", s, len(l), got)
			}
		}
	}
}

func TestDoublesOfWhatIsNoLace(t *testing.T) {
	for reason, laces := range wrongLaces() {
		for _, l := range laces {
			for _, i := range []int64{-1, 0, 1, 2, 4, 10, int64(len(l)) - 1, int64(len(l)), 60} {
				if impl.DoublesOf(l, i) != -1 {
					t.Errorf("%s: DoublesOf %d is %d", reason, i, impl.DoublesOf(l, i))
				}
				for _, j := range []int64{-1, 0, 1, 2, 10} {
					if impl.Doubled(l, i, j) || impl.Doubled(l, j, i) {
						t.Errorf("%s: %d and %d are doubled", reason, i, j)
					}
				}
			}
			for _, s := range []int64{0, 1, 7, allMixed, fullSet, -1} {
				if got := impl.FalseHands(l, s); len(got) != 0 {
					t.Errorf("%s: FalseHands of %d is %v", reason, s, got)
				}
			}
		}
	}
}

// Promise 5: to be Doubled goes both ways; and it is what the chapter says it is.
func TestToBeDoubledGoesBothWays(t *testing.T) {
	doubled, single := 0, 0
	for _, l := range sightLaces() {
		for a := range int64(len(l)) {
			all := impl.DoublesOf(l, a)
			for b := range int64(len(l)) {
				want := plainDoubled(l, a, b)
				if impl.Doubled(l, a, b) != want || impl.Doubled(l, b, a) != want || impl.InSet(all, b) != want {
					t.Fatalf("Doubled %d %d is %v, the other way %v, DoublesOf %v; it should be %v", a, b, impl.Doubled(l, a, b), impl.Doubled(l, b, a), impl.Members(all), want)
				}
				if want {
					doubled++
				} else {
					single++
				}
			}
			if all>>uint(len(l)) != 0 {
				t.Fatalf("DoublesOf %d, %v, has what is no knot", a, impl.Members(all))
			}
		}
	}
	if doubled < 1000 || single < 1000 {
		t.Fatalf("%d were doubled, %d were not: the test says little", doubled, single)
	}
}

// trueLace is a lace in which each hand but bad ties each knot on what it tied before.
func (d *dice) trueLace(bad int64, tries int) []impl.Knot {
	var l []impl.Knot
	last := []int64{-1, -1, -1, -1}
	for hand := range int64(4) {
		if d.below(5) > 0 {
			last[hand] = int64(len(l))
			l = append(l, impl.Knot{Hand: hand})
		}
	}
	for range tries {
		k := d.anyKnot(l)
		if k.Hand != bad && last[k.Hand] >= 0 {
			k.From |= 1 << uint(last[k.Hand])
		}
		if impl.CanTie(l, k) {
			last[k.Hand] = int64(len(l))
			l = append(l, k)
		}
	}
	return l
}

// Promise 5: who ties on what it tied is not false.
func TestWhoTiesOnWhatItTiedIsNotFalse(t *testing.T) {
	d := dice(5)
	long, bads := 0, 0
	for n := range int64(100) {
		bad := n%5 - 1
		l := d.trueLace(bad, 150)
		whole := int64(1)<<uint(len(l)) - 1
		for a, k := range l {
			if k.Hand != bad && impl.DoublesOf(l, int64(a)) != 0 {
				t.Fatalf("%d of hand %d, which ties on what it tied, is doubled with %v", a, k.Hand, impl.Members(impl.DoublesOf(l, int64(a))))
			}
		}
		for _, s := range []int64{whole, whole &^ d.below(1<<20), d.below(1<<30) & whole, impl.Below(l, int64(len(l))-1)} {
			got := impl.FalseHands(l, s)
			if len(got) > 1 || len(got) == 1 && got[0] != bad {
				t.Fatalf("FalseHands is %v, where only %d does not tie on what it tied", got, bad)
			}
			if want := plainFalseHands(l, s); !slices.Equal(got, want) {
				t.Fatalf("FalseHands of %v is %v, not %v", impl.Members(s), got, want)
			}
			bads += len(got)
		}
		if len(l) > 15 {
			long++
		}
	}
	if long < 50 || bads < 50 {
		t.Fatalf("%d laces were long, %d times a hand was false: the test says little", long, bads)
	}
}

// Sets that are drawn have the false hands that a look at each two of them tells.
func TestFalseHandsOfDrawnSets(t *testing.T) {
	d := dice(13)
	count := make([]int, 5)
	for _, l := range sightLaces() {
		for range 40 {
			s := int64(0)
			for range d.below(9) {
				if len(l) > 0 {
					s |= 1 << uint(d.below(int64(len(l))))
				}
			}
			got, want := impl.FalseHands(l, s), plainFalseHands(l, s)
			if !slices.Equal(got, want) {
				t.Fatalf("FalseHands of %v is %v, not %v", impl.Members(s), got, want)
			}
			count[len(got)]++
		}
	}
	if count[0] < 100 || count[1] < 100 || count[2] < 50 {
		t.Fatalf("as many sets had so many false hands: %v: the test says little", count)
	}
}

func TestFalseHandsIsNewMemory(t *testing.T) {
	first := impl.FalseHands(mixedLace(), allMixed)
	second := impl.FalseHands(mixedLace(), allMixed)
	first = first[:cap(first)]
	for i := range first {
		first[i] = 9
	}
	want := []int64{0, 1, 2}
	if !slices.Equal(second, want) || !slices.Equal(impl.FalseHands(mixedLace(), allMixed), want) {
		t.Errorf("what FalseHands answered was written into, and changed %v", second)
	}
}

func TestDoublesLeaveTheListAsItIs(t *testing.T) {
	lists := sightLaces()
	for _, laces := range wrongLaces() {
		lists = append(lists, laces...)
	}
	for _, list := range lists {
		l, whole := roomy(list)
		before := slices.Clone(whole)
		for _, n := range []int64{-1, 0, 1, 5, 7, 59, 60, allMixed, fullSet} {
			impl.Doubled(l, n, 0)
			impl.Doubled(l, 0, n)
			impl.DoublesOf(l, n)
			impl.FalseHands(l, n)
		}
		if !slices.Equal(whole, before) {
			t.Fatalf("%+v was changed into %+v", before, whole)
		}
	}
}
