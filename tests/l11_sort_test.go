package tests

import (
	"math"
	"slices"
	"testing"

	"loop.example/g00418/impl"
)

// lateRounds is MaxKnots knots: hands 3 to 0 tie three rounds, and behind these they tie round 0 and round 1 again and again.
func lateRounds() []impl.Knot {
	l := fullRounds(4, 3)
	for i := range l {
		l[i].Hand = 3 - l[i].Hand
	}
	for n := int64(0); len(l) < 60; n++ {
		k := impl.Knot{Hand: (3 * n) % 4}
		if n%5 > 2 {
			k.Round, k.From = 1, setOf(0, 1, 2, 3)
		}
		l = append(l, k)
	}
	return l
}

func sortLaces() [][]impl.Knot { return append(chainLaces(), lateRounds()) }

// plainOrdered asks for each place in turn: a round, a hand of it, and the numbers as they come.
func plainOrdered(l []impl.Knot, s int64) []int64 {
	var list []int64
	for round := range int64(20) {
		for hand := range int64(4) {
			for i, k := range l {
				if k.Round == round && k.Hand == hand && s>>uint(i)&1 == 1 {
					list = append(list, int64(i))
				}
			}
		}
	}
	return list
}

// plainFresh says what the words of chapter 11 say; nodders is plainNodders of the lace.
func plainFresh(l []impl.Knot, nodders []int64, k, earlier int64) []int64 {
	s := int64(0)
	for b := range plainBelow(l, k) {
		if nodders[b]>>uint(k)&1 == 1 && (earlier == -1 || plainBelow(l, earlier)[b] == 0) {
			s |= 1 << uint(b)
		}
	}
	return plainOrdered(l, s)
}

func plainRespects(l []impl.Knot, list []int64) bool {
	for i, a := range list {
		if a < 0 || a >= int64(len(l)) {
			return false
		}
		for _, b := range list[i+1:] {
			if a == b || plainBelow(l, a)[b] == 1 {
				return false
			}
		}
	}
	return true
}

func TestOrdered(t *testing.T) {
	byHands := []int64{}
	for hand := range int64(4) {
		for i := hand; i < 60; i += 4 {
			byHands = append(byHands, i)
		}
	}
	cases := []struct {
		why  string
		l    []impl.Knot
		s    int64
		want []int64
	}{
		{"the empty set", mixedLace(), 0, nil},
		{"the empty set of the empty lace", nil, 0, nil},
		{"the empty set of a full lace", fullRounds(3, 20), 0, nil},
		{"a set of one", mixedLace(), setOf(7), []int64{7}},
		{"a set of the first one", mixedLace(), setOf(0), []int64{0}},
		{"a set of the last one of a full lace", lateRounds(), 1 << 59, []int64{59}},
		{"the only one", []impl.Knot{{Hand: 3, Word: "x"}}, 1, []int64{0}},
		{"as they stand", mixedLace(), setOf(0, 1, 3, 4, 6, 8), []int64{0, 1, 3, 4, 6, 8}},
		{"a later one of a lesser round", mixedLace(), setOf(8, 10), []int64{10, 8}},
		{"three that stand against their rounds", mixedLace(), setOf(9, 10, 11), []int64{10, 11, 9}},
		{"a round counts ahead of a hand", mixedLace(), setOf(4, 5), []int64{5, 4}},
		{"two of one round and of two hands, as they stand", mixedLace(), setOf(3, 5), []int64{3, 5}},
		{"two of one round and of two hands, the other way", mixedLace(), setOf(5, 10), []int64{10, 5}},
		{"two of one round and of two hands, the other way, behind others", mixedLace(), setOf(0, 7, 9, 11), []int64{0, 11, 7, 9}},
		{"a hand counts ahead of a number", mixedLace(), setOf(1, 10), []int64{10, 1}},
		{"two of one round and of one hand", mixedLace(), setOf(1, 2), []int64{1, 2}},
		{"two of one round and of one hand, far apart", mixedLace(), setOf(0, 10), []int64{0, 10}},
		{"two of one round and of one hand, and others between", mixedLace(), setOf(0, 1, 3, 5, 10), []int64{0, 10, 1, 3, 5}},
		{"two that are alike in all", []impl.Knot{{Hand: 2, Word: "a"}, {Hand: 2, Word: "a"}}, 3, []int64{0, 1}},
		{"words have no say", []impl.Knot{{Hand: 2, Word: "z"}, {Hand: 2, Word: "a"}, {Hand: 1, Word: "zz"}}, 7, []int64{2, 0, 1}},
		{"threads have no say", []impl.Knot{{Hand: 0}, {Hand: 1}, {Hand: 2}, {Hand: 3}, {Round: 1, From: 15}, {Round: 1, From: 7}}, setOf(4, 5), []int64{4, 5}},
		{"all of a lace", mixedLace(), allMixed, []int64{0, 10, 1, 2, 3, 5, 4, 6, 11, 7, 8, 9}},
		{"all of a full lace that stands as it is ordered", fullRounds(3, 20), fullSet, impl.Members(fullSet)},
		{"all of a full lace of four hands", fullRounds(4, 15), fullSet, impl.Members(fullSet)},
		{"all of a full lace of one round", sixtyAtOnce(), fullSet, byHands},
		{"each other one of a full lace of one round", sixtyAtOnce(), 0x555555555555555, slices.Concat(byHands[:15], byHands[30:45])},
		{"three hands, tied backward", lateRounds(), setOf(0, 1, 2, 3, 4, 5, 6, 7, 8), []int64{3, 2, 1, 0, 7, 6, 5, 4, 8}},
	}
	for _, c := range cases {
		if !impl.LaceOk(c.l) {
			t.Fatalf("%s: it is no lace", c.why)
		}
		if got := impl.Ordered(c.l, c.s); !slices.Equal(got, c.want) {
			t.Errorf("%s: Ordered of %v is %v, not %v", c.why, impl.Members(c.s), got, c.want)
		}
	}
}

func TestOrderedOfAllOfAFullLace(t *testing.T) {
	l := lateRounds()
	if len(l) != 60 || !impl.LaceOk(l) || slices.Equal(plainOrdered(l, fullSet), impl.Members(fullSet)) {
		t.Fatal("the lace is not what the test is about")
	}
	if got := impl.Ordered(l, fullSet); !slices.Equal(got, plainOrdered(l, fullSet)) {
		t.Errorf("Ordered is %v, not %v", got, plainOrdered(l, fullSet))
	}
}

func TestFreshOf(t *testing.T) {
	cases := []struct {
		why        string
		l          []impl.Knot
		k, earlier int64
		want       []int64
	}{
		{"a knot alone", []impl.Knot{{Hand: 2}}, 0, -1, []int64{0}},
		{"a knot alone, and itself earlier", []impl.Knot{{Hand: 2}}, 0, 0, nil},
		{"of round 0", mixedLace(), 5, -1, []int64{5}},
		{"of round 0, another one of it earlier", mixedLace(), 5, 3, []int64{5}},
		{"of round 0, its double earlier", mixedLace(), 0, 10, []int64{0}},
		{"of round 0, one that sees it earlier", mixedLace(), 0, 8, nil},
		{"none earlier, all below it", mixedLace(), 4, -1, []int64{0, 1, 3, 4}},
		{"none earlier, two that are doubled below it", mixedLace(), 6, -1, []int64{0, 3, 6}},
		{"none earlier, one of two that are doubled below it", mixedLace(), 7, -1, []int64{2, 3, 5, 7}},
		{"none earlier, in another order than they stand", mixedLace(), 8, -1, []int64{0, 3, 5, 4, 6, 7, 8}},
		{"none earlier, a hand that stands behind first", mixedLace(), 11, -1, []int64{10, 1, 3, 5, 11}},
		{"one below it earlier", mixedLace(), 8, 4, []int64{5, 6, 7, 8}},
		{"another one below it earlier", mixedLace(), 8, 6, []int64{5, 4, 7, 8}},
		{"one below it earlier that sees one of two that are doubled", mixedLace(), 8, 7, []int64{0, 4, 6, 8}},
		{"one of round 0 earlier", mixedLace(), 8, 3, []int64{0, 5, 4, 6, 7, 8}},
		{"one of two that are doubled earlier", mixedLace(), 8, 1, []int64{0, 3, 5, 4, 6, 7, 8}},
		{"itself earlier", mixedLace(), 8, 8, nil},
		{"one earlier that it does not see, and that has all below it but itself", mixedLace(), 8, 9, []int64{8}},
		{"one earlier that it does not see, and that has some below it", mixedLace(), 8, 11, []int64{0, 4, 6, 7, 8}},
		{"one earlier that it does not see, and that has none below it", mixedLace(), 8, 10, []int64{0, 3, 5, 4, 6, 7, 8}},
		{"one earlier that sees it", mixedLace(), 4, 8, nil},
		{"it sees two that are doubled, and is of their hand", append(mixedLace(), impl.Knot{Hand: 1, Round: 2, From: setOf(4, 6, 7)}), 12, -1, []int64{0, 3, 5, 4, 6, 7, 12}},
		{"one of the two is below the earlier one: the other one is not fresh either", mixedLace(), 6, 1, []int64{0, 3, 6}},
		{"all of a hand are doubled with one below it", append(twoForOne(), impl.Knot{Hand: 2, Round: 3, From: setOf(6, 7, 8, 9)}), 11, -1, []int64{0, 2, 3, 5, 6, 8, 11}},
		{"its own hand's are doubled with one below it", append(twoForOne(), impl.Knot{Hand: 1, Round: 3, From: setOf(6, 7, 8, 9)}), 11, -1, []int64{0, 2, 3, 5, 6, 8, 11}},
		{"a full lace, none earlier", fullRounds(3, 20), 59, -1, impl.Members(1<<57 - 1 | 1<<59)},
		{"a full lace, one of the round just before earlier", fullRounds(3, 20), 59, 54, []int64{55, 56, 59}},
		{"a full lace, one of its own round earlier", fullRounds(3, 20), 59, 58, []int64{59}},
		{"a full lace of round 0", sixtyAtOnce(), 59, 55, []int64{59}},
	}
	for _, c := range cases {
		if !impl.LaceOk(c.l) {
			t.Fatalf("%s: it is no lace", c.why)
		}
		if got := impl.FreshOf(c.l, c.k, c.earlier); !slices.Equal(got, c.want) {
			t.Errorf("%s: FreshOf %d behind %d is %v, not %v", c.why, c.k, c.earlier, got, c.want)
		}
	}
}

// Nothing below a knot is doubled with it, so each nods to itself: it is fresh, and the last one, but behind one that sees it.
func TestAKnotIsFreshItself(t *testing.T) {
	hidden := 0
	for n, l := range sortLaces() {
		for k := int64(n % 2); k < int64(len(l)); k += 2 {
			if !impl.Nods(l, k, k) {
				t.Fatalf("%d does not nod to itself", k)
			}
			for earlier := k%3 - 1; earlier < int64(len(l)); earlier += 3 {
				fresh := impl.FreshOf(l, k, earlier)
				if impl.Sees(l, earlier, k) {
					hidden++
					if len(fresh) != 0 {
						t.Fatalf("FreshOf %d behind %d, which sees it, is %v", k, earlier, fresh)
					}
				} else if len(fresh) == 0 || fresh[len(fresh)-1] != k {
					t.Fatalf("FreshOf %d behind %d is %v: it is not the last one", k, earlier, fresh)
				}
			}
		}
	}
	if hidden < 500 {
		t.Fatalf("%d had one earlier that sees them: the test says little", hidden)
	}
}

func TestRespects(t *testing.T) {
	backward := impl.Members(fullSet)
	slices.Reverse(backward)
	cases := []struct {
		why  string
		l    []impl.Knot
		list []int64
		want bool
	}{
		{"nothing", mixedLace(), nil, true},
		{"an empty list", mixedLace(), []int64{}, true},
		{"nothing, of the empty lace", nil, nil, true},
		{"nothing, of a full lace", sixtyAtOnce(), nil, true},
		{"one", mixedLace(), []int64{8}, true},
		{"the last one of a full lace", fullRounds(3, 20), []int64{59}, true},
		{"all as they stand", mixedLace(), impl.Members(allMixed), true},
		{"all in order", mixedLace(), []int64{0, 10, 1, 2, 3, 5, 4, 6, 11, 7, 8, 9}, true},
		{"neither by number nor in order", mixedLace(), []int64{10, 5, 3, 1, 11, 0, 4, 2, 7, 6, 9, 8}, true},
		{"what a knot sees is not in the list", mixedLace(), []int64{8, 10}, true},
		{"behind what it sees thread by thread", mixedLace(), []int64{0, 8}, true},
		{"the second one ahead of one that it sees, and that the first one does not see", mixedLace(), []int64{9, 11, 10}, false},
		{"a later round ahead of those that it does not see", mixedLace(), []int64{9, 10, 11}, true},
		{"two of one round and of one hand, backward", mixedLace(), []int64{2, 1}, true},
		{"sixty backward, none of which sees another", sixtyAtOnce(), backward, true},
		{"ahead of one that it sees directly", mixedLace(), []int64{4, 0}, false},
		{"ahead of one that it sees directly, with others between", mixedLace(), []int64{2, 4, 5, 10, 3}, false},
		{"ahead of one that it sees thread by thread", mixedLace(), []int64{8, 1}, false},
		{"ahead of one that it sees thread by thread, with others between", mixedLace(), []int64{10, 8, 11, 5}, false},
		{"ahead of one that it sees thread by thread, twenty rounds back", fullRounds(3, 20), []int64{59, 0}, false},
		{"the last two the wrong way round", mixedLace(), []int64{0, 10, 1, 2, 3, 5, 6, 11, 7, 8, 4}, false},
		{"the first two the wrong way round", fullRounds(3, 3), []int64{3, 0, 1, 2, 4, 5, 6, 7, 8}, false},
		{"one twice", mixedLace(), []int64{0, 0}, false},
		{"one twice, with others between", mixedLace(), []int64{10, 0, 1, 4, 10}, false},
		{"one twice that sees others", mixedLace(), []int64{0, 1, 3, 4, 4}, false},
		{"many times", []impl.Knot{{}}, make([]int64, 100000), false},
		{"all, and the first one again", mixedLace(), append(impl.Members(allMixed), 0), false},
		{"backward", fullRounds(3, 2), []int64{5, 4, 3, 2, 1, 0}, false},
	}
	for _, c := range cases {
		if got := impl.Respects(c.l, c.list); got != c.want {
			t.Errorf("%s: Respects is %v of %v", c.why, got, c.list[:min(len(c.list), 20)])
		}
	}
	for a, below := range mixedBelow() {
		for b := range int64(12) {
			if want := below>>uint(b)&1 == 0; impl.Respects(mixedLace(), []int64{int64(a), b}) != want {
				t.Errorf("Respects is %v of %d and %d", !want, a, b)
			}
		}
	}
}

func TestOrderedOfSetsThatAreNotOfTheLace(t *testing.T) {
	for _, l := range sortLaces() {
		wrong := slices.Clone(wrongSets)
		for i := len(l); i < 60; i++ {
			wrong = append(wrong, 1<<uint(i), 1<<uint(i)|1, wholeOf(l)|1<<uint(i), fullSet)
		}
		for _, s := range wrong {
			if got := impl.Ordered(l, s); len(got) != 0 {
				t.Errorf("Ordered of %d, which is not of %d knots, is %v", s, len(l), got)
			}
		}
	}
}

func TestFreshOfNumbersThatAreNoKnot(t *testing.T) {
	for _, l := range sortLaces() {
		last := int64(len(l)) - 1
		wrong := slices.Concat(wrongMembers, []int64{-3, int64(len(l)), math.MinInt64 + 1, -1 << 32, 1<<32 + 1})
		for i := int64(len(l)); i < 60; i += 7 {
			wrong = append(wrong, i, 59)
		}
		for _, none := range wrong {
			for _, right := range []int64{-1, 0, last, none} {
				if got := impl.FreshOf(l, none, right); len(got) != 0 {
					t.Errorf("of %d knots FreshOf %d, which is none, behind %d is %v", len(l), none, right, got)
				}
			}
			for _, k := range []int64{0, last / 2, last} {
				if got := impl.FreshOf(l, k, none); len(got) != 0 && none != -1 {
					t.Errorf("of %d knots FreshOf %d behind %d, which is none, is %v", len(l), k, none, got)
				}
			}
		}
	}
}

func TestRespectsOfNumbersThatAreNoKnot(t *testing.T) {
	for _, l := range sortLaces() {
		wrong := slices.Concat(wrongMembers, []int64{int64(len(l)), math.MinInt64 + 1, -1 << 32, 1<<32 + 1})
		for i := int64(len(l)); i < 60; i += 7 {
			wrong = append(wrong, i, 59)
		}
		all := impl.Ordered(l, wholeOf(l))
		for _, none := range wrong {
			for _, list := range [][]int64{{none}, append([]int64{none}, all...), append(slices.Clone(all), none), slices.Insert(slices.Clone(all), len(all)/2, none)} {
				if impl.Respects(l, list) {
					t.Errorf("of %d knots Respects is true of a list that has %d, which is none", len(l), none)
				}
			}
		}
	}
}

func TestOrderOfWhatIsNoLace(t *testing.T) {
	lists := wrongLaces()
	// What has an order in a lace, and would where nobody looked whether it is one.
	lists["a wrong knot behind right ones"] = [][]impl.Knot{append(fullRounds(3, 6), impl.Knot{Hand: 4}), append(fullRounds(3, 20), impl.Knot{}), append(fullRounds(4, 6), impl.Knot{Round: 1})}
	for reason, laces := range lists {
		for _, l := range laces {
			for _, s := range []int64{0, 1, 7, 1<<uint(min(len(l), 60)) - 1, fullSet, -1} {
				if got := impl.Ordered(l, s); len(got) != 0 {
					t.Errorf("%s: Ordered of %d is %v", reason, s, got)
				}
			}
			for _, k := range []int64{-1, 0, 1, 5, int64(len(l)) - 1, int64(len(l)), 59, 60} {
				for _, earlier := range []int64{-1, 0, k} {
					if got := impl.FreshOf(l, k, earlier); len(got) != 0 {
						t.Errorf("%s: FreshOf %d behind %d is %v", reason, k, earlier, got)
					}
				}
			}
			for _, list := range [][]int64{nil, {}, {0}, {0, 1}, {-1}, {int64(len(l)) - 1}} {
				if impl.Respects(l, list) {
					t.Errorf("%s: Respects is true of %v", reason, list)
				}
			}
		}
	}
}

func TestOrderOfTheEmptyLace(t *testing.T) {
	for _, l := range [][]impl.Knot{nil, {}, fullRounds(3, 3)[:0]} {
		for _, s := range []int64{0, 1, fullSet, -1, 1 << 60} {
			if got := impl.Ordered(l, s); len(got) != 0 {
				t.Errorf("Ordered of %d of no knots is %v", s, got)
			}
		}
		for _, k := range []int64{-1, 0, 1, 59, 60} {
			if len(impl.FreshOf(l, k, -1)) != 0 || len(impl.FreshOf(l, k, 0)) != 0 || len(impl.FreshOf(l, k, k)) != 0 {
				t.Errorf("FreshOf %d of no knots is something", k)
			}
			if impl.Respects(l, []int64{k}) {
				t.Errorf("of no knots Respects is true of %d", k)
			}
		}
		if !impl.Respects(l, nil) || !impl.Respects(l, []int64{}) {
			t.Error("of no knots Respects is false of nothing")
		}
	}
}

// Promise 11: Ordered Respects.
func TestOrderedRespects(t *testing.T) {
	d := dice(11)
	moved, whole := 0, 0
	for _, l := range sortLaces() {
		for try := range 12 {
			s := wholeOf(l)
			for i := range l {
				if try > 0 && d.below(4) == 0 {
					s &^= 1 << uint(i)
				}
			}
			list := impl.Ordered(l, s)
			if !impl.Respects(l, list) || !plainRespects(l, list) {
				t.Fatalf("Ordered of %v, %v, does not respect", impl.Members(s), list)
			}
			if !slices.Equal(list, impl.Members(s)) {
				moved++
			}
			if slices.Sort(list); !slices.Equal(list, impl.Members(s)) {
				t.Fatalf("Ordered has %v, the set %v", list, impl.Members(s))
			}
			if s == wholeOf(l) {
				whole++
			}
		}
	}
	if moved < 200 || whole < 30 {
		t.Fatalf("%d stood otherwise than by number, %d were all of a lace: the test says little", moved, whole)
	}
}

// Promise 11: FreshOf has none that is Doubled with another one of it.
func TestWhatIsFreshIsNotDoubled(t *testing.T) {
	left, twice := 0, 0
	for n, l := range sortLaces() {
		doubles := make([]int64, len(l))
		for a := range l {
			doubles[a] = impl.DoublesOf(l, int64(a))
		}
		for k := int64(n % 3); k < int64(len(l)); k += 3 {
			for _, earlier := range []int64{-1, k, (k * 5) % int64(len(l)), k / 2} {
				fresh := impl.FreshOf(l, k, earlier)
				for _, a := range fresh {
					if with := doubles[a] & setOf(fresh...); with != 0 {
						t.Fatalf("FreshOf %d behind %d, %v, has %d, and %v, which are doubled with it", k, earlier, fresh, a, impl.Members(with))
					}
				}
				if !impl.Respects(l, fresh) {
					t.Fatalf("FreshOf %d behind %d, %v, does not respect", k, earlier, fresh)
				}
				if hands := impl.FalseHands(l, impl.Below(l, k)); earlier == -1 && len(hands) > 0 {
					twice++
					left += len(impl.Members(impl.Below(l, k))) - len(fresh)
				}
			}
		}
	}
	if twice < 100 || left < 500 {
		t.Fatalf("%d had two that are doubled below them, %d were left out: the test says little", twice, left)
	}
}

// Ordered, FreshOf and Respects are what a plain look at all knots tells.
func TestOrderIsWhatTheWordsSay(t *testing.T) {
	d := dice(12)
	fresh, respect, not := 0, 0, 0
	for n, l := range sortLaces() {
		if len(l) == 0 {
			continue
		}
		nodders := plainNodders(l)
		for range 25 {
			s, k, earlier := int64(0), d.below(int64(len(l))), d.below(int64(len(l))+1)-1
			for i := range l {
				s |= d.below(2) << uint(i)
			}
			list := impl.Ordered(l, s)
			if want := plainOrdered(l, s); !slices.Equal(list, want) {
				t.Fatalf("lace %d: Ordered of %v is %v, not %v", n, impl.Members(s), list, want)
			}
			want := plainFresh(l, nodders, k, earlier)
			if got := impl.FreshOf(l, k, earlier); !slices.Equal(got, want) {
				t.Fatalf("lace %d: FreshOf %d behind %d is %v, not %v", n, k, earlier, got, want)
			}
			fresh += len(want)
			for range d.below(3) {
				if len(list) > 1 {
					at := d.below(int64(len(list)) - 1)
					list[at], list[at+1] = list[at+1], list[at]
				}
			}
			if d.below(9) == 0 {
				list = append(list, d.below(int64(len(l))+3)-1)
			}
			if got := impl.Respects(l, list); got != plainRespects(l, list) {
				t.Fatalf("lace %d: Respects is %v of %v", n, got, list)
			} else if got {
				respect++
			} else {
				not++
			}
		}
	}
	if fresh < 3000 || respect < 300 || not < 100 {
		t.Fatalf("%d were fresh, %d lists respect, %d do not: the test says little", fresh, respect, not)
	}
}

// What is tied later has no say about what was fresh, nor about an order.
func TestOrderStaysWhenMoreIsTied(t *testing.T) {
	for n, l := range sortLaces() {
		for k := n % 5; k < len(l); k += 5 {
			for _, end := range []int{k + 1, (k + 1 + len(l)) / 2} {
				s := wholeOf(l[:k+1]) & 0x7EFDBF7DFBEFDBF
				if short, long := impl.Ordered(l[:end], s), impl.Ordered(l, s); !slices.Equal(short, long) {
					t.Fatalf("Ordered of %v is %v in the first %d knots, %v in %d", impl.Members(s), short, end, long, len(l))
				}
				for _, earlier := range []int64{-1, int64(k) / 2, int64(k) - 1} {
					if short, long := impl.FreshOf(l[:end], int64(k), earlier), impl.FreshOf(l, int64(k), earlier); !slices.Equal(short, long) {
						t.Fatalf("FreshOf %d behind %d is %v in the first %d knots, %v in %d", k, earlier, short, end, long, len(l))
					}
				}
			}
		}
	}
}

func TestOrderIsNewMemory(t *testing.T) {
	for _, l := range [][]impl.Knot{nil, fullRounds(3, 1), fullRounds(3, 20), lateRounds(), mixedLace(), wrongLaces()["out of order"][0]} {
		for _, n := range []int64{-1, 0, 1, 7, int64(len(l)) - 1, int64(len(l)), wholeOf(l)} {
			asks := []func() []int64{
				func() []int64 { return impl.Ordered(l, n) },
				func() []int64 { return impl.FreshOf(l, n, -1) },
				func() []int64 { return impl.FreshOf(l, int64(len(l))-1, n) },
			}
			for _, ask := range asks {
				first, second := ask(), ask()
				want := slices.Clone(second)
				first = first[:cap(first)]
				for i := range first {
					first[i] = 77
				}
				if !slices.Equal(second, want) || !slices.Equal(ask(), want) {
					t.Fatalf("a list that was written into changed another one: %v, %v", second, ask())
				}
			}
		}
	}
}

func TestOrderLeavesListsAsTheyAre(t *testing.T) {
	lists := [][]impl.Knot{nil, fullRounds(3, 20), lateRounds(), mixedLace(), oneToEach()}
	for _, laces := range wrongLaces() {
		lists = append(lists, laces[0])
	}
	for _, given := range [][]int64{{}, {2}, {5, 4, 3, 2, 1, 0}, {0, 1, 2}, {9, 9}, {-1, 60}} {
		whole := slices.Concat(given, []int64{77, 78, 79, 80, 81, 82, 83})
		numbers, before := whole[:len(given)], slices.Clone(whole)
		for _, list := range lists {
			l, room := roomy(list)
			knots := slices.Clone(room)
			respects := impl.Respects(l, numbers)
			if impl.Respects(l, numbers) != respects {
				t.Fatalf("asked again about %v, the answer is another one", numbers)
			}
			for _, n := range []int64{-1, 0, 9, int64(len(l)) - 1, int64(len(l)), 1<<uint(min(len(l), 60)) - 1} {
				ordered, fresh := impl.Ordered(l, n), impl.FreshOf(l, n, -1)
				if !slices.Equal(impl.Ordered(l, n), ordered) || !slices.Equal(impl.FreshOf(l, n, -1), fresh) {
					t.Fatalf("asked again about %d, the answer is another one", n)
				}
			}
			if !slices.Equal(room, knots) {
				t.Fatalf("%+v was changed into %+v", knots, room)
			}
		}
		if !slices.Equal(whole, before) {
			t.Fatalf("%v was changed into %v", before, whole)
		}
	}
}
