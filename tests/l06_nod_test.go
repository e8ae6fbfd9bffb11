package tests

import (
	"math"
	"slices"
	"testing"

	"loop.example/g00418/impl"
)

// mixedNodders is, of each knot of mixedLace, who nods to it.
func mixedNodders() []int64 {
	return []int64{
		setOf(0, 4, 6, 8, 9), setOf(1, 4, 11), setOf(2, 7), setOf(3, 4, 6, 7, 8, 9, 11),
		setOf(4, 8, 9), setOf(5, 7, 8, 9, 11), setOf(6, 8, 9), setOf(7, 8, 9),
		setOf(8), setOf(9), setOf(10, 11), setOf(11),
	}
}

// oneToEach is twoForOne, where 1 and 9 are doubled, and behind it knots that see one of the two, or both.
func oneToEach() []impl.Knot {
	return append(twoForOne(),
		impl.Knot{Hand: 3, Round: 1, From: setOf(0, 1, 2, 9)},
		impl.Knot{Hand: 0, Round: 1, From: setOf(0, 2, 9)},
		impl.Knot{Hand: 3, Round: 2, From: setOf(4, 5, 12)},
		impl.Knot{Hand: 2, Round: 2, From: setOf(5, 11, 12)},
		impl.Knot{Hand: 0, Round: 3, From: setOf(6, 7, 8)},
	)
}

func nodLaces() [][]impl.Knot {
	return append(sightLaces(), twoForOne(), oneToEach())
}

// plainNodders says, of each knot of the lace, who nods to it by the words of chapter 6.
func plainNodders(l []impl.Knot) []int64 {
	below := make([]map[int64]int, len(l))
	for k := range l {
		below[k] = plainBelow(l, int64(k))
	}
	doubled := func(a, b int64) bool {
		return a != b && l[a].Hand == l[b].Hand && below[a][b] == 0 && below[b][a] == 0
	}
	nodders := make([]int64, len(l))
	for b := range l {
		for a := range l {
			nods := below[a][int64(b)] == 1
			for x := range below[a] {
				nods = nods && !doubled(x, int64(b))
			}
			if nods {
				nodders[b] |= 1 << uint(a)
			}
		}
	}
	return nodders
}

func TestNods(t *testing.T) {
	for b, nodders := range mixedNodders() {
		for a := range int64(12) {
			if want := nodders>>uint(a)&1 == 1; impl.Nods(mixedLace(), a, int64(b)) != want {
				t.Errorf("Nods %d %d is %v", a, b, !want)
			}
		}
	}
	cases := []struct {
		why  string
		l    []impl.Knot
		a, b int64
		want bool
	}{
		{"a knot alone", []impl.Knot{{Hand: 2}}, 0, 0, true},
		{"two of different hands", []impl.Knot{{Hand: 2}, {Hand: 3}}, 1, 0, false},
		{"it sees b directly, and b has no double", oneToEach(), 3, 0, true},
		{"it sees b through others, and b has no double", oneToEach(), 15, 2, true},
		{"it sees b directly, and none of b's doubles", oneToEach(), 3, 1, true},
		{"it sees b through others, and none of b's doubles", oneToEach(), 15, 1, true},
		{"it sees b's later double alone", oneToEach(), 12, 9, true},
		{"it sees b and b's double directly", oneToEach(), 11, 1, false},
		{"it sees b's double and b directly", oneToEach(), 11, 9, false},
		{"it sees b and b's double through others", oneToEach(), 13, 1, false},
		{"it sees b's double and b through others", oneToEach(), 13, 9, false},
		{"it sees b directly and b's double through others", oneToEach(), 13, 4, false},
		{"it sees b through one that sees both", oneToEach(), 14, 1, false},
		{"it sees two that are doubled, and b, which is of another hand", oneToEach(), 11, 0, true},
		{"it sees two that are doubled, and b, which is of its own hand", oneToEach(), 14, 2, true},
		{"it sees b through one that does not nod to another", oneToEach(), 14, 11, true},
		{"it sees b, whose doubles it passes by", oneToEach(), 13, 12, true},
		{"it does not see b", oneToEach(), 3, 9, false},
		{"b sees it", oneToEach(), 0, 3, false},
		{"neither sees the other", oneToEach(), 3, 4, false},
		{"neither sees the other, and they are doubled", oneToEach(), 1, 9, false},
		{"itself, without a double", oneToEach(), 5, 5, true},
		{"itself, doubled with one", oneToEach(), 1, 1, true},
		{"itself, doubled with more than one", oneToEach(), 9, 9, true},
		{"itself, and it sees two that are doubled", oneToEach(), 11, 11, true},
	}
	for _, c := range cases {
		if got := impl.Nods(c.l, c.a, c.b); got != c.want {
			t.Errorf("%s: Nods %d %d is %v", c.why, c.a, c.b, got)
		}
	}
}

// Nine is doubled with 1, 4 and 7; who sees nine and one of these alone does not nod to it.
func TestNodsWhereOneOfTheDoublesIsBelow(t *testing.T) {
	l := append(twoForOne(), impl.Knot{Hand: 0, Round: 1, From: setOf(1, 2, 9, 10)}, impl.Knot{Hand: 0, Round: 1, From: setOf(0, 2, 9)})
	if got := impl.DoublesOf(l, 9); got != setOf(1, 4, 7) || impl.Below(l, 11)&got != setOf(1) || impl.Below(l, 12)&got != 0 {
		t.Fatal("the lace is not what the test is about")
	}
	if impl.Nods(l, 11, 9) || !impl.Nods(l, 12, 9) {
		t.Errorf("Nods 11 9 is %v, Nods 12 9 is %v", impl.Nods(l, 11, 9), impl.Nods(l, 12, 9))
	}
	three := []impl.Knot{{Hand: 1}, {Hand: 1}, {Hand: 1}, {Hand: 0}, {Hand: 2}}
	for _, seen := range []int64{setOf(0), setOf(1), setOf(2), setOf(0, 1), setOf(0, 2), setOf(1, 2), setOf(0, 1, 2)} {
		l := append(slices.Clone(three), impl.Knot{Hand: 3, Round: 1, From: seen | setOf(3, 4)})
		for b := range int64(3) {
			if want := seen == 1<<uint(b); impl.Nods(l, 5, b) != want {
				t.Errorf("one that sees %v of three that are doubled: Nods to %d is %v", impl.Members(seen), b, !want)
			}
		}
	}
}

func TestNodders(t *testing.T) {
	for b, want := range mixedNodders() {
		for _, s := range []int64{allMixed, want, 0, allMixed &^ want, setOf(0, 4, 8), setOf(1, 2, 9, 11), 1 << uint(b)} {
			if got := impl.Nodders(mixedLace(), s, int64(b)); got != want&s {
				t.Errorf("Nodders of %v to %d is %v, not %v", impl.Members(s), b, impl.Members(got), impl.Members(want&s))
			}
		}
	}
	cases := []struct {
		why        string
		s, b, want int64
	}{
		{"the empty set", 0, 1, 0},
		{"all of the lace, to one of two that are doubled", 1<<16 - 1, 1, setOf(1, 3, 4, 5, 6, 7, 8, 15)},
		{"all of the lace, to the other one", 1<<16 - 1, 9, setOf(9, 12)},
		{"all of the lace, to one without a double", 1<<16 - 1, 0, (1<<16 - 1) &^ setOf(1, 2, 9, 10)},
		{"all of the set nod", setOf(3, 6, 15), 1, setOf(3, 6, 15)},
		{"none of the set nods, since none sees it", setOf(0, 2, 10, 12), 1, 0},
		{"none of the set nods, since all see both", setOf(11, 13, 14), 1, 0},
		{"b is not in the set", setOf(12, 13), 9, setOf(12)},
		{"b alone", setOf(9), 9, setOf(9)},
		{"its double alone", setOf(1), 9, 0},
	}
	for _, c := range cases {
		if got := impl.Nodders(oneToEach(), c.s, c.b); got != c.want {
			t.Errorf("%s: Nodders of %v to %d is %v, not %v", c.why, impl.Members(c.s), c.b, impl.Members(got), impl.Members(c.want))
		}
	}
}

func TestNoddersOfAFullLace(t *testing.T) {
	for _, hands := range []int64{3, 4} {
		l := fullRounds(hands, 60/hands)
		for b := range int64(60) {
			upTo := int64(1)<<uint(b/hands*hands+hands) - 1
			if got := impl.Nodders(l, fullSet, b); got != fullSet&^upTo|1<<uint(b) {
				t.Errorf("Nodders of full rounds to %d is %v", b, impl.Members(got))
			}
			if !impl.Nods(l, b, b) || !impl.Nods(l, b, b%hands) || impl.Nods(l, b, 59) != (b == 59) || impl.Nods(l, 59, b) != (b == 59 || b < 60-hands) {
				t.Errorf("Nods of %d in full rounds", b)
			}
		}
	}
	for b := range int64(60) {
		if got := impl.Nodders(sixtyAtOnce(), fullSet, b); got != 1<<uint(b) {
			t.Errorf("Nodders of sixty of one round to %d is %v", b, impl.Members(got))
		}
	}
	late := append(fullRounds(3, 18), impl.Knot{Hand: 0}, impl.Knot{Hand: 0, Round: 18, From: 7 << 51}, impl.Knot{Hand: 1, Round: 18, From: 15 << 51}, impl.Knot{Hand: 2, Round: 18, From: 7 << 51}, impl.Knot{Hand: 3, Round: 18, From: 7 << 51}, impl.Knot{Hand: 3, Round: 19, From: setOf(55, 56, 57, 58)})
	if !impl.LaceOk(late) || len(late) != 60 {
		t.Fatal("the lace is not what the test is about")
	}
	if got, want := impl.Nodders(late, fullSet, 0), (int64(1)<<54-1)&^6|setOf(55, 57, 58); got != want {
		t.Errorf("Nodders to 0 is %v, not %v", impl.Members(got), impl.Members(want))
	}
	if impl.Nodders(late, fullSet, 54) != setOf(54) || impl.Nodders(late, fullSet, 58) != setOf(58, 59) || impl.Nods(late, 59, 54) || impl.Nods(late, 59, 55) || !impl.Nods(late, 59, 56) {
		t.Error("at the end of a full lace they do not nod as they should")
	}
}

func TestNodsOfNumbersThatAreNoKnot(t *testing.T) {
	for _, l := range nodLaces() {
		all := int64(1)<<uint(len(l)) - 1
		wrong := slices.Concat(wrongMembers, []int64{math.MinInt64, math.MaxInt64, 1 << 32, -1 << 32, 64, 65})
		for i := int64(len(l)); i < 60; i += 7 {
			wrong = append(wrong, i, 59)
		}
		for _, k := range append(wrong, int64(len(l))) {
			for i := int64(0); i < int64(len(l)); i += 3 {
				if impl.Nods(l, k, i) || impl.Nods(l, i, k) {
					t.Errorf("of %d knots %d nods to %d, which is none, or it to that", len(l), i, k)
				}
			}
			if impl.Nods(l, k, k) || impl.Nods(l, k, -1) || impl.Nods(l, 60, k) {
				t.Errorf("of %d knots %d, which is none, nods", len(l), k)
			}
			for _, s := range []int64{0, all, all >> 1} {
				if got := impl.Nodders(l, s, k); got != -1 {
					t.Errorf("Nodders of %v of %d knots to %d, which is none, is %d", impl.Members(s), len(l), k, got)
				}
			}
		}
	}
}

func TestNoddersOfSetsThatAreNotOfTheLace(t *testing.T) {
	for _, l := range nodLaces() {
		wrong := slices.Clone(wrongSets)
		for i := len(l); i < 60; i++ {
			wrong = append(wrong, 1<<uint(i), 1<<uint(i)|(1<<uint(len(l))-1), fullSet)
		}
		for _, s := range wrong {
			for _, b := range []int64{0, int64(len(l)) - 1, -1, 60} {
				if got := impl.Nodders(l, s, b); got != -1 {
					t.Errorf("Nodders of %d of %d knots to %d is %d", s, len(l), b, got)
				}
			}
		}
	}
}

func TestNodsOfWhatIsNoLace(t *testing.T) {
	for reason, laces := range wrongLaces() {
		for _, l := range laces {
			for _, i := range []int64{-1, 0, 1, 2, 4, 10, int64(len(l)) - 1, int64(len(l)), 60} {
				if impl.Nods(l, i, i) || impl.Nods(l, i, 0) || impl.Nods(l, 4, i) {
					t.Errorf("%s: %d nods, or is nodded to", reason, i)
				}
				for _, s := range []int64{0, 1, 7, allMixed, fullSet, -1} {
					if got := impl.Nodders(l, s, i); got != -1 {
						t.Errorf("%s: Nodders of %d to %d is %d", reason, s, i, got)
					}
				}
			}
		}
	}
}

// Promise 6: who Nods Sees; nobody Nods to two that are Doubled.
func TestWhoNodsSeesAndNobodyNodsToTwoThatAreDoubled(t *testing.T) {
	nods, silent, doubled := 0, 0, 0
	for _, l := range nodLaces() {
		all := int64(1)<<uint(len(l)) - 1
		nodders := make([]int64, len(l))
		for b := range l {
			nodders[b] = impl.Nodders(l, all, int64(b))
			for a := range int64(len(l)) {
				sees := impl.Sees(l, a, int64(b))
				if impl.InSet(nodders[b], a) && !sees {
					t.Fatalf("%d nods to %d and does not see it", a, b)
				}
				if impl.InSet(nodders[b], a) {
					nods++
				} else if sees {
					silent++
				}
			}
		}
		for b := range l {
			for _, c := range impl.Members(impl.DoublesOf(l, int64(b))) {
				if both := nodders[b] & nodders[c]; both != 0 {
					t.Fatalf("%v nod to %d and to %d, which are doubled", impl.Members(both), b, c)
				}
				doubled++
			}
		}
	}
	if nods < 1000 || silent < 500 || doubled < 1000 {
		t.Fatalf("%d nods, %d that see and do not nod, %d doubled: the test says little", nods, silent, doubled)
	}
}

// Nods and Nodders are what a plain look at all that is below tells.
func TestNodsIsWhatTheWordsSay(t *testing.T) {
	for _, l := range nodLaces() {
		all := int64(1)<<uint(len(l)) - 1
		for b, want := range plainNodders(l) {
			if got := impl.Nodders(l, all, int64(b)); got != want {
				t.Fatalf("of %d knots Nodders to %d is %v, not %v", len(l), b, impl.Members(got), impl.Members(want))
			}
			for a := range int64(len(l)) {
				if impl.Nods(l, a, int64(b)) != impl.InSet(want, a) {
					t.Fatalf("of %d knots Nods %d %d is %v", len(l), a, b, !impl.InSet(want, a))
				}
			}
		}
	}
}

// Where one hand alone is bad, drawn sets have the nodders that a plain look tells, and all see eye to eye on the knots of the others.
func TestNoddersOfDrawnSets(t *testing.T) {
	d := dice(6)
	some, none, all := 0, 0, 0
	for n := range int64(60) {
		bad := n % 4
		l := d.trueLace(bad, 150)
		nodders := plainNodders(l)
		for try := range 20 {
			s := (d.below(1<<30)<<30 | d.below(1<<30)) & (1<<uint(len(l)) - 1)
			b := d.below(int64(len(l)))
			if try%4 == 0 {
				s &= nodders[b]
			}
			got := impl.Nodders(l, s, b)
			if got != nodders[b]&s {
				t.Fatalf("Nodders of %v to %d is %v, not %v", impl.Members(s), b, impl.Members(got), impl.Members(nodders[b]&s))
			}
			switch {
			case got == 0:
				none++
			case got == s:
				all++
			default:
				some++
			}
		}
		for b, k := range l {
			for a := range int64(len(l)) {
				if k.Hand != bad && impl.Nods(l, a, int64(b)) != impl.Sees(l, a, int64(b)) {
					t.Fatalf("%d and %d of hand %d, which is true: to nod is not to see", a, b, k.Hand)
				}
			}
		}
	}
	if some < 100 || none < 100 || all < 100 {
		t.Fatalf("%d sets had some that nod, %d none, %d all: the test says little", some, none, all)
	}
}

func TestNodsLeaveTheListAsItIs(t *testing.T) {
	lists := nodLaces()
	for _, laces := range wrongLaces() {
		lists = append(lists, laces...)
	}
	for _, list := range lists {
		l, whole := roomy(list)
		before := slices.Clone(whole)
		for _, n := range []int64{-1, 0, 1, 5, 7, 59, 60, allMixed, fullSet} {
			for _, b := range []int64{-1, 0, 4, 60} {
				nodders, nods := impl.Nodders(l, n, b), impl.Nods(l, n, b)
				if impl.Nodders(l, n, b) != nodders || impl.Nods(l, n, b) != nods {
					t.Fatalf("asked again about %d and %d, the answer is another one", n, b)
				}
			}
		}
		if !slices.Equal(whole, before) {
			t.Fatalf("%+v was changed into %+v", before, whole)
		}
	}
}
