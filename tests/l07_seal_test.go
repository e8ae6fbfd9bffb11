package tests

import (
	"math"
	"slices"
	"testing"

	"loop.example/g00418/impl"
)

// handByHand has nothing doubled with 0: who seals it hangs on the hands of those that see it alone.
func handByHand() []impl.Knot {
	return []impl.Knot{
		{Hand: 0}, {Hand: 1}, {Hand: 2}, {Hand: 3},
		{Hand: 0, Round: 1, From: setOf(0, 1, 2)},
		{Hand: 1, Round: 1, From: setOf(0, 1, 2)},
		{Hand: 2, Round: 1, From: setOf(1, 2, 3)},
		{Hand: 3, Round: 1, From: setOf(1, 2, 3)},
		{Hand: 1, Round: 2, From: setOf(5, 6, 7)},
		{Hand: 2, Round: 2, From: setOf(5, 6, 7)},
		{Hand: 3, Round: 2, From: setOf(4, 5, 6)},
		{Hand: 0, Round: 2, From: setOf(4, 5, 6)},
		{Hand: 0, Round: 3, From: setOf(8, 9, 10)},
	}
}

// sealedInSpite has 3 doubled with 0: some see 0 alone, some see both, and some see both behind those that see 0 alone.
func sealedInSpite() []impl.Knot {
	return []impl.Knot{
		{Hand: 0}, {Hand: 1}, {Hand: 2}, {Hand: 0},
		{Hand: 1, Round: 1, From: setOf(0, 1, 2)},
		{Hand: 2, Round: 1, From: setOf(0, 1, 2, 3)},
		{Hand: 3, Round: 1, From: setOf(1, 2, 3)},
		{Hand: 2, Round: 1, From: setOf(0, 1, 2)},
		{Hand: 1, Round: 2, From: setOf(4, 5, 6)},
		{Hand: 3, Round: 1, From: setOf(0, 1, 2)},
		{Hand: 3, Round: 2, From: setOf(4, 7, 9)},
		{Hand: 3, Round: 2, From: setOf(4, 6, 7)},
		{Hand: 2, Round: 2, From: setOf(4, 5, 9)},
		{Hand: 1, Round: 3, From: setOf(8, 10, 12)},
		{Hand: 2, Round: 3, From: setOf(8, 11, 12)},
		{Hand: 3, Round: 3, From: setOf(8, 10, 12)},
		{Hand: 0, Round: 4, From: setOf(13, 14, 15)},
	}
}

func sealLaces() [][]impl.Knot {
	laces := append(nodLaces(), handByHand(), sealedInSpite())
	d := dice(7)
	for bad := range int64(4) {
		laces = append(laces, d.trueLace(bad, 400))
	}
	return laces
}

// plainSealers says, of each knot of the lace, who seals it by the words of chapter 7.
func plainSealers(l []impl.Knot) []int64 {
	nodders := plainNodders(l)
	sealers := make([]int64, len(l))
	for a := range l {
		below := plainBelow(l, int64(a))
		for b := range l {
			hands := map[int64]int{}
			for x := range below {
				if nodders[b]>>uint(x)&1 == 1 {
					hands[l[x].Hand]++
				}
			}
			if len(hands) >= 3 {
				sealers[b] |= 1 << uint(a)
			}
		}
	}
	return sealers
}

// noddingHands is how many hands those below a that nod to b have.
func noddingHands(l []impl.Knot, a, b int64) int64 {
	return impl.HandsOf(l, impl.Nodders(l, impl.Below(l, a), b))
}

func TestSeals(t *testing.T) {
	cases := []struct {
		why               string
		l                 []impl.Knot
		a, b, hands, nods int64
		want              bool
	}{
		{"three of three hands", handByHand(), 9, 0, 3, 3, true},
		{"four of three hands", handByHand(), 10, 0, 3, 4, true},
		{"all four hands", handByHand(), 12, 0, 4, 7, true},
		{"all four hands, the last one its own", sealedInSpite(), 10, 0, 4, 5, true},
		{"two of two hands", handByHand(), 5, 0, 2, 2, false},
		{"three of two hands", handByHand(), 8, 0, 2, 3, false},
		{"four of two hands", handByHand(), 11, 0, 2, 4, false},
		{"two of one hand", handByHand(), 4, 0, 1, 2, false},
		{"three hands see b, of which one sees its double, too", sealedInSpite(), 8, 0, 2, 2, false},
		{"it sees b's double, three hands below it nodded before", sealedInSpite(), 11, 0, 3, 3, true},
		{"it sees b's double, three hands below it nodded, one more did not", sealedInSpite(), 12, 0, 3, 3, true},
		{"it sees directly one that seals, and b's double", sealedInSpite(), 13, 0, 4, 5, true},
		{"it sees one that seals through others, and b's double", sealedInSpite(), 16, 0, 4, 5, true},
		{"it sees b's double, to which two hands nodded", sealedInSpite(), 11, 3, 2, 2, false},
		{"it sees b's double through others, to which two hands nodded", sealedInSpite(), 16, 3, 2, 2, false},
		{"it sees directly one that seals", fullRounds(3, 4), 9, 0, 3, 8, true},
		{"it sees one that seals through others", fullRounds(3, 6), 15, 0, 3, 14, true},
		{"it does not see b", handByHand(), 6, 0, 0, 0, false},
		{"it does not see b, which is of its own round", handByHand(), 9, 8, 0, 0, false},
		{"b sees it", handByHand(), 0, 9, 0, 0, false},
		{"itself", handByHand(), 9, 9, 1, 1, false},
		{"itself, of round 0", handByHand(), 0, 0, 1, 1, false},
		{"itself, doubled with one", sealedInSpite(), 3, 3, 1, 1, false},
		{"itself, and it seals another", sealedInSpite(), 16, 16, 1, 1, false},
		{"one of the round just before", fullRounds(4, 2), 7, 0, 2, 2, false},
		{"one of two rounds before", fullRounds(4, 3), 8, 3, 4, 6, true},
	}
	for _, c := range cases {
		nodders := impl.Nodders(c.l, impl.Below(c.l, c.a), c.b)
		if !impl.LaceOk(c.l) || noddingHands(c.l, c.a, c.b) != c.hands || impl.SizeOf(nodders) != c.nods {
			t.Fatalf("%s: %v nod, of %d hands: the lace is not what the test is about", c.why, impl.Members(nodders), noddingHands(c.l, c.a, c.b))
		}
		if got := impl.Seals(c.l, c.a, c.b); got != c.want {
			t.Errorf("%s: Seals %d %d is %v", c.why, c.a, c.b, got)
		}
	}
}

// Who seals need not nod, and one hand that sees b and its double is no help.
func TestSealsIsNotToSeeAndNotToNod(t *testing.T) {
	l := sealedInSpite()
	if impl.DoublesOf(l, 0) != setOf(3) || impl.HandsOf(l, setOf(0, 4, 5)) != 3 || impl.Below(l, 8)&setOf(0, 4, 5) != setOf(0, 4, 5) || !impl.Sees(l, 5, 0) || impl.Nods(l, 5, 0) {
		t.Fatal("the lace is not what the test is about")
	}
	if impl.Seals(l, 8, 0) {
		t.Error("8 seals 0, to which 5 does not nod")
	}
	for _, a := range []int64{11, 12, 13, 14, 15, 16} {
		if impl.Nods(l, a, 0) || !impl.Seals(l, a, 0) {
			t.Errorf("Nods %d 0 is %v, Seals %v", a, impl.Nods(l, a, 0), impl.Seals(l, a, 0))
		}
	}
}

func TestSealers(t *testing.T) {
	mixed := make([]int64, 12)
	mixed[0], mixed[3] = setOf(8, 9), setOf(8, 9)
	for b, want := range mixed {
		for _, s := range []int64{allMixed, want, 0, allMixed &^ want, setOf(0, 4, 8), setOf(1, 2, 9, 11), 1 << uint(b)} {
			if got := impl.Sealers(mixedLace(), s, int64(b)); got != want&s {
				t.Errorf("Sealers of %v of %d is %v, not %v", impl.Members(s), b, impl.Members(got), impl.Members(want&s))
			}
		}
	}
	cases := []struct {
		why        string
		l          []impl.Knot
		s, b, want int64
	}{
		{"the empty set", handByHand(), 0, 0, 0},
		{"all of the lace", handByHand(), 1<<13 - 1, 0, setOf(9, 10, 12)},
		{"all of the lace, of one that none seals", handByHand(), 1<<13 - 1, 8, 0},
		{"all of the lace, of one that has a double", sealedInSpite(), 1<<17 - 1, 0, setOf(10, 11, 12, 13, 14, 15, 16)},
		{"all of the lace, of its double", sealedInSpite(), 1<<17 - 1, 3, 0},
		{"all of the set seal", sealedInSpite(), setOf(10, 12, 16), 0, setOf(10, 12, 16)},
		{"one alone, which seals", handByHand(), setOf(9), 0, setOf(9)},
		{"none of the set seals, since none sees it", handByHand(), setOf(1, 6, 7), 0, 0},
		{"none of the set seals, since two hands nod", handByHand(), setOf(5, 8, 11), 0, 0},
		{"none of the set seals, but one not in it does", handByHand(), (1<<13 - 1) &^ setOf(9, 10, 12), 0, 0},
		{"who nodded is not in the set", handByHand(), setOf(9, 12), 0, setOf(9, 12)},
		{"who nodded is in the set, who seals is not", handByHand(), setOf(0, 4, 5), 0, 0},
		{"b alone", sealedInSpite(), setOf(0), 0, 0},
		{"its double alone", sealedInSpite(), setOf(3), 0, 0},
	}
	for _, c := range cases {
		if got := impl.Sealers(c.l, c.s, c.b); got != c.want {
			t.Errorf("%s: Sealers of %v of %d is %v, not %v", c.why, impl.Members(c.s), c.b, impl.Members(got), impl.Members(c.want))
		}
	}
}

func TestSealedOf(t *testing.T) {
	cases := []struct {
		why     string
		l       []impl.Knot
		a, want int64
	}{
		{"a knot alone", []impl.Knot{{Hand: 2}}, 0, 0},
		{"of round 0", handByHand(), 2, 0},
		{"of round 1", handByHand(), 5, 0},
		{"of round 2, and all but the first one that it sees of round 0", handByHand(), 8, setOf(1, 2, 3)},
		{"of round 2, and all but the last one that it sees of round 0", handByHand(), 9, setOf(0, 1, 2)},
		{"of round 3, and of round 1 all but one to which two hands nod", handByHand(), 12, setOf(0, 1, 2, 3, 5, 6, 7)},
		{"of round 2, and neither of two that are doubled", sealedInSpite(), 8, setOf(1, 2)},
		{"of round 2, and one of two that are doubled", sealedInSpite(), 11, setOf(0, 1, 2)},
		{"of a lace that is mixed", mixedLace(), 8, setOf(0, 3)},
		{"of a lace that is mixed, late, and it seals none", mixedLace(), 11, 0},
	}
	for _, c := range cases {
		if got := impl.SealedOf(c.l, c.a); got != c.want {
			t.Errorf("%s: SealedOf %d is %v, not %v", c.why, c.a, impl.Members(got), impl.Members(c.want))
		}
	}
}

func TestSealsOfAFullLace(t *testing.T) {
	for _, hands := range []int64{3, 4} {
		l := fullRounds(hands, 60/hands)
		upTo := func(rounds int64) int64 { return 1<<uint(max(0, min(60, rounds*hands))) - 1 }
		for k := range int64(60) {
			round := k / hands
			if got, want := impl.Sealers(l, fullSet, k), fullSet&^upTo(round+2); got != want {
				t.Errorf("Sealers of full rounds of %d is %v, not %v", k, impl.Members(got), impl.Members(want))
			}
			if got, want := impl.SealedOf(l, k), upTo(round-1); got != want {
				t.Errorf("SealedOf %d of full rounds is %v, not %v", k, impl.Members(got), impl.Members(want))
			}
			if impl.Seals(l, 59, k) != (round < 60/hands-2) || impl.Seals(l, k, 59) || impl.Seals(l, k, 0) != (round >= 2) {
				t.Errorf("Seals of %d in full rounds", k)
			}
		}
	}
	for k := range int64(60) {
		if impl.Sealers(sixtyAtOnce(), fullSet, k) != 0 || impl.SealedOf(sixtyAtOnce(), k) != 0 || impl.Seals(sixtyAtOnce(), k, k) || impl.Seals(sixtyAtOnce(), 59, k) {
			t.Errorf("of sixty of one round %d seals, or is sealed", k)
		}
	}
}

// 51 is seen by hand 1 alone, until the last knot of a full lace is the one of a third hand.
func TestSealsAtTheEndOfAFullLace(t *testing.T) {
	l := append(fullRounds(3, 18),
		impl.Knot{Hand: 3, Round: 17, From: setOf(48, 49, 50)},
		impl.Knot{Hand: 1, Round: 18, From: setOf(51, 52, 53)},
		impl.Knot{Hand: 2, Round: 18, From: setOf(52, 53, 54)},
		impl.Knot{Hand: 3, Round: 18, From: setOf(52, 53, 54)},
		impl.Knot{Hand: 1, Round: 19, From: setOf(55, 56, 57)},
		impl.Knot{Hand: 2, Round: 19, From: setOf(55, 56, 57)},
	)
	if !impl.LaceOk(l) || len(l) != 60 || noddingHands(l, 58, 51) != 2 || noddingHands(l, 59, 51) != 3 {
		t.Fatal("the lace is not what the test is about")
	}
	if impl.Seals(l, 58, 51) || !impl.Seals(l, 59, 51) || impl.Sealers(l, fullSet, 51) != setOf(59) || impl.Sealers(l, fullSet, 54) != setOf(58) || impl.Sealers(l, fullSet, 59) != 0 {
		t.Error("at the end of a full lace they do not seal as they should")
	}
	for a, want := range map[int64]int64{57: 1<<51 - 1, 58: 1<<51 - 1 | setOf(52, 53, 54), 59: 1<<54 - 1} {
		if got := impl.SealedOf(l, a); got != want {
			t.Errorf("SealedOf %d is %v, not %v", a, impl.Members(got), impl.Members(want))
		}
	}
}

func TestSealsOfNumbersThatAreNoKnot(t *testing.T) {
	for _, l := range sealLaces() {
		all := int64(1)<<uint(len(l)) - 1
		wrong := slices.Concat(wrongMembers, []int64{math.MinInt64, math.MaxInt64, 1 << 32, -1 << 32, int64(len(l))})
		for i := int64(len(l)); i < 60; i += 9 {
			wrong = append(wrong, i, 59)
		}
		for _, k := range wrong {
			for i := int64(0); i < int64(len(l)); i += 7 {
				if impl.Seals(l, k, i) || impl.Seals(l, i, k) {
					t.Errorf("of %d knots %d seals %d, which is none, or that it", len(l), i, k)
				}
			}
			if impl.Seals(l, k, k) || impl.Seals(l, k, -1) || impl.Seals(l, 60, k) {
				t.Errorf("of %d knots %d, which is none, seals", len(l), k)
			}
			if got := impl.SealedOf(l, k); got != -1 {
				t.Errorf("SealedOf %d of %d knots, which is none, is %d", k, len(l), got)
			}
			for _, s := range []int64{0, all, all >> 1} {
				if got := impl.Sealers(l, s, k); got != -1 {
					t.Errorf("Sealers of %v of %d knots of %d, which is none, is %d", impl.Members(s), len(l), k, got)
				}
			}
		}
	}
}

func TestSealersOfSetsThatAreNotOfTheLace(t *testing.T) {
	for _, l := range sealLaces() {
		wrong := append(slices.Clone(wrongSets), -1<<59, -1<<60)
		for i := len(l); i < 60; i++ {
			wrong = append(wrong, 1<<uint(i), 1<<uint(i)|(1<<uint(len(l))-1), fullSet)
		}
		for _, s := range wrong {
			for _, b := range []int64{0, int64(len(l)) - 1, -1, 60} {
				if got := impl.Sealers(l, s, b); got != -1 {
					t.Errorf("Sealers of %d of %d knots of %d is %d", s, len(l), b, got)
				}
			}
		}
	}
}

func TestSealsOfWhatIsNoLace(t *testing.T) {
	lists := wrongLaces()
	// What seals in a lace, and would where nobody looked whether it is one.
	lists["a wrong knot behind all that seal"] = [][]impl.Knot{append(fullRounds(3, 4), impl.Knot{Hand: 4}), append(fullRounds(3, 20), impl.Knot{}), append(handByHand(), impl.Knot{Round: 1})}
	for reason, laces := range lists {
		for _, l := range laces {
			for _, i := range []int64{-1, 0, 1, 2, 4, 9, 10, 11, int64(len(l)) - 1, int64(len(l)), 60} {
				if impl.Seals(l, i, i) || impl.Seals(l, i, 0) || impl.Seals(l, 9, i) {
					t.Errorf("%s: %d seals, or is sealed", reason, i)
				}
				if got := impl.SealedOf(l, i); got != -1 {
					t.Errorf("%s: SealedOf %d is %d", reason, i, got)
				}
				for _, s := range []int64{0, 1, 7, allMixed, fullSet, -1} {
					if got := impl.Sealers(l, s, i); got != -1 {
						t.Errorf("%s: Sealers of %d of %d is %d", reason, s, i, got)
					}
				}
			}
		}
	}
}

// Promise 7: what Sees one that Seals, Seals.
func TestWhatSeesOneThatSealsSeals(t *testing.T) {
	direct, through, silent := 0, 0, 0
	for _, l := range sealLaces() {
		all := int64(1)<<uint(len(l)) - 1
		for b := range int64(len(l)) {
			sealers, nodders := impl.Sealers(l, all, b), impl.Nodders(l, all, b)
			for a := range int64(len(l)) {
				seen := impl.Members(impl.Below(l, a) & sealers)
				if len(seen) > 0 && (!impl.InSet(sealers, a) || !impl.Seals(l, a, b)) {
					t.Fatalf("of %d knots %d sees %v, which seal %d, and does not seal it", len(l), a, seen, b)
				}
				for _, c := range seen {
					switch {
					case impl.InSet(l[a].From, c):
						direct++
					case a != c:
						through++
					}
				}
				if len(seen) > 0 && !impl.InSet(nodders, a) {
					silent++
				}
			}
		}
	}
	if direct < 1000 || through < 1000 || silent < 50 {
		t.Fatalf("%d saw one that seals directly, %d through others, %d that seal do not nod: the test says little", direct, through, silent)
	}
}

// Promise 7, for SealedOf: what is seen has not sealed more.
func TestWhatIsSeenHasNotSealedMore(t *testing.T) {
	for _, l := range sealLaces() {
		sealed := make([]int64, len(l))
		for a := range l {
			sealed[a] = impl.SealedOf(l, int64(a))
			for _, c := range impl.Members(impl.Below(l, int64(a))) {
				if more := sealed[c] &^ sealed[a]; more != 0 {
					t.Fatalf("of %d knots %d sees %d, which seals %v, and does not seal these", len(l), a, c, impl.Members(more))
				}
			}
			if sealed[a]&^impl.Below(l, int64(a)) != 0 || impl.InSet(sealed[a], int64(a)) {
				t.Fatalf("%d seals %v, of which it does not see some, or which is itself", a, impl.Members(sealed[a]))
			}
		}
	}
}

// Seals, Sealers and SealedOf are what a plain look at all that is below tells.
func TestSealsIsWhatTheWordsSay(t *testing.T) {
	unsealed, sealedOnes := 0, 0
	for _, l := range sealLaces() {
		all := int64(1)<<uint(len(l)) - 1
		sealed := make([]int64, len(l))
		for b, want := range plainSealers(l) {
			if got := impl.Sealers(l, all, int64(b)); got != want {
				t.Fatalf("of %d knots Sealers of %d is %v, not %v", len(l), b, impl.Members(got), impl.Members(want))
			}
			for a := range l {
				if impl.Seals(l, int64(a), int64(b)) != impl.InSet(want, int64(a)) {
					t.Fatalf("of %d knots Seals %d %d is %v", len(l), a, b, !impl.InSet(want, int64(a)))
				}
				if impl.InSet(want, int64(a)) {
					sealed[a] |= 1 << uint(b)
				}
			}
			if want == 0 {
				unsealed++
			} else {
				sealedOnes++
			}
		}
		for a, want := range sealed {
			if got := impl.SealedOf(l, int64(a)); got != want {
				t.Fatalf("of %d knots SealedOf %d is %v, not %v", len(l), a, impl.Members(got), impl.Members(want))
			}
		}
	}
	if unsealed < 100 || sealedOnes < 100 {
		t.Fatalf("%d knots had none that seals them, %d had some: the test says little", unsealed, sealedOnes)
	}
}

// Where one hand alone is bad, drawn sets have the sealers that a plain look tells, and of two that are doubled at most one is sealed, whoever seals.
func TestSealersOfDrawnSets(t *testing.T) {
	d := dice(17)
	some, none, all, one := 0, 0, 0, 0
	for n := range int64(40) {
		l := d.trueLace(n%4, 250)
		sealers := plainSealers(l)
		for try := range 20 {
			s := (d.below(1<<30)<<30 | d.below(1<<30)) & (1<<uint(len(l)) - 1)
			b := d.below(int64(len(l)))
			if try%2 == 0 {
				b = d.below(min(6, int64(len(l))))
			}
			if try%4 == 0 {
				s &= sealers[b]
			}
			got := impl.Sealers(l, s, b)
			if got != sealers[b]&s {
				t.Fatalf("Sealers of %v of %d is %v, not %v", impl.Members(s), b, impl.Members(got), impl.Members(sealers[b]&s))
			}
			switch {
			case got == 0:
				none++
			case got == s:
				all++
			default:
				some++
			}
		}
		sealed := int64(0)
		for a := range l {
			sealed |= impl.SealedOf(l, int64(a))
		}
		for _, b := range impl.Members(sealed) {
			if doubles := impl.DoublesOf(l, b); doubles&sealed != 0 {
				t.Fatalf("%d is sealed, and so are %v, which are doubled with it", b, impl.Members(doubles&sealed))
			} else if doubles != 0 {
				one++
			}
		}
	}
	if some < 100 || none < 100 || all < 50 || one < 20 {
		t.Fatalf("%d sets had some that seal, %d none, %d all; %d that have a double were sealed: the test says little", some, none, all, one)
	}
}

// Who seals what is as it was when more is tied.
func TestSealsStayWhenMoreIsTied(t *testing.T) {
	for _, l := range sealLaces() {
		for n := 1; n < len(l); n += 2 {
			a, part := int64(n-1), int64(1)<<uint(n)-1
			if first, later := impl.SealedOf(l[:n], a), impl.SealedOf(l, a); first != later {
				t.Fatalf("SealedOf %d is %v of %d knots, %v of %d", a, impl.Members(first), n, impl.Members(later), len(l))
			}
			for _, b := range []int64{0, a / 2, a} {
				if first, later := impl.Sealers(l[:n], part, b), impl.Sealers(l, part, b); first != later {
					t.Fatalf("Sealers of %d is %v of %d knots, %v of %d", b, impl.Members(first), n, impl.Members(later), len(l))
				}
			}
		}
	}
}

func TestSealsLeaveTheListAsItIs(t *testing.T) {
	lists := sealLaces()
	for _, laces := range wrongLaces() {
		lists = append(lists, laces...)
	}
	for _, list := range lists {
		l, whole := roomy(list)
		before := slices.Clone(whole)
		for _, n := range []int64{-1, 0, 1, 7, 9, 59, 60, allMixed, fullSet} {
			for _, b := range []int64{-1, 0, 4, 60} {
				sealers, seals, sealed := impl.Sealers(l, n, b), impl.Seals(l, n, b), impl.SealedOf(l, n)
				if impl.Sealers(l, n, b) != sealers || impl.Seals(l, n, b) != seals || impl.SealedOf(l, n) != sealed {
					t.Fatalf("asked again about %d and %d, the answer is another one", n, b)
				}
			}
		}
		if !slices.Equal(whole, before) {
			t.Fatalf("%+v was changed into %+v", before, whole)
		}
	}
}
