package tests

import (
	"slices"
	"testing"

	"loop.example/g00418/impl"
)

const allMixed = 1<<12 - 1

// mixedBelow is, of each knot of mixedLace, what is below it.
func mixedBelow() []int64 {
	return []int64{
		setOf(0), setOf(1), setOf(2), setOf(3),
		setOf(0, 1, 3, 4),
		setOf(5),
		setOf(0, 1, 2, 3, 6),
		setOf(2, 3, 5, 7),
		setOf(0, 1, 2, 3, 4, 5, 6, 7, 8),
		setOf(0, 1, 2, 3, 4, 5, 6, 7, 9),
		setOf(10),
		setOf(1, 3, 5, 10, 11),
	}
}

// drawnLace is a lace of up to that many knots, each of which hangs on drawn ones.
func (d *dice) drawnLace(knots int) []impl.Knot {
	l := []impl.Knot{{Hand: 0}, {Hand: 1}, {Hand: 2}, {Hand: 3}}
	for range 20 * knots {
		if len(l) >= knots {
			break
		}
		if k := d.anyKnot(l); impl.CanTie(l, k) {
			l = append(l, k)
		}
	}
	return l
}

func sightLaces() [][]impl.Knot {
	laces := rightLaces()
	d := dice(4)
	for _, knots := range []int{5, 9, 14, 20, 30, 45, 59, 60} {
		laces = append(laces, d.drawnLace(knots))
	}
	return laces
}

// plainBelow goes from knot to knot along the threads, as the words of the chapter say it.
func plainBelow(l []impl.Knot, k int64) map[int64]int {
	below := map[int64]int{k: 1}
	todo := []int64{k}
	for len(todo) > 0 {
		next := todo[0]
		todo = todo[1:]
		for i := range int64(60) {
			if l[next].From>>uint(i)&1 == 1 && below[i] == 0 {
				below[i] = 1
				todo = append(todo, i)
			}
		}
	}
	return below
}

func asSet(members map[int64]int) int64 {
	s := int64(0)
	for i := range members {
		s |= 1 << uint(i)
	}
	return s
}

func TestBelow(t *testing.T) {
	for k, want := range mixedBelow() {
		if got := impl.Below(mixedLace(), int64(k)); got != want {
			t.Errorf("Below %d is %v, not %v", k, impl.Members(got), impl.Members(want))
		}
	}
	cases := []struct {
		l       []impl.Knot
		k, want int64
	}{
		{fullRounds(3, 1), 0, 1}, {fullRounds(3, 1), 2, 4},
		{fullRounds(3, 2), 3, setOf(0, 1, 2, 3)}, {fullRounds(3, 3), 7, setOf(0, 1, 2, 3, 4, 5, 7)},
		{fullRounds(4, 3), 8, 1<<9 - 1}, {fullRounds(4, 3), 11, 1<<8 - 1 | 1<<11},
		{fullRounds(3, 20), 59, 1<<57 - 1 | 1<<59}, {fullRounds(3, 20), 57, 1<<58 - 1}, {fullRounds(3, 20), 0, 1},
		{fullRounds(4, 15), 59, 1<<56 - 1 | 1<<59}, {fullRounds(4, 15), 4, 31},
		{sixtyAtOnce(), 0, 1}, {sixtyAtOnce(), 31, 1 << 31}, {sixtyAtOnce(), 59, 1 << 59},
	}
	for _, c := range cases {
		if got := impl.Below(c.l, c.k); got != c.want {
			t.Errorf("Below %d of %d knots is %v, not %v", c.k, len(c.l), impl.Members(got), impl.Members(c.want))
		}
	}
}

func TestRoundNoughtHasItselfAloneBelow(t *testing.T) {
	for _, l := range sightLaces() {
		for i, k := range l {
			if got := impl.Below(l, int64(i)); k.Round == 0 && got != 1<<uint(i) {
				t.Errorf("Below %d, of round 0, is %v", i, impl.Members(got))
			}
		}
	}
}

func TestSees(t *testing.T) {
	for a, below := range mixedBelow() {
		for b := range int64(12) {
			if want := below>>uint(b)&1 == 1; impl.Sees(mixedLace(), int64(a), b) != want {
				t.Errorf("Sees %d %d is %v", a, b, !want)
			}
		}
	}
	between := fullRounds(3, 4)
	for _, first := range []int64{0, 1, 2} {
		if impl.InSet(between[11].From, first) || !impl.Sees(between, 11, first) || impl.Sees(between, first, 11) {
			t.Errorf("11 and %d, with two rounds between them, are not seen as the threads go", first)
		}
	}
	if impl.Sees(between, 9, 11) || impl.Sees(between, 11, 9) || impl.Sees(between, 0, 1) || impl.Sees(between, 1, 0) {
		t.Error("one sees another of its own round")
	}
	full := fullRounds(3, 20)
	if !impl.Sees(full, 59, 0) || !impl.Sees(full, 59, 59) || impl.Sees(full, 59, 58) || impl.Sees(full, 58, 59) || impl.Sees(full, 0, 59) {
		t.Error("Sees is wrong of a full lace")
	}
}

func TestClosed(t *testing.T) {
	closed := []int64{
		0, setOf(0), setOf(10), setOf(0, 10), setOf(0, 1, 2, 3, 5, 10), setOf(0, 1, 3, 4), setOf(0, 1, 3, 4, 5), setOf(0, 1, 2, 3, 4, 6),
		setOf(2, 3, 5, 7), setOf(0, 1, 2, 3, 4, 5, 6, 7), setOf(0, 1, 2, 3, 4, 5, 6, 7, 8), setOf(0, 1, 2, 3, 4, 5, 6, 7, 8, 9), setOf(1, 3, 5, 10, 11), allMixed,
	}
	open := []int64{
		setOf(4), setOf(11), setOf(8), setOf(0, 1, 4), setOf(1, 3, 4), setOf(0, 3, 4), setOf(0, 1, 3, 4, 6), setOf(1, 3, 5, 11), setOf(3, 5, 7, 0),
		setOf(4, 6, 7, 8), setOf(4, 6, 7, 8, 0, 1, 2, 3), setOf(4, 6, 7, 8, 9, 0, 1, 2, 5), setOf(0, 1, 3, 6, 7, 8), setOf(0, 10, 9),
	}
	for _, s := range closed {
		if !impl.Closed(mixedLace(), s) {
			t.Errorf("Closed of %v is false", impl.Members(s))
		}
	}
	for _, s := range open {
		if impl.Closed(mixedLace(), s) {
			t.Errorf("Closed of %v is true", impl.Members(s))
		}
	}
	for i := range int64(12) {
		hung := false
		for j, below := range mixedBelow() {
			hung = hung || int64(j) != i && below>>uint(i)&1 == 1
		}
		if got := impl.Closed(mixedLace(), allMixed&^(1<<uint(i))); got == hung {
			t.Errorf("Closed of all but %d is %v", i, got)
		}
	}
}

func TestClosedOfAFullLace(t *testing.T) {
	if !impl.Closed(nil, 0) || !impl.Closed(fullRounds(3, 20), fullSet) || !impl.Closed(fullRounds(3, 20), 1<<57-1) || impl.Closed(fullRounds(3, 20), fullSet-1) || impl.Closed(fullRounds(3, 20), 1<<59) {
		t.Error("Closed is wrong of the empty lace or of a full one")
	}
	for _, s := range rightSets {
		if !impl.Closed(sixtyAtOnce(), s) || impl.Tips(sixtyAtOnce(), s) != s {
			t.Errorf("%v, of knots without threads, is not closed, or does not have all of it as tips", impl.Members(s))
		}
	}
}

func TestTips(t *testing.T) {
	cases := []struct{ s, want int64 }{
		{0, 0}, {setOf(0), setOf(0)}, {setOf(0, 10), setOf(0, 10)}, {setOf(0, 1, 2, 3), setOf(0, 1, 2, 3)},
		{setOf(0, 1, 3, 4), setOf(4)}, {setOf(0, 1, 2, 3, 4), setOf(2, 4)}, {setOf(0, 1, 2, 3, 4, 6), setOf(4, 6)}, {setOf(0, 1, 2, 3, 4, 5, 6, 7), setOf(4, 6, 7)},
		{setOf(0, 1, 2, 3, 4, 5, 6, 7, 8), setOf(8)}, {setOf(0, 1, 2, 3, 4, 5, 6, 7, 9, 10), setOf(9, 10)}, {setOf(0, 1, 2, 3, 4, 5, 6, 7, 8, 9), setOf(8, 9)},
		{setOf(1, 3, 5, 10, 11), setOf(11)}, {allMixed, setOf(8, 9, 11)},
	}
	for _, c := range cases {
		if got := impl.Tips(mixedLace(), c.s); got != c.want {
			t.Errorf("Tips of %v is %v, not %v", impl.Members(c.s), impl.Members(got), impl.Members(c.want))
		}
	}
	if impl.Tips(nil, 0) != 0 || impl.Tips(fullRounds(3, 20), 0) != 0 || impl.Tips(fullRounds(3, 20), fullSet) != 7<<57 || impl.Tips(fullRounds(4, 15), 1<<59-1) != 7<<56 {
		t.Error("Tips is wrong of the empty set, or of a full lace")
	}
	for _, s := range []int64{setOf(4), setOf(0, 1, 4), setOf(4, 6, 7, 8), setOf(1, 3, 5, 11), allMixed - 1} {
		if got := impl.Tips(mixedLace(), s); got != -1 {
			t.Errorf("Tips of %v, which is not closed, is %d", impl.Members(s), got)
		}
	}
}

func TestNumbersThatAreNoKnot(t *testing.T) {
	for _, l := range sightLaces() {
		wrong := slices.Clone(wrongMembers)
		for i := int64(len(l)); i < 62; i++ {
			wrong = append(wrong, i)
		}
		for _, k := range wrong {
			if got := impl.Below(l, k); got != -1 {
				t.Errorf("Below %d of %d knots is %d", k, len(l), got)
			}
			for i := range int64(len(l)) {
				if impl.Sees(l, k, i) || impl.Sees(l, i, k) {
					t.Errorf("of %d knots %d, which is none, sees %d or is seen", len(l), k, i)
				}
			}
			if impl.Sees(l, k, k) {
				t.Errorf("of %d knots %d, which is none, sees itself", len(l), k)
			}
		}
	}
}

func TestSightOfSetsThatAreNotOfTheLace(t *testing.T) {
	for _, l := range sightLaces() {
		wrong := slices.Clone(wrongSets)
		for i := len(l); i < 60; i++ {
			wrong = append(wrong, 1<<uint(i), 1<<uint(i)|1, 1<<uint(i)|(1<<uint(len(l))-1), fullSet)
		}
		for _, s := range wrong {
			if impl.Closed(l, s) || impl.Tips(l, s) != -1 {
				t.Errorf("of %d knots and the set %d Closed is %v, Tips %d", len(l), s, impl.Closed(l, s), impl.Tips(l, s))
			}
		}
	}
}

func TestSightOfWhatIsNoLace(t *testing.T) {
	for reason, laces := range wrongLaces() {
		for _, l := range laces {
			for _, i := range []int64{-1, 0, 1, 3, int64(len(l)) - 1, int64(len(l)), 60} {
				if impl.Below(l, i) != -1 || impl.Sees(l, i, i) || impl.Sees(l, i, 0) || impl.Sees(l, 0, i) {
					t.Errorf("%s: Below %d is %d, or it is seen or sees", reason, i, impl.Below(l, i))
				}
			}
			for _, s := range []int64{0, 1, 7, allMixed, fullSet, -1} {
				if impl.Closed(l, s) || impl.Tips(l, s) != -1 {
					t.Errorf("%s: of the set %d Closed is %v, Tips %d", reason, s, impl.Closed(l, s), impl.Tips(l, s))
				}
			}
		}
	}
}

// Promise 4: Below is Closed.
func TestBelowIsClosed(t *testing.T) {
	for _, l := range sightLaces() {
		for k := range int64(len(l)) {
			below := impl.Below(l, k)
			if want := asSet(plainBelow(l, k)); below != want {
				t.Fatalf("Below %d is %v, not %v", k, impl.Members(below), impl.Members(want))
			}
			if !impl.Closed(l, below) {
				t.Fatalf("Below %d, %v, is not closed", k, impl.Members(below))
			}
			if got := impl.Tips(l, below); got != 1<<uint(k) {
				t.Fatalf("the tips of all below %d are %v", k, impl.Members(got))
			}
			if rest := below &^ (1 << uint(k)); !impl.Closed(l, rest) {
				t.Fatalf("all below %d but itself, %v, is not closed", k, impl.Members(rest))
			}
		}
	}
}

// Promise 4: to see goes on, from one that is seen to all that it sees.
func TestToSeeGoesOn(t *testing.T) {
	for _, l := range [][]impl.Knot{mixedLace(), fullRounds(3, 6), fullRounds(4, 5), sightLaces()[len(rightLaces())+3]} {
		for a := range int64(len(l)) {
			if !impl.Sees(l, a, a) {
				t.Fatalf("%d does not see itself", a)
			}
			for b := range int64(len(l)) {
				if impl.Sees(l, a, b) != impl.InSet(impl.Below(l, a), b) {
					t.Fatalf("Sees %d %d is %v, Below %v", a, b, impl.Sees(l, a, b), impl.Members(impl.Below(l, a)))
				}
				if a != b && impl.Sees(l, a, b) && impl.Sees(l, b, a) {
					t.Fatalf("%d and %d see one another", a, b)
				}
				for c := range int64(len(l)) {
					if impl.Sees(l, a, b) && impl.Sees(l, b, c) && !impl.Sees(l, a, c) {
						t.Fatalf("%d sees %d, %d sees %d, but %d does not see %d", a, b, b, c, a, c)
					}
				}
			}
		}
	}
}

// What hangs on what is as it was when more is tied.
func TestSightStaysWhenMoreIsTied(t *testing.T) {
	for _, l := range sightLaces() {
		for n := 1; n < len(l); n++ {
			k := int64(n - 1)
			if impl.Below(l[:n], k) != impl.Below(l, k) || impl.Tips(l[:n], impl.Below(l, k)) != 1<<uint(k) {
				t.Fatalf("Below %d is %v of %d knots, %v of %d", k, impl.Members(impl.Below(l[:n], k)), n, impl.Members(impl.Below(l, k)), len(l))
			}
		}
	}
}

// plainTips asks of each two of the set whether the one sees the other; -1 where something below one of it lacks.
func plainTips(l []impl.Knot, s int64) int64 {
	seen := int64(0)
	for _, i := range impl.Members(s) {
		for b := range plainBelow(l, i) {
			if s>>uint(b)&1 == 0 {
				return -1
			}
			if b != i {
				seen |= 1 << uint(b)
			}
		}
	}
	return s &^ seen
}

// Sets that are drawn are closed, and have the tips, that a look at each two of them tells.
func TestClosedAndTipsOfDrawnSets(t *testing.T) {
	d := dice(11)
	closed, open := 0, 0
	for _, l := range sightLaces() {
		if len(l) == 0 {
			continue
		}
		for range 60 {
			s := int64(0)
			for range d.below(5) {
				s |= asSet(plainBelow(l, d.below(int64(len(l)))))
			}
			for range d.below(3) {
				s ^= 1 << uint(d.below(int64(len(l))))
			}
			want := plainTips(l, s)
			if impl.Closed(l, s) != (want >= 0) || impl.Tips(l, s) != want {
				t.Fatalf("of %v Closed is %v, Tips %v, not %v", impl.Members(s), impl.Closed(l, s), impl.Members(impl.Tips(l, s)), impl.Members(want))
			}
			if want >= 0 {
				closed++
			} else {
				open++
			}
		}
	}
	if closed < 200 || open < 200 {
		t.Fatalf("%d sets were closed, %d were not: the test says little", closed, open)
	}
}

func TestSightLeavesTheListAsItIs(t *testing.T) {
	lists := sightLaces()
	for _, laces := range wrongLaces() {
		lists = append(lists, laces...)
	}
	for _, list := range lists {
		l, whole := roomy(list)
		before := slices.Clone(whole)
		for _, n := range []int64{-1, 0, 1, 5, 7, 59, 60, allMixed, fullSet} {
			impl.Below(l, n)
			impl.Sees(l, n, 0)
			impl.Sees(l, 0, n)
			impl.Closed(l, n)
			impl.Tips(l, n)
		}
		if !slices.Equal(whole, before) {
			t.Fatalf("%+v was changed into %+v", before, whole)
		}
	}
}
