package tests

import (
	"math"
	"slices"
	"testing"

	"loop.example/g00418/impl"
)

// fullRounds is a lace in which each of these hands ties in each of these rounds and hangs on all of the round just before.
func fullRounds(hands, rounds int64) []impl.Knot {
	var l []impl.Knot
	before := int64(0)
	for round := int64(0); round < rounds; round++ {
		now := int64(0)
		for hand := int64(0); hand < hands; hand++ {
			now = impl.With(now, int64(len(l)))
			l = append(l, impl.Knot{Hand: hand, Round: round, From: before})
		}
		before = now
	}
	return l
}

// mixedLace has knots of round 0 late in the list, hands with two knots in a round, and threads to rounds further back.
func mixedLace() []impl.Knot {
	return []impl.Knot{
		{Hand: 0, Word: "put a 1"},
		{Hand: 1},
		{Hand: 1, Word: "other"},
		{Hand: 2},
		{Hand: 0, Round: 1, From: setOf(0, 1, 3)},
		{Hand: 3},
		{Hand: 1, Round: 1, From: setOf(0, 1, 2, 3)},
		{Hand: 3, Round: 1, From: setOf(2, 3, 5)},
		{Hand: 2, Round: 2, From: setOf(4, 6, 7)},
		{Hand: 3, Round: 2, From: setOf(0, 2, 4, 5, 6, 7), Word: "cut a"},
		{Hand: 0},
		{Hand: 2, Round: 1, From: setOf(1, 3, 5, 10)},
	}
}

func setOf(numbers ...int64) int64 {
	s := int64(0)
	for _, i := range numbers {
		s |= 1 << uint(i)
	}
	return s
}

// sixtyAtOnce is a lace of MaxKnots knots, all of round 0.
func sixtyAtOnce() []impl.Knot {
	l := make([]impl.Knot, 60)
	for i := range l {
		l[i].Hand = int64(i % 4)
	}
	return l
}

func rightLaces() [][]impl.Knot {
	return [][]impl.Knot{
		nil, {}, {{Hand: 3, Word: "x"}}, {{Hand: 2}, {Hand: 2}},
		fullRounds(3, 2), fullRounds(3, 3), fullRounds(4, 3), fullRounds(3, 19), fullRounds(4, 14),
		fullRounds(3, 20), fullRounds(4, 15), sixtyAtOnce(), sixtyAtOnce()[:59], mixedLace(),
	}
}

// wrongTies are knots that can't be tied to mixedLace, with the reason.
func wrongTies() map[string][]impl.Knot {
	wrong := map[string][]impl.Knot{
		"it is no right knot":      wrongKnots(),
		"its own number":           {{Hand: 0, Round: 1, From: setOf(0, 1, 3, 12)}, {Round: 1, From: setOf(12)}},
		"a number behind it":       {{Hand: 0, Round: 1, From: setOf(0, 1, 3, 13)}, {Round: 2, From: setOf(4, 6, 7, 59)}, {Round: 1, From: fullSet}},
		"a knot of the same round": {{Hand: 0, Round: 1, From: setOf(0, 1, 3, 4)}, {Round: 2, From: setOf(4, 6, 7, 8)}},
		"a knot of a later round":  {{Hand: 0, Round: 1, From: setOf(0, 1, 3, 8)}, {Round: 1, From: setOf(0, 1, 3, 4, 9)}},
		"two hands":                {{Round: 1, From: setOf(0, 1)}, {Round: 1, From: setOf(0, 1, 2)}, {Round: 1, From: setOf(0, 1, 2, 10)}, {Round: 2, From: setOf(4, 6)}, {Round: 2, From: setOf(4, 6, 0, 1, 3, 5)}, {Round: 3, From: setOf(8, 9)}},
		"one hand":                 {{Round: 1, From: setOf(1, 2)}, {Round: 2, From: setOf(4)}, {Round: 1, From: setOf(5)}},
		"no hand of the round":     {{Round: 3, From: setOf(4, 6, 7)}, {Round: 2, From: setOf(0, 1, 3)}, {Round: 4, From: setOf(8, 9, 4)}, {Round: 19, From: setOf(0)}},
	}
	return wrong
}

// wrongLaces are lists that are no lace, with the reason.
func wrongLaces() map[string][][]impl.Knot {
	wrong := map[string][][]impl.Knot{
		"too many knots": {append(sixtyAtOnce(), impl.Knot{}), append(fullRounds(3, 20), impl.Knot{Hand: 3}), append(fullRounds(4, 15), impl.Knot{}), make([]impl.Knot, 100000)},
	}
	for reason, knots := range wrongTies() {
		for _, k := range knots {
			wrong[reason] = append(wrong[reason], append(mixedLace(), k))
		}
	}
	for _, k := range wrongKnots() {
		wrong["one of them is no right knot"] = append(wrong["one of them is no right knot"], []impl.Knot{k}, []impl.Knot{k, {}}, append([]impl.Knot{{}, {Hand: 1}, {Hand: 2}, k}, impl.Knot{}))
	}
	wrong["out of order"] = [][]impl.Knot{
		{{Round: 1, From: 7}},
		{{Round: 1, From: setOf(1, 2, 3)}, {Hand: 0}, {Hand: 1}, {Hand: 2}},
		{{Hand: 0}, {Round: 1, From: setOf(0, 2, 3)}, {Hand: 1}, {Hand: 2}},
		{{Hand: 0}, {Hand: 1}, {Round: 1, From: setOf(0, 1, 3)}, {Hand: 2}},
		{{Hand: 0}, {Hand: 1}, {Hand: 2}, {Round: 1, From: setOf(0, 1, 2, 3)}},
	}
	backward := fullRounds(3, 2)
	slices.Reverse(backward)
	wrong["out of order"] = append(wrong["out of order"], backward)
	return wrong
}

func TestLaceOk(t *testing.T) {
	for _, l := range rightLaces() {
		for n := range len(l) + 1 {
			if !impl.LaceOk(l[:n]) {
				t.Errorf("LaceOk is false of the first %d of %+v", n, l)
			}
		}
	}
	for reason, laces := range wrongLaces() {
		for _, l := range laces {
			if impl.LaceOk(l) {
				t.Errorf("%s: LaceOk is true of %d knots, the last one %+v", reason, len(l), l[len(l)-1])
			}
		}
	}
}

func TestCanTie(t *testing.T) {
	right := []impl.Knot{
		{}, {Hand: 3, Word: "late"},
		{Hand: 0, Round: 1, From: setOf(0, 1, 3)},
		{Hand: 3, Round: 1, From: setOf(2, 5, 10)},
		{Hand: 3, Round: 1, From: setOf(0, 1, 2, 10, 5)},
		{Hand: 2, Round: 1, From: setOf(0, 1, 2, 3, 5, 10)},
		{Hand: 1, Round: 2, From: setOf(4, 6, 7)},
		{Hand: 1, Round: 2, From: setOf(4, 6, 11)},
		{Hand: 1, Round: 2, From: setOf(0, 1, 2, 3, 4, 5, 6, 7, 10, 11)},
		{Hand: 2, Round: 2, From: setOf(4, 6, 7, 10), Word: "abc"},
	}
	for _, k := range right {
		if !impl.CanTie(mixedLace(), k) {
			t.Errorf("CanTie of %+v is false", k)
		}
	}
	for reason, knots := range wrongTies() {
		for _, k := range knots {
			if impl.CanTie(mixedLace(), k) {
				t.Errorf("%s: CanTie of %+v is true", reason, k)
			}
		}
	}
	third := append(mixedLace(), impl.Knot{Hand: 1, Round: 2, From: setOf(4, 6, 7)})
	if !impl.CanTie(third, impl.Knot{Hand: 0, Round: 3, From: setOf(8, 9, 12)}) || !impl.CanTie(third, impl.Knot{Hand: 0, Round: 3, From: setOf(0, 5, 8, 9, 11, 12)}) {
		t.Error("CanTie is false of a knot that has three hands of the round just before")
	}
}

func TestCanTieAtTheEdges(t *testing.T) {
	first := impl.Knot{Hand: 1, Word: "a"}
	if !impl.CanTie(nil, first) || !impl.CanTie([]impl.Knot{}, first) {
		t.Error("a knot of round 0 can't be tied to the empty lace")
	}
	if impl.CanTie(nil, impl.Knot{Round: 1, From: 7}) || impl.CanTie(nil, impl.Knot{Round: 1, From: 1}) {
		t.Error("a knot of round 1 can be tied to the empty lace")
	}
	for _, full := range [][]impl.Knot{sixtyAtOnce(), fullRounds(3, 20), fullRounds(4, 15)} {
		for _, k := range []impl.Knot{{}, {Hand: 3}, {Round: 1, From: 7}} {
			if impl.CanTie(full, k) {
				t.Errorf("CanTie of %+v is true of %d knots", k, len(full))
			}
			if !impl.CanTie(full[:59], k) {
				t.Errorf("CanTie of %+v is false of 59 knots", k)
			}
		}
	}
	if !impl.CanTie(fullRounds(3, 19), impl.Knot{Hand: 3, Round: 19, From: setOf(54, 55, 56)}) {
		t.Error("a knot of the last round can't be tied")
	}
	if impl.CanTie(fullRounds(3, 19), impl.Knot{Hand: 3, Round: 19, From: setOf(54, 55, 53)}) {
		t.Error("a knot of the last round can be tied to two hands")
	}
}

func TestTied(t *testing.T) {
	l, at := impl.Tied(nil, impl.Knot{Hand: 2, Word: "first"})
	if at != 0 || !slices.Equal(l, []impl.Knot{{Hand: 2, Word: "first"}}) {
		t.Errorf("Tied to the empty lace is %+v, %d", l, at)
	}
	k := impl.Knot{Hand: 1, Round: 2, From: setOf(1, 4, 6, 7), Word: "if a 1 2"}
	l, at = impl.Tied(mixedLace(), k)
	if at != 12 || !slices.Equal(l, append(mixedLace(), k)) {
		t.Errorf("Tied is %+v, %d", l, at)
	}
	for n := range int64(59) {
		l, at = impl.Tied(sixtyAtOnce()[:n], impl.Knot{Hand: n % 4})
		if at != n || !slices.Equal(l, sixtyAtOnce()[:n+1]) {
			t.Errorf("Tied to %d knots is %+v, %d", n, l, at)
		}
	}
	l, at = impl.Tied(fullRounds(3, 20)[:59], fullRounds(3, 20)[59])
	if at != 59 || !slices.Equal(l, fullRounds(3, 20)) {
		t.Errorf("Tied to 59 knots is %+v, %d", l, at)
	}
}

func TestTiedWhereItCannotBe(t *testing.T) {
	for reason, knots := range wrongTies() {
		for _, k := range knots {
			if l, at := impl.Tied(mixedLace(), k); at != -1 || !slices.Equal(l, mixedLace()) {
				t.Errorf("%s: Tied of %+v is %+v, %d", reason, k, l, at)
			}
		}
	}
	for _, full := range [][]impl.Knot{sixtyAtOnce(), fullRounds(3, 20), fullRounds(4, 15)} {
		for _, k := range []impl.Knot{{}, {Hand: 3}, {Round: 1, From: 7}, {Round: 20}} {
			if l, at := impl.Tied(full, k); at != -1 || !slices.Equal(l, full) {
				t.Errorf("Tied of %+v to a full lace is %+v, %d", k, l, at)
			}
		}
	}
	if l, at := impl.Tied(nil, impl.Knot{Round: 1, From: 1}); at != -1 || len(l) != 0 {
		t.Errorf("Tied of round 1 to the empty lace is %+v, %d", l, at)
	}
}

func TestHandsOf(t *testing.T) {
	l := mixedLace()
	cases := []struct{ s, want int64 }{
		{0, 0}, {setOf(0), 1}, {setOf(11), 1}, {setOf(1, 2), 1}, {setOf(1, 2, 6), 1}, {setOf(0, 4, 10), 1},
		{setOf(0, 1), 2}, {setOf(3, 5, 7, 8, 9, 11), 2}, {setOf(0, 1, 2, 5), 3}, {setOf(4, 6, 7), 3}, {setOf(0, 1, 3, 5), 4}, {setOf(8, 9, 10, 6), 4}, {1<<12 - 1, 4},
	}
	for _, c := range cases {
		if got := impl.HandsOf(l, c.s); got != c.want {
			t.Errorf("HandsOf %v is %d, not %d", impl.Members(c.s), got, c.want)
		}
	}
	if impl.HandsOf(nil, 0) != 0 || impl.HandsOf(sixtyAtOnce(), fullSet) != 4 || impl.HandsOf(fullRounds(3, 20), fullSet) != 3 || impl.HandsOf(sixtyAtOnce(), 1<<59) != 1 {
		t.Error("HandsOf is wrong of the empty lace or of a full one")
	}
}

func TestAtRound(t *testing.T) {
	l := mixedLace()
	all := int64(1<<12 - 1)
	cases := []struct{ s, round, want int64 }{
		{all, 0, setOf(0, 1, 2, 3, 5, 10)}, {all, 1, setOf(4, 6, 7, 11)}, {all, 2, setOf(8, 9)}, {all, 3, 0}, {all, 19, 0},
		{setOf(0, 1, 4, 9), 0, setOf(0, 1)}, {setOf(0, 1, 4, 9), 1, setOf(4)}, {setOf(0, 1, 4, 9), 2, setOf(9)}, {setOf(4, 6), 0, 0}, {setOf(4, 6), 2, 0}, {0, 0, 0}, {0, 1, 0},
	}
	for _, c := range cases {
		if got := impl.AtRound(l, c.s, c.round); got != c.want {
			t.Errorf("AtRound %d of %v is %v, not %v", c.round, impl.Members(c.s), impl.Members(got), impl.Members(c.want))
		}
	}
	for _, round := range []int64{-1, 3, 20, 21, 64, 1 << 32, math.MinInt64, math.MaxInt64} {
		if got := impl.AtRound(l, all, round); got != 0 {
			t.Errorf("AtRound %d, which no knot has, is %d", round, got)
		}
	}
	if impl.AtRound(nil, 0, 0) != 0 || impl.AtRound(sixtyAtOnce(), fullSet, 0) != fullSet || impl.AtRound(fullRounds(3, 20), fullSet, 19) != 7<<57 {
		t.Error("AtRound is wrong of the empty lace or of a full one")
	}
}

func TestSetsThatAreNotOfTheLace(t *testing.T) {
	for _, l := range rightLaces() {
		wrong := slices.Clone(wrongSets)
		for i := len(l); i < 60; i++ {
			wrong = append(wrong, 1<<uint(i), 1<<uint(i)|1, fullSet)
		}
		for _, s := range wrong {
			if got := impl.HandsOf(l, s); got != -1 {
				t.Errorf("HandsOf %d of %d knots is %d", s, len(l), got)
			}
			for _, round := range []int64{-1, 0, 1, 19, 20} {
				if got := impl.AtRound(l, s, round); got != -1 {
					t.Errorf("AtRound %d of %d of %d knots is %d", round, s, len(l), got)
				}
			}
		}
	}
}

func TestFixedAnswersOfWhatIsNoLace(t *testing.T) {
	knots := []impl.Knot{{}, {Hand: 1, Word: "a"}, {Round: 1, From: 7}, {Round: 1, From: 0}, {Hand: -1}}
	for reason, laces := range wrongLaces() {
		for _, l := range laces {
			for _, k := range knots {
				if impl.CanTie(l, k) {
					t.Errorf("%s: CanTie of %+v is true", reason, k)
				}
				if got, at := impl.Tied(l, k); at != -1 || len(got) != 0 {
					t.Errorf("%s: Tied of %+v is %+v, %d", reason, k, got, at)
				}
			}
			for _, s := range []int64{0, 1, 7, fullSet, -1} {
				if impl.HandsOf(l, s) != -1 || impl.AtRound(l, s, 0) != -1 {
					t.Errorf("%s: HandsOf %d is %d, AtRound 0 is %d", reason, s, impl.HandsOf(l, s), impl.AtRound(l, s, 0))
				}
			}
		}
	}
}

// plainLace says of a list what the first words of chapter 3 say, word by word.
func plainLace(l []impl.Knot) bool {
	if len(l) > 60 {
		return false
	}
	for at, k := range l {
		if !impl.KnotOk(k) {
			return false
		}
		hands := map[int64]int{}
		for _, i := range impl.Members(k.From) {
			if i >= int64(at) || l[i].Round >= k.Round {
				return false
			}
			if l[i].Round == k.Round-1 {
				hands[l[i].Hand]++
			}
		}
		if k.Round > 0 && len(hands) < 3 {
			return false
		}
	}
	return true
}

// dice is the same row of numbers at each run.
type dice uint64

func (d *dice) below(n int64) int64 {
	*d = *d*6364136223846793005 + 1442695040888963407
	return int64(uint64(*d)>>33) % n
}

// anyKnot is a knot that often can be tied to l: its threads are drawn from the knots of l, most of them of lesser rounds.
func (d *dice) anyKnot(l []impl.Knot) impl.Knot {
	k := impl.Knot{Hand: d.below(4), Word: []string{"", "a", "put a 1"}[d.below(3)]}
	if d.below(4) == 0 {
		return k
	}
	k.Round = 1 + d.below(6)
	for i, x := range l {
		if x.Round == k.Round-1 && d.below(5) > 0 || x.Round < k.Round && d.below(6) == 0 || d.below(200) == 0 {
			k.From = impl.With(k.From, int64(i))
		}
	}
	if d.below(30) == 0 {
		k.From = impl.With(k.From, d.below(60))
	}
	return k
}

// Promise 3: what is tied is at the end, and all else as it was.
func TestWhatIsTiedIsAtTheEnd(t *testing.T) {
	d := dice(3)
	for range 60 {
		l := []impl.Knot{}
		tied, refused := 0, 0
		for range 250 {
			k := d.anyKnot(l)
			before := slices.Clone(l)
			with := append(slices.Clone(l), k)
			can := impl.CanTie(l, k)
			if can != plainLace(with) || can != impl.LaceOk(with) {
				t.Fatalf("CanTie of %+v to %+v is %v, LaceOk of both %v", k, l, can, impl.LaceOk(with))
			}
			got, at := impl.Tied(l, k)
			if !slices.Equal(l, before) {
				t.Fatalf("Tied changed %+v into %+v", before, l)
			}
			if !can {
				refused++
				if at != -1 || !slices.Equal(got, before) {
					t.Fatalf("Tied of %+v, which can't be tied to %+v, is %+v, %d", k, before, got, at)
				}
				continue
			}
			tied++
			if at != int64(len(before)) || len(got) != len(before)+1 || got[at] != k || !slices.Equal(got[:at], before) || !impl.LaceOk(got) {
				t.Fatalf("Tied of %+v to %+v is %+v, %d", k, before, got, at)
			}
			l = got
		}
		if tied < 20 || refused < 20 {
			t.Fatalf("%d were tied, %d refused: the test says little", tied, refused)
		}
	}
}

// Each list that differs from a lace in one field of one knot is a lace only where the words of the chapter say so.
func TestLaceOkOfChangedLaces(t *testing.T) {
	for _, l := range [][]impl.Knot{fullRounds(3, 3), fullRounds(4, 2), mixedLace()} {
		for i := range l {
			for bit := range int64(len(l) + 2) {
				changed := slices.Clone(l)
				changed[i].From ^= 1 << uint(bit)
				if impl.LaceOk(changed) != plainLace(changed) {
					t.Errorf("LaceOk of %+v is %v", changed, impl.LaceOk(changed))
				}
			}
			for n := int64(-1); n <= 4; n++ {
				otherRound, otherHand := slices.Clone(l), slices.Clone(l)
				otherRound[i].Round = n
				otherHand[i].Hand = n
				if impl.LaceOk(otherRound) != plainLace(otherRound) || impl.LaceOk(otherHand) != plainLace(otherHand) {
					t.Errorf("with round or hand %d at %d: LaceOk is %v, %v", n, i, impl.LaceOk(otherRound), impl.LaceOk(otherHand))
				}
			}
			without := slices.Delete(slices.Clone(l), i, i+1)
			if impl.LaceOk(without) != plainLace(without) {
				t.Errorf("LaceOk of %+v is %v", without, impl.LaceOk(without))
			}
		}
	}
}

// HandsOf and AtRound tell the same as a look at each knot of the set.
func TestSetsOfALace(t *testing.T) {
	d := dice(7)
	for _, l := range rightLaces() {
		for range 40 {
			s := int64(0)
			hands := map[int64]int{}
			rounds := map[int64]int64{}
			for i, k := range l {
				if d.below(3) == 0 {
					s = impl.With(s, int64(i))
					hands[k.Hand]++
					rounds[k.Round] = impl.With(rounds[k.Round], int64(i))
				}
			}
			if got := impl.HandsOf(l, s); got != int64(len(hands)) {
				t.Fatalf("HandsOf %v is %d, not %d", impl.Members(s), got, len(hands))
			}
			for round := int64(0); round <= 20; round++ {
				if got := impl.AtRound(l, s, round); got != rounds[round] {
					t.Fatalf("AtRound %d of %v is %v, not %v", round, impl.Members(s), impl.Members(got), impl.Members(rounds[round]))
				}
			}
		}
	}
}

// roomy is the same list with room behind it, which holds knots that nobody may write over.
func roomy(l []impl.Knot) ([]impl.Knot, []impl.Knot) {
	whole := slices.Concat(l, []impl.Knot{{Hand: 7, Word: "KEEP"}, {Hand: 8, Word: "KEEP"}})
	return whole[:len(l)], whole
}

func TestArgumentsOfALaceStay(t *testing.T) {
	lists := rightLaces()
	for _, laces := range wrongLaces() {
		lists = append(lists, laces...)
	}
	for _, list := range lists {
		l, whole := roomy(list)
		before := slices.Clone(whole)
		for _, k := range []impl.Knot{{}, {Hand: 3, Word: "a"}, {Round: 1, From: 7}, {Hand: -1}} {
			impl.LaceOk(l)
			impl.CanTie(l, k)
			impl.Tied(l, k)
			impl.HandsOf(l, 1)
			impl.AtRound(l, 1, 0)
		}
		if !slices.Equal(whole, before) {
			t.Fatalf("%+v was changed into %+v", before, whole)
		}
	}
}

func TestTiedIsNewMemory(t *testing.T) {
	for _, k := range []impl.Knot{{Hand: 3, Word: "a"}, {Round: 1, From: 7}, {Hand: -1}, {Round: 1}} {
		for _, list := range rightLaces() {
			l, whole := roomy(list)
			before := slices.Clone(whole)
			first, at := impl.Tied(l, k)
			second, _ := impl.Tied(l, k)
			want := slices.Clone(second)
			for i := range first {
				first[i] = impl.Knot{Hand: 9, Word: "OVER"}
			}
			first = first[:cap(first)]
			for i := range first {
				first[i] = impl.Knot{Hand: 9, Word: "OVER"}
			}
			if !slices.Equal(whole, before) || !slices.Equal(second, want) {
				t.Fatalf("what Tied answered of %+v (%d) was written into, and changed something else", k, at)
			}
			for i := range l {
				l[i].Word = "OVER"
			}
			if !slices.Equal(second, want) {
				t.Fatalf("the list was written into, and changed what Tied had answered of %+v", k)
			}
		}
	}
}
