package tests

import (
	"math"
	"slices"
	"testing"

	"loop.example/g00418/impl"
)

// sealedLate has 0 sealed by none of round 2, by two hands of round 3, and by all of rounds 4 and 5.
func sealedLate() []impl.Knot {
	l := []impl.Knot{
		{Hand: 0}, {Hand: 1}, {Hand: 2}, {Hand: 3},
		{Hand: 0, Round: 1, From: setOf(0, 1, 2)},
		{Hand: 1, Round: 1, From: setOf(1, 2, 3)},
		{Hand: 2, Round: 1, From: setOf(1, 2, 3)},
		{Hand: 3, Round: 1, From: setOf(1, 2, 3)},
		{Hand: 1, Round: 2, From: setOf(5, 6, 7)},
		{Hand: 2, Round: 2, From: setOf(5, 6, 7)},
		{Hand: 3, Round: 2, From: setOf(4, 5, 6)},
		{Hand: 0, Round: 2, From: setOf(4, 5, 6)},
	}
	for round := int64(3); round < 6; round++ {
		before := int64(15) << uint(len(l)-4)
		for hand := range int64(4) {
			l = append(l, impl.Knot{Hand: hand, Round: round, From: before})
		}
	}
	return l
}

// leaderLate has the leader of wave 0, which is 18, behind the one of wave 1, which is 9.
func leaderLate() []impl.Knot {
	l := fullRounds(3, 6)
	for i := range l {
		l[i].Hand++
	}
	l = append(l, impl.Knot{Hand: 0})
	for _, from := range []int64{setOf(1, 2, 18), setOf(19, 20, 21)} {
		for hand := range int64(3) {
			l = append(l, impl.Knot{Hand: hand + 1, Round: l[len(l)-1].Round + 1 - min(hand, 1), From: from})
		}
	}
	return l
}

// twoLeaders has 0 and 3 of one hand in round 0: three hands saw the one alone and the other one alone, then those of round 2 saw both.
func twoLeaders() []impl.Knot {
	l := []impl.Knot{{Hand: 0}, {Hand: 1}, {Hand: 2}, {Hand: 0}}
	for _, from := range []int64{setOf(0, 1, 2), setOf(1, 2, 3)} {
		for hand := range int64(3) {
			l = append(l, impl.Knot{Hand: hand, Round: 1, From: from})
		}
	}
	for hand := range int64(3) {
		l = append(l, impl.Knot{Hand: hand, Round: 2, From: setOf(4, 5, 6, 7, 8, 9)})
	}
	return l
}

// oneHandTwice has of round 2 three knots of two hands alone.
func oneHandTwice() []impl.Knot {
	return append(fullRounds(3, 3)[:8], impl.Knot{Hand: 1, Round: 2, From: setOf(3, 4, 5), Word: "again"})
}

// risingLace goes up round by round, until it has no room: three hands or all four tie on some of the round before and on what they tied last, but bad, which may tie twice, and late.
func (d *dice) risingLace(bad int64) []impl.Knot {
	var l []impl.Knot
	last := []int64{0, 0, 0, 0}
	tie := func(hand, round int64) {
		for range 30 {
			k := impl.Knot{Hand: hand, Round: round}
			for i, x := range l {
				if x.Round == round-1 && d.below(6) > 0 || x.Round < round-1 && d.below(40) == 0 {
					k.From |= 1 << uint(i)
				}
			}
			if hand != bad && round > 0 {
				k.From |= last[hand]
			}
			if impl.CanTie(l, k) {
				last[hand] = 1 << uint(len(l))
				l = append(l, k)
				return
			}
		}
	}
	for round := range int64(20) {
		first, without := d.below(4), d.below(8)
		for n := range int64(4) {
			if hand := (first + n) % 4; hand != without {
				tie(hand, round)
			}
		}
		if bad >= 0 && d.below(2) == 0 {
			tie(bad, round-d.below(min(round+1, 3)))
		}
	}
	return l
}

// wildLace is a rising lace all over again: each hand ties all it tied once more, some of it on what was tied for the second time.
func (d *dice) wildLace() []impl.Knot {
	l := d.risingLace(-1)[:30]
	for i, k := range slices.Clone(l) {
		for j := range i {
			if d.below(24) > 0 && k.From>>uint(j)&1 == 1 {
				k.From = k.From&^(1<<uint(j)) | 1<<uint(30+j)
			}
		}
		l = append(l, k)
	}
	return l
}

func firmLaces() [][]impl.Knot {
	laces := append(waveLaces(), handByHand(), sealedInSpite(), sealedLate(), leaderLate(), twoLeaders(), oneHandTwice())
	d := dice(9)
	for n := range int64(10) {
		laces = append(laces, d.risingLace(n%5-1))
	}
	for range 4 {
		laces = append(laces, d.wildLace())
	}
	return laces
}

func wholeOf(l []impl.Knot) int64 { return 1<<uint(len(l)) - 1 }

// closedSet is all that is below some drawn knots, a few of them or many.
func (d *dice) closedSet(l []impl.Knot) int64 {
	s := int64(0)
	if len(l) == 0 {
		return s
	}
	for range 1 + d.below(6) {
		s |= impl.Below(l, d.below(int64(len(l))))
	}
	return s
}

func plainClosed(l []impl.Knot, s int64) bool {
	for i, k := range l {
		if s>>uint(i)&1 == 1 && k.From&^s != 0 {
			return false
		}
	}
	return s>>uint(len(l)) == 0
}

// plainFirm says what the words of chapter 9 say; sealers is plainSealers of the lace.
func plainFirm(l []impl.Knot, sealers []int64, coins []int64, s, k int64) bool {
	if !plainClosed(l, s) || s>>uint(k)&1 == 0 || !plainLeads(coins, l[k]) {
		return false
	}
	hands := map[int64]int{}
	for i, x := range l {
		if s>>uint(i)&1 == 1 && x.Round == 3*(l[k].Round/3)+2 && sealers[k]>>uint(i)&1 == 1 {
			hands[x.Hand]++
		}
	}
	return len(hands) >= 3
}

func plainFirmOnes(l []impl.Knot, sealers []int64, coins []int64, s int64) []int64 {
	var firm []int64
	for k := range l {
		if plainFirm(l, sealers, coins, s, int64(k)) {
			firm = append(firm, int64(k))
		}
	}
	return firm
}

// plainLast is the one of the greatest round, of some of one round the least.
func plainLast(l []impl.Knot, firm []int64) int64 {
	last := int64(-1)
	for _, k := range firm {
		if last == -1 || l[k].Round > l[last].Round || l[k].Round == l[last].Round && k < last {
			last = k
		}
	}
	return last
}

// sealingHands is how many hands those of the set of that round have that seal k.
func sealingHands(l []impl.Knot, s, round, k int64) int64 {
	return impl.HandsOf(l, impl.Sealers(l, impl.AtRound(l, s, round), k))
}

func TestFirm(t *testing.T) {
	three, four := fullRounds(3, 20), fullRounds(4, 15)
	cases := []struct {
		why   string
		l     []impl.Knot
		coins []int64
		s, k  int64
		want  bool
	}{
		{"three hands of the last round seal", fullRounds(3, 3), nil, 511, 0, true},
		{"four hands do", fullRounds(4, 3), nil, 1<<12 - 1, 0, true},
		{"three of four hands are in the set", fullRounds(4, 3), nil, 1<<11 - 1, 0, true},
		{"the last three of four hands are", fullRounds(4, 3), nil, 1<<12 - 1 - 1<<8, 0, true},
		{"two hands do", fullRounds(3, 3)[:8], nil, 255, 0, false},
		{"one hand does", fullRounds(3, 3)[:7], nil, 127, 0, false},
		{"three knots of two hands do", oneHandTwice(), nil, 511, 0, false},
		{"the third hand does not, but one of a later wave does", handByHand(), nil, 1<<13 - 1, 0, false},
		{"of three hands' sealers one is in the lace and not in the set", fullRounds(3, 3), nil, 255, 0, false},
		{"another one is not in the set", fullRounds(3, 3), nil, 511 - 64, 0, false},
		{"of four hands' sealers two are not in the set", fullRounds(4, 3), nil, 1<<10 - 1, 0, false},
		{"no sealer is in the set", fullRounds(3, 3), nil, 63, 0, false},
		{"nothing of the second round is in the set", fullRounds(3, 3), nil, 7, 0, false},
		{"it alone is in the set", fullRounds(3, 3), nil, 1, 0, false},
		{"only knots of a later wave seal", sealedLate(), nil, 1<<24 - 1, 0, false},
		{"another one of that lace leads", sealedLate(), []int64{1}, 1<<24 - 1, 1, true},
		{"the leader of the next wave", sealedLate(), nil, 1<<24 - 1, 13, true},
		{"the leader of the next wave, whose last round lacks a third hand", sealedLate(), nil, 1<<22 - 1, 13, false},
		{"wave 1, in a set without its last round", three, nil, 1<<15 - 1, 10, false},
		{"wave 1, in a set with its last round", three, nil, 1<<18 - 1, 10, true},
		{"wave 2", three, nil, fullSet, 20, true},
		{"wave 4", three, nil, fullSet, 36, true},
		{"wave 5, of the last coin", three, []int64{0, 0, 0, 0, 0, 2}, fullSet, 47, true},
		{"wave 5, without its last knot", three, nil, 1<<53 - 1, 46, false},
		{"wave 5, with its last knot", three, nil, 1<<54 - 1, 46, true},
		{"the last wave, whose last round is past MaxRound", three, nil, fullSet, 56, false},
		{"the last wave, of a lace that ends with it", fourthHandLate(), nil, fullSet, 58, false},
		{"wave 4, of a lace that ends with it", four, nil, fullSet, 48, true},
		{"wave 4, of a lace that ends with it, by two hands", four, nil, fullSet &^ setOf(58, 59), 48, false},
		{"three hands seal, and another hand leads", fullRounds(3, 3), nil, 511, 1, false},
		{"three hands seal, and another hand leads by a coin", fullRounds(3, 3), []int64{2}, 511, 0, false},
		{"three hands seal, and it leads by a coin", fullRounds(3, 3), []int64{2}, 511, 2, true},
		{"three hands seal, and it is the hand that leads, of a second round", fullRounds(3, 6), nil, 1<<18 - 1, 3, false},
		{"three hands seal, and it is the hand that leads, of a last round", fullRounds(3, 6), nil, 1<<18 - 1, 6, false},
		{"none can seal one of the last round", fullRounds(3, 3), nil, 511, 6, false},
		{"a leader that is not in the set", append(fullRounds(3, 3), impl.Knot{Hand: 0}), nil, 511, 9, false},
		{"a leader that is not in the set, which has three hands of each round", leaderLate(), nil, 1<<18 - 1, 18, false},
		{"a leader behind the one of the next wave", leaderLate(), nil, 1<<25 - 1, 18, true},
		{"the leader of the next wave ahead of it", leaderLate(), nil, 1<<25 - 1, 9, true},
		{"two leaders of one hand in one round, the one", twoLeaders(), nil, 1<<13 - 1, 0, true},
		{"two leaders of one hand in one round, the other one", twoLeaders(), nil, 1<<13 - 1, 3, true},
		{"one that has a double, sealed by two hands of round 2", sealedInSpite(), nil, 1<<17 - 1, 0, false},
		{"its double, which none seals", sealedInSpite(), nil, 1<<17 - 1, 3, false},
	}
	for _, c := range cases {
		if !impl.LaceOk(c.l) || !impl.Closed(c.l, c.s) || c.k >= int64(len(c.l)) {
			t.Fatalf("%s: the lace or the set is not what the test is about", c.why)
		}
		if got := impl.Firm(c.l, c.coins, c.s, c.k); got != c.want {
			t.Errorf("%s: Firm of %d in %v by %v is %v", c.why, c.k, impl.Members(c.s), c.coins, got)
		}
		if got := slices.Contains(impl.FirmOnes(c.l, c.coins, c.s), c.k); got != c.want {
			t.Errorf("%s: FirmOnes is %v", c.why, impl.FirmOnes(c.l, c.coins, c.s))
		}
	}
}

// The laces of TestFirm are sealed as its words say.
func TestFirmAsksTheLastRoundOfTheWaveAlone(t *testing.T) {
	cases := []struct {
		why                  string
		l                    []impl.Knot
		k, last, later, want int64
	}{
		{"three hands of its wave", fullRounds(3, 3), 0, 2, 3, 3},
		{"two hands of its wave, a third one of the next wave", handByHand(), 0, 2, 3, 2},
		{"three knots of two hands", oneHandTwice(), 0, 2, 3, 2},
		{"no hand of its wave, four of the next wave's last round", sealedLate(), 0, 2, 5, 0},
	}
	for _, c := range cases {
		whole := wholeOf(c.l)
		if got := sealingHands(c.l, whole, c.last, c.k); got != c.want {
			t.Fatalf("%s: %d hands seal", c.why, got)
		}
		if got := impl.Firm(c.l, nil, whole, c.k); got != (c.want >= 3) {
			t.Errorf("%s: Firm is %v", c.why, got)
		}
		// A knot of the second round sees none beside k that sees k, so it never seals it.
		if got := impl.Sealers(c.l, impl.AtRound(c.l, whole, c.last-1), c.k); got != 0 {
			t.Errorf("%s: %v of the second round seal", c.why, impl.Members(got))
		}
	}
	if sealingHands(sealedLate(), 1<<24-1, 3, 0) != 2 || sealingHands(sealedLate(), 1<<24-1, 4, 0) != 4 || sealingHands(sealedLate(), 1<<24-1, 5, 0) != 4 || sealingHands(handByHand(), 1<<13-1, 3, 0) != 1 {
		t.Error("those of the later wave do not seal as the test is about")
	}
}

func TestFirmOnesAndLastFirm(t *testing.T) {
	three, four := fullRounds(3, 20), fullRounds(4, 15)
	two, late := twoLeaders(), leaderLate()
	cases := []struct {
		why   string
		l     []impl.Knot
		coins []int64
		s     int64
		want  []int64
		last  int64
	}{
		{"the empty lace", nil, nil, 0, nil, -1},
		{"the empty lace, not nil", []impl.Knot{}, []int64{}, 0, nil, -1},
		{"the empty set", three, nil, 0, nil, -1},
		{"a knot alone, which leads", []impl.Knot{{Hand: 0}}, nil, 1, nil, -1},
		{"sixty of one round", sixtyAtOnce(), nil, fullSet, nil, -1},
		{"two rounds", fullRounds(4, 2), nil, 255, nil, -1},
		{"a set without one that is firm", three, nil, 255, nil, -1},
		{"a lace whose first leader is sealed late", sealedLate(), nil, 1<<20 - 1, nil, -1},
		{"a lace whose last wave's leader alone is firm", sealedLate(), nil, 1<<24 - 1, []int64{13}, 13},
		{"one wave", three, nil, 511, []int64{0}, 0},
		{"one wave and all but one of the next", three, nil, 1<<17 - 1, []int64{0}, 0},
		{"two waves", three, nil, 1<<18 - 1, []int64{0, 10}, 10},
		{"all waves, where no hand 3 ties", three, nil, fullSet, []int64{0, 10, 20, 36, 46}, 46},
		{"all waves of one hand", three, []int64{1, 1, 1, 1, 1, 1}, fullSet, []int64{1, 10, 19, 28, 37, 46}, 46},
		{"all waves, where the last ones' hand does not tie", three, []int64{2, 2, 2, 3, 3, 3}, fullSet, []int64{2, 11, 20}, 20},
		{"all waves, where the hand of none ties", three, []int64{3, 3, 3, 3, 3, 3}, fullSet, nil, -1},
		{"four hands", four, nil, fullSet, []int64{0, 13, 26, 39, 48}, 48},
		{"four hands, a part", four, nil, 1<<36 - 1, []int64{0, 13, 26}, 26},
		{"four hands, the last knot of that part and its round's others not in it", four, nil, 1<<34 - 1, []int64{0, 13}, 13},
		{"the greatest round is not the greatest number", late, nil, 1<<25 - 1, []int64{9, 18}, 9},
		{"the late one alone", late, nil, impl.Below(late, 22) | impl.Below(late, 23) | impl.Below(late, 24), []int64{18}, 18},
		{"the greatest round alone", late, nil, 1<<18 - 1, []int64{9}, 9},
		{"two of one round", two, nil, 1<<13 - 1, []int64{0, 3}, 0},
		{"two of one round, and none of them led by the coin", two, []int64{1}, 1<<13 - 1, []int64{1}, 1},
		{"two of one round, by two hands", two, nil, 1<<12 - 1, nil, -1},
	}
	for _, c := range cases {
		if !impl.LaceOk(c.l) || !impl.Closed(c.l, c.s) {
			t.Fatalf("%s: the lace or the set is not what the test is about", c.why)
		}
		if got := impl.FirmOnes(c.l, c.coins, c.s); !slices.Equal(got, c.want) {
			t.Errorf("%s: FirmOnes by %v is %v, not %v", c.why, c.coins, got, c.want)
		}
		if got := impl.LastFirm(c.l, c.coins, c.s); got != c.last {
			t.Errorf("%s: LastFirm by %v is %d, not %d", c.why, c.coins, got, c.last)
		}
	}
}

// Of two leaders of one round the one may be firm and the other one not, whichever is the least.
func TestFirmOfOneOfTwoLeaders(t *testing.T) {
	for _, c := range []struct{ from, want int64 }{{setOf(4, 5, 6), 0}, {setOf(7, 8, 9), 3}} {
		l := twoLeaders()
		for k := 10; k < 13; k++ {
			l[k].From = c.from
		}
		if got := impl.FirmOnes(l, nil, 1<<13-1); !impl.LaceOk(l) || !slices.Equal(got, []int64{c.want}) {
			t.Errorf("where those of round 2 see %v, FirmOnes is %v", impl.Members(c.from), got)
		}
		if got := impl.LastFirm(l, nil, 1<<13-1); got != c.want {
			t.Errorf("where those of round 2 see %v, LastFirm is %d", impl.Members(c.from), got)
		}
	}
}

func TestFirmInSetsThatAreNotClosed(t *testing.T) {
	three, late := fullRounds(3, 6), leaderLate()
	cases := []struct {
		why  string
		l    []impl.Knot
		s, k int64
	}{
		{"it and its sealers without what is between", three, setOf(0, 6, 7, 8), 0},
		{"all but one of round 0 that does not lead", three, 511 - 2, 0},
		{"all but one of round 1", three, 511 - 8, 0},
		{"all but it", three, 511 - 1, 0},
		{"its sealers alone", three, setOf(6, 7, 8), 0},
		{"wave 1 without wave 0", three, 1<<18 - 1<<9, 10},
		{"wave 1 without one of wave 0", three, 1<<18 - 2, 10},
		{"both leaders and all sealers, one below another one is not in it", late, 1<<25 - 1 - 1<<12, 18},
		{"all but one that only the wave of the other leader sees", late, 1<<25 - 1 - 1<<3, 18},
	}
	for _, c := range cases {
		if impl.Closed(c.l, c.s) {
			t.Fatalf("%s: the set is not what the test is about", c.why)
		}
		if impl.Firm(c.l, nil, c.s, c.k) {
			t.Errorf("%s: Firm of %d is true", c.why, c.k)
		}
		if got := impl.FirmOnes(c.l, nil, c.s); len(got) != 0 {
			t.Errorf("%s: FirmOnes is %v", c.why, got)
		}
		if got := impl.LastFirm(c.l, nil, c.s); got != -1 {
			t.Errorf("%s: LastFirm is %d", c.why, got)
		}
	}
}

func TestFirmInSetsThatAreNotOfTheLace(t *testing.T) {
	for _, l := range firmLaces() {
		wrong := append(slices.Clone(wrongSets), -1<<59, -1<<60)
		for i := len(l); i < 60; i += 5 {
			wrong = append(wrong, 1<<uint(i), 1<<uint(i)|wholeOf(l), fullSet)
		}
		for _, s := range wrong {
			for _, k := range []int64{0, 10, int64(len(l)) - 1, -1, 60} {
				if impl.Firm(l, nil, s, k) {
					t.Errorf("Firm of %d of %d knots in %d is true", k, len(l), s)
				}
			}
			if got := impl.FirmOnes(l, nil, s); len(got) != 0 {
				t.Errorf("FirmOnes of %d knots in %d is %v", len(l), s, got)
			}
			if got := impl.LastFirm(l, nil, s); got != -1 {
				t.Errorf("LastFirm of %d knots in %d is %d", len(l), s, got)
			}
		}
	}
}

func TestFirmOfNumbersThatAreNoKnot(t *testing.T) {
	for _, l := range firmLaces() {
		wrong := slices.Concat(wrongMembers, []int64{int64(len(l)), math.MinInt64, math.MaxInt64, -1 << 32, 1<<32 + 10})
		for i := int64(len(l)); i < 60; i += 9 {
			wrong = append(wrong, i, 59)
		}
		for _, k := range wrong {
			for first := range int64(4) {
				if impl.Firm(l, []int64{first}, wholeOf(l), k) || impl.Firm(l, nil, 0, k) {
					t.Errorf("of %d knots %d, which is none, is firm", len(l), k)
				}
			}
		}
	}
}

func TestFirmOfWhatIsNoLace(t *testing.T) {
	lists := wrongLaces()
	// What is firm in a lace, and would be where nobody looked whether it is one.
	lists["a wrong knot behind one that is firm"] = [][]impl.Knot{append(fullRounds(3, 4), impl.Knot{Hand: 4}), append(fullRounds(3, 20), impl.Knot{}), append(fullRounds(4, 4), impl.Knot{Round: 1})}
	for reason, laces := range lists {
		for _, l := range laces {
			for _, s := range []int64{0, 1, 7, 511, 1<<12 - 1, 1<<16 - 1, fullSet, -1} {
				for _, k := range []int64{-1, 0, 1, 2, 5, 10, int64(len(l)) - 1, int64(len(l)), 60} {
					if impl.Firm(l, nil, s, k) {
						t.Errorf("%s: Firm of %d in %d is true", reason, k, s)
					}
				}
				if got := impl.FirmOnes(l, nil, s); len(got) != 0 {
					t.Errorf("%s: FirmOnes in %d is %v", reason, s, got)
				}
				if got := impl.LastFirm(l, nil, s); got != -1 {
					t.Errorf("%s: LastFirm in %d is %d", reason, s, got)
				}
			}
		}
	}
}

// A wrong coin of one wave takes what is firm from all others, too.
func TestFirmByCoinsThatAreNone(t *testing.T) {
	l := fullRounds(4, 7)
	for reason, lists := range wrongCoins() {
		for _, coins := range lists {
			for _, s := range []int64{1<<28 - 1, 1<<12 - 1, 0, 8} {
				for _, k := range []int64{-1, 0, 1, 2, 3, 12, 13, 14, 15, 28} {
					if impl.Firm(l, coins, s, k) {
						t.Errorf("%s: Firm of %d by %d coins is true", reason, k, len(coins))
					}
				}
				if got := impl.FirmOnes(l, coins, s); len(got) != 0 {
					t.Errorf("%s: FirmOnes by %d coins is %v", reason, len(coins), got)
				}
				if got := impl.LastFirm(l, coins, s); got != -1 {
					t.Errorf("%s: LastFirm by %d coins is %d", reason, len(coins), got)
				}
			}
		}
	}
}

// Promise 9: what is Firm stays Firm in a greater set.
func TestWhatIsFirmStaysFirmInAGreaterSet(t *testing.T) {
	d := dice(19)
	stayed, more, later := 0, 0, 0
	for n, l := range firmLaces() {
		for try := range 24 {
			coins := someCoins()[(n+7*try)%len(someCoins())]
			lesser := d.closedSet(l)
			greater := lesser | d.closedSet(l)
			before, after := impl.FirmOnes(l, coins, lesser), impl.FirmOnes(l, coins, greater)
			for _, k := range before {
				if !slices.Contains(after, k) || !impl.Firm(l, coins, greater, k) {
					t.Fatalf("by %v %d is firm in %v and not in %v", coins, k, impl.Members(lesser), impl.Members(greater))
				}
				if greater != lesser {
					stayed++
				}
			}
			first, last := impl.LastFirm(l, coins, lesser), impl.LastFirm(l, coins, greater)
			if first != -1 && (last == -1 || l[last].Round < l[first].Round) {
				t.Fatalf("by %v LastFirm is %d in %v, %d in %v", coins, first, impl.Members(lesser), last, impl.Members(greater))
			}
			if len(after) > len(before) {
				more++
			}
			if first != -1 && first != last {
				later++
			}
		}
	}
	if stayed < 300 || more < 100 || later < 50 {
		t.Fatalf("%d stayed firm in a greater set, %d of which had more, %d another last one: the test says little", stayed, more, later)
	}
}

// Promise 9, knot by knot: the sets of a hand that takes one knot after the other.
func TestWhatIsFirmStaysFirmKnotByKnot(t *testing.T) {
	grown := 0
	for _, l := range firmLaces() {
		for _, coins := range [][]int64{nil, {2, 0}, {3, 3, 0, 1, 2}} {
			before := []int64{}
			for n := range len(l) + 1 {
				s := int64(1)<<uint(n) - 1
				now := impl.FirmOnes(l, coins, s)
				for _, k := range before {
					if !slices.Contains(now, k) {
						t.Fatalf("by %v %d is firm in the first %d knots and not in %d", coins, k, n-1, n)
					}
				}
				// All else that there is has no say about what is in the set.
				if short := impl.FirmOnes(l[:n], coins, s); !slices.Equal(short, now) {
					t.Fatalf("FirmOnes of the first %d knots is %v, where there are %d in all it is %v", n, short, len(l), now)
				}
				grown += len(now) - len(before)
				before = now
			}
		}
	}
	if grown < 150 {
		t.Fatalf("%d became firm: the test says little", grown)
	}
}

// Firm, FirmOnes and LastFirm are what a plain look at all that seal tells, and they tell the same.
func TestFirmIsWhatTheWordsSay(t *testing.T) {
	d := dice(29)
	count := make([]int, 8)
	unfirm, notClosed, twice := 0, 0, 0
	for n, l := range firmLaces() {
		sealers := plainSealers(l)
		for try := range 16 {
			coins := someCoins()[(n+5*try)%len(someCoins())]
			s := d.closedSet(l)
			if try == 0 {
				s = wholeOf(l)
			}
			if try%5 == 4 && len(l) > 0 {
				s &^= 1 << uint(d.below(int64(len(l))))
			}
			want := plainFirmOnes(l, sealers, coins, s)
			if got := impl.FirmOnes(l, coins, s); !slices.Equal(got, want) {
				t.Fatalf("FirmOnes in %v by %v is %v, not %v", impl.Members(s), coins, got, want)
			}
			if got := impl.LastFirm(l, coins, s); got != plainLast(l, want) {
				t.Fatalf("LastFirm in %v by %v is %d, of %v", impl.Members(s), coins, got, want)
			}
			for k := int64(try % 3); k < int64(len(l)); k += 3 {
				got := impl.Firm(l, coins, s, k)
				if got != slices.Contains(want, k) {
					t.Fatalf("Firm of %d in %v by %v is %v", k, impl.Members(s), coins, got)
				}
				if !got && plainLeads(coins, l[k]) {
					unfirm++
				}
			}
			for i := 1; i < len(want); i++ {
				if l[want[i-1]].Round >= l[want[i]].Round {
					twice++
				}
			}
			if !plainClosed(l, s) {
				notClosed++
			}
			count[len(want)]++
		}
	}
	if count[0] < 100 || count[1] < 50 || count[2] < 20 || count[3] < 20 || count[4]+count[5]+count[6] < 20 || unfirm < 500 || notClosed < 50 || twice < 5 {
		t.Fatalf("as many sets had so many that are firm: %v; %d lead and are not, %d sets were not closed, %d rose by number and not by round: the test says little", count, unfirm, notClosed, twice)
	}
}

// Where one hand alone is bad, no two that are doubled are both firm.
func TestOfTwoThatAreDoubledOneIsFirmAtMost(t *testing.T) {
	d := dice(39)
	doubles := 0
	for n := range int64(40) {
		bad := n % 4
		l := d.risingLace(bad)
		coins := []int64{bad, bad, bad, bad, bad, bad}
		firm := impl.FirmOnes(l, coins, wholeOf(l))
		for i, k := range firm {
			for _, other := range firm[:i] {
				if impl.Doubled(l, k, other) {
					t.Fatalf("%d and %d are doubled, and both are firm", other, k)
				}
			}
			if impl.DoublesOf(l, k) != 0 {
				doubles++
			}
		}
	}
	if doubles < 20 {
		t.Fatalf("%d that are firm had a double: the test says little", doubles)
	}
}

func TestFirmOnesIsNewMemory(t *testing.T) {
	for _, l := range firmLaces() {
		for _, coins := range [][]int64{nil, {2}, {4}} {
			first, second := impl.FirmOnes(l, coins, wholeOf(l)), impl.FirmOnes(l, coins, wholeOf(l))
			want := slices.Clone(second)
			first = first[:cap(first)]
			for i := range first {
				first[i] = 77
			}
			if !slices.Equal(second, want) || !slices.Equal(impl.FirmOnes(l, coins, wholeOf(l)), want) {
				t.Fatalf("a list that was written into changed another one: %v, %v", second, impl.FirmOnes(l, coins, wholeOf(l)))
			}
		}
	}
}

func TestFirmLeavesListAndCoinsAsTheyAre(t *testing.T) {
	lists := firmLaces()
	for _, laces := range wrongLaces() {
		lists = append(lists, laces[0])
	}
	for _, given := range [][]int64{{}, {2}, {1, 0, 3, 2, 1, 0}, {4}, {0, 0, 0, 0, 0, 0, 0}} {
		whole := slices.Concat(given, []int64{77, 78, 79, 80, 81, 82, 83})
		coins, before := whole[:len(given)], slices.Clone(whole)
		for _, list := range lists {
			l, room := roomy(list)
			knots := slices.Clone(room)
			for _, s := range []int64{-1, 0, 511, fullSet, int64(1)<<uint(min(60, len(l))) - 1} {
				ones, last := impl.FirmOnes(l, coins, s), impl.LastFirm(l, coins, s)
				if !slices.Equal(impl.FirmOnes(l, coins, s), ones) || impl.LastFirm(l, coins, s) != last {
					t.Fatalf("asked again about %d, the answer is another one", s)
				}
				for _, k := range []int64{-1, 0, last, 60} {
					if firm := impl.Firm(l, coins, s, k); impl.Firm(l, coins, s, k) != firm {
						t.Fatalf("asked again about %d in %d, the answer is another one", k, s)
					}
				}
			}
			if !slices.Equal(room, knots) {
				t.Fatalf("%+v was changed into %+v", knots, room)
			}
		}
		if !slices.Equal(whole, before) {
			t.Fatalf("%v was changed into %v", before, whole)
		}
	}
}
