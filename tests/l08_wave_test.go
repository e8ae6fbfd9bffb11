package tests

import (
	"math"
	"slices"
	"testing"

	"loop.example/g00418/impl"
)

// notHands are numbers that are no coin; those of 2^32 and 2^61 would be one where bits are cut off.
var notHands = []int64{-1, -2, -4, 4, 5, 7, 1 << 32, 1<<32 + 1, 1 << 61, -1 << 32, math.MinInt64, math.MinInt64 + 3, math.MaxInt64}

// allCoins is each list of up to MaxWaves coins.
func allCoins() [][]int64 {
	all := [][]int64{nil}
	for i := 0; i < len(all); i++ {
		if len(all[i]) == impl.MaxWaves {
			break
		}
		for coin := range int64(4) {
			all = append(all, append(slices.Clone(all[i]), coin))
		}
	}
	return all
}

// someCoins are lists of each length in which each wave that has a coin has each of the four.
func someCoins() [][]int64 {
	some := [][]int64{{0, 0, 0, 0, 0, 0}, {3, 3, 3, 3, 3, 3}, {3, 2, 1, 0}}
	for n := range impl.MaxWaves + 1 {
		for first := range 4 {
			coins := make([]int64, n)
			for wave := range coins {
				coins[wave] = int64((first + 3*wave + wave/2) % 4)
			}
			some = append(some, coins)
		}
	}
	return some
}

// wrongCoins are lists that are no coins, with the reason.
func wrongCoins() map[string][][]int64 {
	wrong := map[string][][]int64{
		"one too many":             {{0, 0, 0, 0, 0, 0, 0}, {0, 1, 2, 3, 0, 1, 2}, {3, 3, 3, 3, 3, 3, 3}},
		"many too many":            {make([]int64, 8), make([]int64, 12), make([]int64, 100000)},
		"too many, and none right": {{4, 4, 4, 4, 4, 4, 4}, {0, 1, 2, 3, 0, 1, -1}},
	}
	for _, no := range notHands {
		for n := 1; n <= impl.MaxWaves; n++ {
			for at := range n {
				coins := []int64{0, 1, 2, 3, 0, 1}[:n]
				coins[at] = no
				wrong["one is no hand"] = append(wrong["one is no hand"], coins)
			}
		}
	}
	return wrong
}

// plainLeader is the hand that leads a wave by the words of chapter 8.
func plainLeader(coins []int64, wave int64) int64 {
	if wave < int64(len(coins)) {
		return coins[wave]
	}
	return wave % 4
}

func plainLeads(coins []int64, k impl.Knot) bool {
	for wave := int64(0); 3*wave <= k.Round; wave++ {
		if k.Round == 3*wave {
			return k.Hand == plainLeader(coins, wave)
		}
	}
	return false
}

// fourthHandLate has sixty knots of rounds 0 to 18: of hands 0 to 2 in each round, and of hand 3 where waves 4, 5 and 6 begin.
func fourthHandLate() []impl.Knot {
	var l []impl.Knot
	before := int64(0)
	for round := range int64(19) {
		now := int64(0)
		for hand := range int64(4) {
			if hand < 3 || round == 12 || round == 15 || round == 18 {
				now = impl.With(now, int64(len(l)))
				l = append(l, impl.Knot{Hand: hand, Round: round, From: before})
			}
		}
		before = now
	}
	return l
}

func waveLaces() [][]impl.Knot {
	return append(nodLaces(), fourthHandLate())
}

func TestCoinsOk(t *testing.T) {
	for _, coins := range append(allCoins(), nil, []int64{}) {
		if !impl.CoinsOk(coins) {
			t.Errorf("CoinsOk of %v is false", coins)
		}
	}
	for reason, lists := range wrongCoins() {
		for _, coins := range lists {
			if impl.CoinsOk(coins) {
				t.Errorf("%s: CoinsOk of %d coins, %v .., is true", reason, len(coins), coins[:min(7, len(coins))])
			}
		}
	}
}

func TestCoinsOkAtTheEdges(t *testing.T) {
	if impl.MaxWaves != 6 || impl.MaxRound != 19 {
		t.Fatalf("MaxWaves is %d, MaxRound %d", impl.MaxWaves, impl.MaxRound)
	}
	cases := []struct {
		why   string
		coins []int64
		want  bool
	}{
		{"nil", nil, true},
		{"none", []int64{}, true},
		{"0", []int64{0}, true},
		{"3", []int64{3}, true},
		{"-1", []int64{-1}, false},
		{"4", []int64{4}, false},
		{"MaxWaves of 0", make([]int64, 6), true},
		{"one more of 0", make([]int64, 7), false},
		{"MaxWaves of 3", []int64{3, 3, 3, 3, 3, 3}, true},
		{"one more of 3", []int64{3, 3, 3, 3, 3, 3, 3}, false},
		{"the last one of MaxWaves is 4", []int64{3, 3, 3, 3, 3, 4}, false},
		{"the last one of MaxWaves is -1", []int64{0, 0, 0, 0, 0, -1}, false},
		{"the first one of MaxWaves is 4", []int64{4, 3, 3, 3, 3, 3}, false},
		{"MaxWaves, cut from a longer list", []int64{0, 1, 2, 3, 3, 2, 9, -9}[:6], true},
	}
	for _, c := range cases {
		if got := impl.CoinsOk(c.coins); got != c.want {
			t.Errorf("%s: CoinsOk is %v", c.why, got)
		}
	}
}

func TestWaveOf(t *testing.T) {
	waves := []int64{0, 0, 0, 1, 1, 1, 2, 2, 2, 3, 3, 3, 4, 4, 4, 5, 5, 5, 6, 6}
	for round, want := range waves {
		if got := impl.WaveOf(int64(round)); got != want {
			t.Errorf("WaveOf %d is %d, not %d", round, got, want)
		}
	}
	for _, round := range []int64{-1, -2, -3, -4, -19, impl.MaxRound + 1, 21, 22, 60, 1 << 32, 1<<32 + 1, -1 << 32, math.MinInt64, math.MaxInt64} {
		if got := impl.WaveOf(round); got != -1 {
			t.Errorf("WaveOf %d, which is no round, is %d", round, got)
		}
	}
}

func TestLeaderOf(t *testing.T) {
	cases := []struct {
		why   string
		coins []int64
		want  []int64
	}{
		{"no coins", nil, []int64{0, 1, 2, 3, 0, 1, 2}},
		{"none, and not nil", []int64{}, []int64{0, 1, 2, 3, 0, 1, 2}},
		{"one", []int64{2}, []int64{2, 1, 2, 3, 0, 1, 2}},
		{"one, which is 0", []int64{0}, []int64{0, 1, 2, 3, 0, 1, 2}},
		{"one, which is 3", []int64{3}, []int64{3, 1, 2, 3, 0, 1, 2}},
		{"two", []int64{1, 0}, []int64{1, 0, 2, 3, 0, 1, 2}},
		{"three", []int64{3, 3, 3}, []int64{3, 3, 3, 3, 0, 1, 2}},
		{"four", []int64{3, 2, 1, 0}, []int64{3, 2, 1, 0, 0, 1, 2}},
		{"five", []int64{1, 1, 1, 1, 1}, []int64{1, 1, 1, 1, 1, 1, 2}},
		{"MaxWaves", []int64{3, 0, 3, 0, 3, 0}, []int64{3, 0, 3, 0, 3, 0, 2}},
		{"MaxWaves of 0", make([]int64, 6), []int64{0, 0, 0, 0, 0, 0, 2}},
		{"cut from a longer list", []int64{1, 2, 3, 0, 3, 3, 3}[:2], []int64{1, 2, 2, 3, 0, 1, 2}},
	}
	for _, c := range cases {
		for wave, want := range c.want {
			if got := impl.LeaderOf(c.coins, int64(wave)); got != want {
				t.Errorf("%s: LeaderOf %v of wave %d is %d, not %d", c.why, c.coins, wave, got, want)
			}
		}
	}
}

func TestLeaderOfWavesThatAreNone(t *testing.T) {
	for _, coins := range someCoins() {
		for _, wave := range []int64{-1, -2, -4, -7, impl.MaxWaves + 1, 8, 12, 19, 60, 1 << 32, 1<<32 + 1, -1 << 32, math.MinInt64, math.MaxInt64} {
			if got := impl.LeaderOf(coins, wave); got != -1 {
				t.Errorf("LeaderOf %v of wave %d, which is none, is %d", coins, wave, got)
			}
		}
	}
}

// A wrong coin of one wave takes the leader from all others, too.
func TestLeaderOfCoinsThatAreNone(t *testing.T) {
	for reason, lists := range wrongCoins() {
		for _, coins := range lists {
			for wave := int64(-1); wave <= impl.MaxWaves+1; wave++ {
				if got := impl.LeaderOf(coins, wave); got != -1 {
					t.Errorf("%s: LeaderOf %d coins of wave %d is %d", reason, len(coins), wave, got)
				}
			}
		}
	}
}

func TestLeads(t *testing.T) {
	three, four, late := fullRounds(3, 20), fullRounds(4, 15), fourthHandLate()
	cases := []struct {
		why   string
		l     []impl.Knot
		coins []int64
		k     int64
		want  bool
	}{
		{"a knot alone, whose hand leads", []impl.Knot{{Hand: 0}}, nil, 0, true},
		{"a knot alone, whose hand does not lead", []impl.Knot{{Hand: 2}}, nil, 0, false},
		{"a knot alone, whose hand the coin lets lead", []impl.Knot{{Hand: 2}}, []int64{2}, 0, true},
		{"round 0, its hand leads by a coin", three, []int64{1}, 1, true},
		{"round 0, another one leads by a coin", three, []int64{1}, 0, false},
		{"round 0, hand 3 leads by a coin", four, []int64{3}, 3, true},
		{"round 0, its hand is the coin of the next wave", three, []int64{1, 2}, 2, false},
		{"round 3, its hand leads by a coin", three, []int64{1, 2}, 11, true},
		{"round 3, another one leads by a coin", three, []int64{1, 2}, 10, false},
		{"round 3, its hand is the coin of the wave before", three, []int64{0, 2}, 9, false},
		{"round 3, its hand leads without a coin", three, []int64{2}, 10, true},
		{"round 3, another one leads without a coin", three, []int64{2}, 11, false},
		{"round 6, hand 2 leads without a coin", four, nil, 26, true},
		{"round 9, hand 3 leads without a coin", four, nil, 39, true},
		{"round 9, hand 0 does not lead without a coin", four, nil, 36, false},
		{"round 9, hand 0 leads by a coin", four, []int64{1, 1, 1, 0}, 36, true},
		{"round 9, hand 3 does not lead by a coin", four, []int64{1, 1, 1, 0}, 39, false},
		{"round 12, hand 0 leads without a coin", four, nil, 48, true},
		{"round 15, hand 1 leads without a coin", three, nil, 46, true},
		{"round 15, the last coin lets hand 0 lead", three, []int64{1, 1, 1, 1, 1, 0}, 45, true},
		{"round 15, the last coin lets hand 1 not lead", three, []int64{1, 1, 1, 1, 1, 0}, 46, false},
		{"round 18, hand 2 leads", three, nil, 56, true},
		{"round 18, hand 2 leads whatever the coins are", three, []int64{1, 1, 1, 1, 1, 1}, 56, true},
		{"round 18, hand 1 does not lead whatever the coins are", three, []int64{1, 1, 1, 1, 1, 1}, 55, false},
		{"round 18, hand 3 does not lead", late, []int64{3, 3, 3, 3, 3, 3}, 59, false},
		{"round 1, its hand leads", three, nil, 3, false},
		{"round 2, its hand leads", three, nil, 6, false},
		{"round 1, its hand leads by a coin", three, []int64{2}, 5, false},
		{"round 2, its hand leads by a coin", three, []int64{2}, 8, false},
		{"round 4, its hand leads", three, nil, 13, false},
		{"round 5, its hand leads", three, nil, 16, false},
		{"round 16, its hand leads by the last coin", three, []int64{0, 0, 0, 0, 0, 2}, 50, false},
		{"round 17, its hand leads by the last coin", three, []int64{0, 0, 0, 0, 0, 2}, 53, false},
		{"MaxRound, its hand leads", three, nil, 59, false},
		{"two of one hand that leads, the one", mixedLace(), nil, 0, true},
		{"two of one hand that leads, the other one", mixedLace(), nil, 10, true},
		{"late in the list, and its hand leads by a coin", mixedLace(), []int64{3}, 5, true},
	}
	for _, c := range cases {
		if !impl.LaceOk(c.l) || c.k >= int64(len(c.l)) {
			t.Fatalf("%s: the lace is not what the test is about", c.why)
		}
		if got := impl.Leads(c.l, c.coins, c.k); got != c.want {
			t.Errorf("%s: Leads of %d by %v is %v", c.why, c.k, c.coins, got)
		}
	}
}

func TestLeadsOfNumbersThatAreNoKnot(t *testing.T) {
	for _, l := range waveLaces() {
		wrong := slices.Concat(wrongMembers, []int64{int64(len(l)), math.MinInt64, math.MaxInt64, -1 << 32, 1<<32 + 1})
		for i := int64(len(l)); i < 60; i += 9 {
			wrong = append(wrong, i, 59)
		}
		for _, k := range wrong {
			for first := range int64(4) {
				if impl.Leads(l, []int64{first}, k) {
					t.Errorf("of %d knots %d, which is none, leads", len(l), k)
				}
			}
		}
	}
}

func TestLeadsOfWhatIsNoLace(t *testing.T) {
	lists := wrongLaces()
	// What leads in a lace, and would where nobody looked whether it is one.
	lists["a wrong knot behind all that lead"] = [][]impl.Knot{append(fullRounds(3, 4), impl.Knot{Hand: 4}), append(fullRounds(3, 20), impl.Knot{}), append(fullRounds(4, 4), impl.Knot{Round: 1})}
	for reason, laces := range lists {
		for _, l := range laces {
			for _, k := range []int64{-1, 0, 1, 2, 3, 5, 9, 10, 11, 12, int64(len(l)) - 1, int64(len(l)), 59, 60} {
				for first := range int64(4) {
					if impl.Leads(l, []int64{first}, k) || impl.Leads(l, nil, k) {
						t.Errorf("%s: %d leads", reason, k)
					}
				}
			}
		}
	}
}

func TestLeadsByCoinsThatAreNone(t *testing.T) {
	l := fullRounds(4, 4)
	for reason, lists := range wrongCoins() {
		for _, coins := range lists {
			for _, k := range []int64{-1, 0, 1, 2, 3, 12, 13, 14, 15, 16} {
				if impl.Leads(l, coins, k) {
					t.Errorf("%s: %d leads by %d coins", reason, k, len(coins))
				}
			}
		}
	}
	for _, coins := range [][]int64{{0, 1, 2, 3, 0, 1, 2}, {0, 4}, {-1}, {0, 0, 0, 0, 0, 4}} {
		for k := range int64(60) {
			if impl.Leads(fullRounds(3, 20), coins, k) || impl.Leads(fourthHandLate(), coins, k) {
				t.Errorf("%d leads by %v", k, coins)
			}
		}
	}
}

// Promise 8, for LeaderOf: whatever the coins, each wave has one, and it is what the words say.
func TestEachWaveHasALeader(t *testing.T) {
	for _, coins := range allCoins() {
		for wave := range int64(impl.MaxWaves + 1) {
			got := impl.LeaderOf(coins, wave)
			if got < 0 || got > 3 || got != plainLeader(coins, wave) {
				t.Fatalf("LeaderOf %v of wave %d is %d", coins, wave, got)
			}
		}
		for round := range int64(impl.MaxRound + 1) {
			if got := impl.LeaderOf(coins, impl.WaveOf(round)); got != plainLeader(coins, round/3) {
				t.Fatalf("in round %d LeaderOf %v is %d", round, coins, got)
			}
		}
	}
}

// Promise 8, for Leads: where all four hands tie in the first round of a wave, just one of them leads, and none of the wave's other rounds does.
func TestEachWaveHasOneLeader(t *testing.T) {
	early, late := fullRounds(4, 15), fourthHandLate()
	if !impl.LaceOk(late) || len(late) != 60 {
		t.Fatal("the lace is not what the test is about")
	}
	for _, coins := range someCoins() {
		waves := map[int64]int{}
		for _, l := range [][]impl.Knot{early, late} {
			leaders, hands := map[int64][]int64{}, map[int64]int{}
			for k := range l {
				wave := impl.WaveOf(l[k].Round)
				if impl.Leads(l, coins, int64(k)) {
					leaders[wave] = append(leaders[wave], l[k].Hand)
				}
				if l[k].Round == 3*wave {
					hands[wave]++
				}
			}
			for wave, n := range hands {
				if n == 4 && !slices.Equal(leaders[wave], []int64{impl.LeaderOf(coins, wave)}) {
					t.Fatalf("by %v hands %v lead wave %d, LeaderOf is %d", coins, leaders[wave], wave, impl.LeaderOf(coins, wave))
				}
				if n == 4 {
					waves[wave]++
				}
			}
		}
		if len(waves) != impl.MaxWaves+1 {
			t.Fatalf("only waves %v had four hands: the test says little", waves)
		}
	}
}

// Leads is what a plain look at the knot tells.
func TestLeadsIsWhatTheWordsSay(t *testing.T) {
	leads, others, notFirst := 0, 0, 0
	for _, l := range waveLaces() {
		for n, coins := range someCoins() {
			for k := n % 3; k < len(l); k += 3 {
				got := impl.Leads(l, coins, int64(k))
				if got != plainLeads(coins, l[k]) {
					t.Fatalf("of %d knots Leads of %d, %+v, by %v is %v", len(l), k, l[k], coins, got)
				}
				switch {
				case got:
					leads++
				case l[k].Round%3 == 0:
					others++
				default:
					notFirst++
				}
			}
		}
	}
	if leads < 1000 || others < 1000 || notFirst < 1000 {
		t.Fatalf("%d lead, %d of a first round do not, %d are of no first round: the test says little", leads, others, notFirst)
	}
}

// The coin of one wave has no say about another one.
func TestACoinIsOfItsOwnWaveAlone(t *testing.T) {
	for _, coins := range someCoins() {
		for at := range coins {
			for coin := range int64(4) {
				changed := slices.Clone(coins)
				changed[at] = coin
				for wave := range int64(impl.MaxWaves + 1) {
					before, got := impl.LeaderOf(coins, wave), impl.LeaderOf(changed, wave)
					if wave == int64(at) && got != coin || wave != int64(at) && got != before {
						t.Fatalf("LeaderOf %v of wave %d is %d, LeaderOf %v is %d", coins, wave, before, changed, got)
					}
				}
			}
		}
	}
}

// Who leads is as it was when more is tied.
func TestLeadsStaysWhenMoreIsTied(t *testing.T) {
	for _, l := range waveLaces() {
		for n := 1; n < len(l); n += 4 {
			for _, coins := range [][]int64{nil, {1}, {3, 2, 0}, {2, 2, 2, 2, 2, 2}} {
				for _, k := range []int64{0, int64(n) / 2, int64(n) - 1} {
					if first, later := impl.Leads(l[:n], coins, k), impl.Leads(l, coins, k); first != later {
						t.Fatalf("Leads of %d by %v is %v of %d knots, %v of %d", k, coins, first, n, later, len(l))
					}
				}
			}
		}
	}
}

func TestWavesLeaveListAndCoinsAsTheyAre(t *testing.T) {
	lists, coinLists := waveLaces(), someCoins()
	for _, laces := range wrongLaces() {
		lists = append(lists, laces[0])
	}
	for _, wrong := range wrongCoins() {
		coinLists = append(coinLists, wrong[0], wrong[len(wrong)-1])
	}
	for _, given := range coinLists {
		whole := slices.Concat(given, []int64{77, 78, 79, 80, 81, 82, 83})
		coins, before := whole[:len(given)], slices.Clone(whole)
		for n := int64(-1); n <= impl.MaxWaves+1; n++ {
			ok, leader := impl.CoinsOk(coins), impl.LeaderOf(coins, n)
			if impl.CoinsOk(coins) != ok || impl.LeaderOf(coins, n) != leader {
				t.Fatalf("asked again about wave %d, the answer is another one", n)
			}
		}
		for _, list := range lists {
			l, room := roomy(list)
			knots := slices.Clone(room)
			for _, k := range []int64{-1, 0, 10, int64(len(l)) - 1, int64(len(l))} {
				if leads := impl.Leads(l, coins, k); impl.Leads(l, coins, k) != leads {
					t.Fatalf("asked again about %d, the answer is another one", k)
				}
			}
			if !slices.Equal(room, knots) {
				t.Fatalf("%+v was changed into %+v", knots, room)
			}
		}
		if !slices.Equal(whole, before) {
			t.Fatalf("%v was changed into %v", before, whole)
		}
	}
}
