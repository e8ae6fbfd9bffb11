package tests

import (
	"math"
	"slices"
	"testing"

	"loop.example/g00418/impl"
)

// bothSealed has 25, which seals the leader of wave 0, 18, and the one of wave 1, 9, which does not see 18.
func bothSealed() []impl.Knot {
	return append(leaderLate(), impl.Knot{Hand: 1, Round: 6, From: setOf(15, 16, 17, 22, 23, 24)})
}

// twoInTurn has the two leaders of round 0 sealed by one knot each: 10 seals 0, 11 seals 3, and 12 seals both.
func twoInTurn() []impl.Knot {
	l := twoLeaders()
	l[10].From, l[11].From = setOf(4, 5, 6), setOf(7, 8, 9)
	return l
}

// twoOfLaterRound goes on from twoLeaders to a round 3 that hand 1 ties twice and, knot by knot, to rounds 4 and 5: who comes last seals 0, 3 and both leaders of round 3, 14 and 16.
func twoOfLaterRound() []impl.Knot {
	l := twoLeaders()
	for _, hand := range []int64{0, 1, 2, 1} {
		l = append(l, impl.Knot{Hand: hand, Round: 3, From: setOf(10, 11, 12)})
	}
	for _, from := range []int64{setOf(13, 14, 15), setOf(13, 15, 16)} {
		for hand := range int64(3) {
			l = append(l, impl.Knot{Hand: hand, Round: 4, From: from})
		}
	}
	return append(l, impl.Knot{Hand: 2, Round: 5, From: setOf(17, 18, 19, 20, 21, 22)})
}

func chainLaces() [][]impl.Knot {
	return append(firmLaces(), bothSealed(), twoInTurn(), twoOfLaterRound())
}

// plainEarlier says what the words of chapter 10 say; sealers is plainSealers of the lace.
func plainEarlier(l []impl.Knot, sealers []int64, coins []int64, k int64) int64 {
	var found []int64
	for x := range plainBelow(l, k) {
		if x != k && plainLeads(coins, l[x]) && sealers[x]>>uint(k)&1 == 1 {
			found = append(found, x)
		}
	}
	return plainLast(l, found)
}

func plainChain(l []impl.Knot, sealers []int64, coins []int64, k int64) []int64 {
	chain := []int64{k}
	for x := plainEarlier(l, sealers, coins, k); x != -1; x = plainEarlier(l, sealers, coins, x) {
		chain = slices.Insert(chain, 0, x)
	}
	return chain
}

// leadersSealed are those that lead and that k seals.
func leadersSealed(l []impl.Knot, coins []int64, k int64) []int64 {
	var found []int64
	for _, x := range impl.Members(impl.SealedOf(l, k)) {
		if impl.Leads(l, coins, x) {
			found = append(found, x)
		}
	}
	return found
}

func TestEarlierAndChainOf(t *testing.T) {
	three, four := fullRounds(3, 20), fullRounds(4, 15)
	cases := []struct {
		why    string
		l      []impl.Knot
		coins  []int64
		k      int64
		sealed []int64
		want   []int64
	}{
		{"a knot alone, which leads", []impl.Knot{{Hand: 0}}, nil, 0, nil, []int64{0}},
		{"a knot alone, which does not lead", []impl.Knot{{Hand: 1}}, nil, 0, nil, []int64{0}},
		{"the first knot of a lace", three, nil, 0, nil, []int64{0}},
		{"the first knot, where another hand leads", three, []int64{1}, 0, nil, []int64{0}},
		{"another one of round 0", three, nil, 2, nil, []int64{2}},
		{"the last one of sixty in round 0", sixtyAtOnce(), nil, 59, nil, []int64{59}},
		{"it sees a leader, and none beside it does", three, nil, 3, nil, []int64{3}},
		{"it sees a leader, and two hands nod to it", handByHand(), nil, 8, nil, []int64{8}},
		{"it sees a leader that another one of its round seals", sealedLate(), []int64{0, 0}, 12, nil, []int64{12}},
		{"that other one", sealedLate(), []int64{0, 0}, 13, []int64{0}, []int64{0, 13}},
		{"it leads, and seals others that do not", three, []int64{3}, 10, nil, []int64{10}},
		{"it leads, and seals others that do not, where the leader is there", leaderLate(), nil, 9, nil, []int64{9}},
		{"it leads, and seals others alone", sealedLate(), []int64{0, 3}, 15, nil, []int64{15}},
		{"it does not lead, and seals others that do not", three, []int64{3, 3}, 17, nil, []int64{17}},
		{"it does not lead, and seals one that does", three, nil, 6, []int64{0}, []int64{0, 6}},
		{"it does not lead, of the round that begins the next wave", three, nil, 9, []int64{0}, []int64{0, 9}},
		{"it leads, and seals one", three, nil, 10, []int64{0}, []int64{0, 10}},
		{"it leads by a coin, and seals one", three, []int64{2, 0}, 9, []int64{2}, []int64{2, 9}},
		{"one that is not firm is sealed", sealedLate(), nil, 13, []int64{0}, []int64{0, 13}},
		{"the one of the wave's first round is sealed, those of the others are not leaders", three, nil, 14, []int64{0}, []int64{0, 14}},
		{"two of several rounds", three, nil, 15, []int64{0, 10}, []int64{0, 10, 15}},
		{"two of several rounds, and it leads", four, nil, 26, []int64{0, 13}, []int64{0, 13, 26}},
		{"two of several rounds, the greater round of the lesser number", bothSealed(), nil, 25, []int64{9, 18}, []int64{9, 25}},
		{"two of several rounds, of which the one does not seal the other", sealedLate(), []int64{0, 0}, 20, []int64{0, 12}, []int64{12, 20}},
		{"two of one round", twoLeaders(), nil, 10, []int64{0, 3}, []int64{0, 10}},
		{"two of one round, of which it seals the one", twoInTurn(), nil, 10, []int64{0}, []int64{0, 10}},
		{"two of one round, of which it seals the other one", twoInTurn(), nil, 11, []int64{3}, []int64{3, 11}},
		{"two of one round, none of which leads", twoLeaders(), []int64{2}, 10, []int64{2}, []int64{2, 10}},
		{"two of one round and two of a lesser one", twoOfLaterRound(), nil, 23, []int64{0, 3, 14, 16}, []int64{0, 14, 23}},
		{"one that has a double is sealed", sealedInSpite(), nil, 16, []int64{0}, []int64{0, 16}},
		{"all waves but the one whose hand does not tie", three, nil, 59, []int64{0, 10, 20, 36, 46}, []int64{0, 10, 20, 36, 46, 59}},
		{"all waves of the other coins", three, []int64{1, 1, 1, 1, 1, 1}, 56, []int64{1, 10, 19, 28, 37, 46}, []int64{1, 10, 19, 28, 37, 46, 56}},
		{"all waves, where the hand of none ties", three, []int64{3, 3, 3, 3, 3, 3}, 59, nil, []int64{59}},
		{"a wave whose leader is of the round just before is not sealed", three, nil, 50, []int64{0, 10, 20, 36}, []int64{0, 10, 20, 36, 50}},
		{"four hands", four, nil, 59, []int64{0, 13, 26, 39, 48}, []int64{0, 13, 26, 39, 48, 59}},
		{"four hands, it leads the last wave", four, nil, 48, []int64{0, 13, 26, 39}, []int64{0, 13, 26, 39, 48}},
	}
	for _, c := range cases {
		if sealed := leadersSealed(c.l, c.coins, c.k); !impl.LaceOk(c.l) || !slices.Equal(sealed, c.sealed) {
			t.Fatalf("%s: of those that lead it seals %v: the lace is not what the test is about", c.why, sealed)
		}
		if got := impl.ChainOf(c.l, c.coins, c.k); !slices.Equal(got, c.want) {
			t.Errorf("%s: ChainOf %d by %v is %v, not %v", c.why, c.k, c.coins, got, c.want)
		}
		want := int64(-1)
		if n := len(c.want); n > 1 {
			want = c.want[n-2]
		}
		if got := impl.Earlier(c.l, c.coins, c.k); got != want {
			t.Errorf("%s: Earlier of %d by %v is %d, not %d", c.why, c.k, c.coins, got, want)
		}
		for x := int64(-2); x < 62; x++ {
			if got := impl.OnChain(c.l, c.coins, c.k, x); got != slices.Contains(c.want, x) {
				t.Errorf("%s: OnChain %d by %v of %d is %v", c.why, c.k, c.coins, x, got)
			}
		}
	}
}

// To see a leader is not enough, and to lead is not enough to be on a chain.
func TestEarlierIsNotToSee(t *testing.T) {
	l, coins := sealedLate(), []int64{0, 0}
	if !impl.Leads(l, coins, 0) || !impl.Leads(l, coins, 12) || !impl.Sees(l, 12, 0) || impl.Seals(l, 12, 0) || impl.SealedOf(l, 12) == 0 {
		t.Fatal("the lace is not what the test is about")
	}
	if got := impl.Earlier(l, coins, 12); got != -1 {
		t.Errorf("Earlier of 12, which sees 0 and does not seal it, is %d", got)
	}
	if !impl.Seals(l, 20, 0) || !impl.Seals(l, 20, 12) {
		t.Fatal("the lace is not what the test is about")
	}
	if impl.OnChain(l, coins, 20, 0) || !impl.OnChain(l, coins, 20, 12) {
		t.Error("20 seals 0, but 12 is earlier, which does not seal 0: 0 is not on the chain, 12 is")
	}
}

// Which ones lead hangs on the coins, so over one lace they make another chain; a coin past the waves of the lace makes none.
func TestChainOfOtherCoins(t *testing.T) {
	l := fullRounds(4, 9)
	cases := []struct{ coins, want []int64 }{
		{nil, []int64{0, 13, 26, 35}},
		{[]int64{}, []int64{0, 13, 26, 35}},
		{[]int64{0}, []int64{0, 13, 26, 35}},
		{[]int64{3}, []int64{3, 13, 26, 35}},
		{[]int64{2, 2}, []int64{2, 14, 26, 35}},
		{[]int64{0, 3}, []int64{0, 15, 26, 35}},
		{[]int64{0, 1, 2}, []int64{0, 13, 26, 35}},
		{[]int64{1, 0, 3}, []int64{1, 12, 27, 35}},
		{[]int64{0, 1, 0, 1}, []int64{0, 13, 24, 35}},
		{[]int64{0, 1, 0, 2}, []int64{0, 13, 24, 35}},
		{[]int64{3, 3, 3, 3, 3, 3}, []int64{3, 15, 27, 35}},
		{[]int64{3, 3, 3, 0, 1, 2}, []int64{3, 15, 27, 35}},
	}
	for _, c := range cases {
		if got := impl.ChainOf(l, c.coins, 35); !slices.Equal(got, c.want) {
			t.Errorf("ChainOf 35 by %v is %v, not %v", c.coins, got, c.want)
		}
		if got := impl.Earlier(l, c.coins, 35); got != c.want[2] {
			t.Errorf("Earlier of 35 by %v is %d, not %d", c.coins, got, c.want[2])
		}
		for x := range int64(36) {
			if got := impl.OnChain(l, c.coins, 35, x); got != slices.Contains(c.want, x) {
				t.Errorf("OnChain 35 by %v of %d is %v", c.coins, x, got)
			}
		}
	}
}

func TestChainOfNumbersThatAreNoKnot(t *testing.T) {
	for _, l := range chainLaces() {
		wrong := slices.Concat(wrongMembers, []int64{-1, int64(len(l)), math.MinInt64, math.MaxInt64, -1 << 32, 1<<32 + 9})
		for i := int64(len(l)); i < 60; i += 9 {
			wrong = append(wrong, i, 59)
		}
		for _, k := range wrong {
			for _, coins := range [][]int64{nil, {2}, {1, 1, 1, 1, 1, 1}} {
				if got := impl.Earlier(l, coins, k); got != -1 {
					t.Errorf("of %d knots Earlier of %d, which is none, is %d", len(l), k, got)
				}
				if got := impl.ChainOf(l, coins, k); len(got) != 0 {
					t.Errorf("of %d knots ChainOf %d, which is none, is %v", len(l), k, got)
				}
				for _, x := range []int64{k, 0, -1, int64(len(l)) - 1} {
					if impl.OnChain(l, coins, k, x) {
						t.Errorf("of %d knots OnChain %d, which is none, of %d is true", len(l), k, x)
					}
				}
				if len(l) > 0 && (impl.OnChain(l, coins, int64(len(l))-1, k) || impl.OnChain(l, coins, 0, k)) {
					t.Errorf("of %d knots %d, which is none, is on a chain", len(l), k)
				}
			}
		}
	}
}

func TestChainOfWhatIsNoLace(t *testing.T) {
	lists := wrongLaces()
	// What has a chain in a lace, and would where nobody looked whether it is one.
	lists["a wrong knot behind a chain"] = [][]impl.Knot{append(fullRounds(3, 6), impl.Knot{Hand: 4}), append(fullRounds(3, 20), impl.Knot{}), append(fullRounds(4, 6), impl.Knot{Round: 1})}
	for reason, laces := range lists {
		for _, l := range laces {
			for _, k := range []int64{-1, 0, 1, 6, 9, 10, 15, 23, int64(len(l)) - 1, int64(len(l)), 59, 60} {
				if got := impl.Earlier(l, nil, k); got != -1 {
					t.Errorf("%s: Earlier of %d is %d", reason, k, got)
				}
				if got := impl.ChainOf(l, nil, k); len(got) != 0 {
					t.Errorf("%s: ChainOf %d is %v", reason, k, got)
				}
				if impl.OnChain(l, nil, k, k) || impl.OnChain(l, nil, k, 0) || impl.OnChain(l, nil, k, -1) {
					t.Errorf("%s: OnChain %d is true", reason, k)
				}
			}
		}
	}
}

func TestChainOfTheEmptyLace(t *testing.T) {
	for _, l := range [][]impl.Knot{nil, {}, fullRounds(3, 3)[:0]} {
		for _, k := range []int64{-1, 0, 1, 59, 60} {
			if impl.Earlier(l, nil, k) != -1 || len(impl.ChainOf(l, nil, k)) != 0 || impl.OnChain(l, nil, k, k) || impl.OnChain(l, nil, k, -1) || impl.OnChain(l, nil, k, 0) {
				t.Errorf("of no knots %d has Earlier %d, ChainOf %v", k, impl.Earlier(l, nil, k), impl.ChainOf(l, nil, k))
			}
		}
	}
}

// A wrong coin of one wave takes the chain from all others, too.
func TestChainByCoinsThatAreNone(t *testing.T) {
	l := fullRounds(4, 7)
	for reason, lists := range wrongCoins() {
		for _, coins := range lists {
			for _, k := range []int64{-1, 0, 1, 8, 13, 24, 27, 28} {
				if got := impl.Earlier(l, coins, k); got != -1 {
					t.Errorf("%s: Earlier of %d by %d coins is %d", reason, k, len(coins), got)
				}
				if got := impl.ChainOf(l, coins, k); len(got) != 0 {
					t.Errorf("%s: ChainOf %d by %d coins is %v", reason, k, len(coins), got)
				}
				if impl.OnChain(l, coins, k, k) || impl.OnChain(l, coins, k, 0) || impl.OnChain(l, coins, k, -1) {
					t.Errorf("%s: OnChain %d by %d coins is true", reason, k, len(coins))
				}
			}
		}
	}
}

// Promise 10: a chain rises by Rounds, each one Seals the one ahead.
func TestAChainRisesAndEachSealsTheOneAhead(t *testing.T) {
	count := make([]int, 8)
	passed := 0
	for n, l := range chainLaces() {
		for try := range 4 {
			coins := someCoins()[(n+9*try)%len(someCoins())]
			for k := int64(try % 2); k < int64(len(l)); k += 2 {
				chain := impl.ChainOf(l, coins, k)
				if len(chain) == 0 || chain[len(chain)-1] != k {
					t.Fatalf("ChainOf %d by %v is %v", k, coins, chain)
				}
				for i := 1; i < len(chain); i++ {
					one, ahead := chain[i], chain[i-1]
					if l[ahead].Round >= l[one].Round || !impl.Seals(l, one, ahead) || !impl.Leads(l, coins, ahead) || impl.Earlier(l, coins, one) != ahead {
						t.Fatalf("in ChainOf %d by %v, %v, %d is ahead of %d", k, coins, chain, ahead, one)
					}
					if l[one].Round/3 > l[ahead].Round/3+1 {
						passed++
					}
				}
				if first := impl.Earlier(l, coins, chain[0]); first != -1 {
					t.Fatalf("ChainOf %d by %v, %v, begins with one that has %d earlier", k, coins, chain, first)
				}
				count[len(chain)]++
			}
		}
	}
	if count[1] < 500 || count[2] < 500 || count[3] < 200 || count[4] < 100 || count[5] < 50 || count[6] < 10 || passed < 100 {
		t.Fatalf("as many chains were so long: %v; %d passed over a wave: the test says little", count, passed)
	}
}

// The chain of one on a chain is its beginning.
func TestAChainBeginsWithTheChainsOfThoseOnIt(t *testing.T) {
	begun := 0
	for n, l := range chainLaces() {
		coins := someCoins()[3*n%len(someCoins())]
		for k := int64(n % 4); k < int64(len(l)); k += 4 {
			chain := impl.ChainOf(l, coins, k)
			for i, x := range chain {
				if got := impl.ChainOf(l, coins, x); !slices.Equal(got, chain[:i+1]) {
					t.Fatalf("ChainOf %d by %v is %v, of %d, which is on it, %v", k, coins, chain, x, got)
				}
				begun += i
			}
		}
	}
	if begun < 300 {
		t.Fatalf("%d had one ahead: the test says little", begun)
	}
}

// Earlier, ChainOf and OnChain are what a plain look at all that seal tells.
func TestChainIsWhatTheWordsSay(t *testing.T) {
	several, twice, unsealed, notLeading := 0, 0, 0, 0
	for n, l := range chainLaces() {
		sealers := plainSealers(l)
		for try := range 5 {
			coins := someCoins()[(n+5*try)%len(someCoins())]
			for k := int64(try % 2); k < int64(len(l)); k += 2 {
				earlier := plainEarlier(l, sealers, coins, k)
				if got := impl.Earlier(l, coins, k); got != earlier {
					t.Fatalf("Earlier of %d by %v is %d, not %d", k, coins, got, earlier)
				}
				chain := plainChain(l, sealers, coins, k)
				if got := impl.ChainOf(l, coins, k); !slices.Equal(got, chain) {
					t.Fatalf("ChainOf %d by %v is %v, not %v", k, coins, got, chain)
				}
				x := (k*7 + int64(try)) % int64(len(l))
				if got := impl.OnChain(l, coins, k, x); got != slices.Contains(chain, x) {
					t.Fatalf("OnChain %d by %v of %d is %v, the chain is %v", k, coins, x, got, chain)
				}
				rounds := map[int64]int{}
				for below := range plainBelow(l, k) {
					switch sealed := sealers[below]>>uint(k)&1 == 1; {
					case sealed && plainLeads(coins, l[below]):
						rounds[l[below].Round]++
					case sealed:
						notLeading++
					case plainLeads(coins, l[below]) && below != k:
						unsealed++
					}
				}
				if len(rounds) > 1 {
					several++
				}
				if earlier != -1 && rounds[l[earlier].Round] > 1 {
					twice++
				}
			}
		}
	}
	if several < 500 || twice < 20 || unsealed < 500 || notLeading < 5000 {
		t.Fatalf("%d sealed leaders of several rounds, %d two of one round; %d leaders were seen and not sealed, %d sealed that do not lead: the test says little", several, twice, unsealed, notLeading)
	}
}

// What is tied later has no say about a chain.
func TestAChainStaysWhenMoreIsTied(t *testing.T) {
	for n, l := range chainLaces() {
		coins := someCoins()[7*n%len(someCoins())]
		for k := n % 5; k < len(l); k += 5 {
			for _, end := range []int{k + 1, (k + 1 + len(l)) / 2} {
				short, long := impl.ChainOf(l[:end], coins, int64(k)), impl.ChainOf(l, coins, int64(k))
				if impl.Earlier(l[:end], coins, int64(k)) != impl.Earlier(l, coins, int64(k)) {
					t.Fatalf("Earlier of %d in the first %d knots is another one than in %d", k, end, len(l))
				}
				if !slices.Equal(short, long) {
					t.Fatalf("ChainOf %d is %v in the first %d knots, %v in %d", k, short, end, long, len(l))
				}
			}
		}
	}
}

// Where one hand alone is bad, what is firm is on the chain of each one that leads a later wave.
func TestWhatIsFirmIsOnLaterChains(t *testing.T) {
	d := dice(41)
	on := 0
	for n := range int64(30) {
		l := d.risingLace(n % 4)
		coins := someCoins()[int(n)%len(someCoins())]
		for _, k := range impl.FirmOnes(l, coins, wholeOf(l)) {
			for later := range l {
				if l[later].Round < l[k].Round+3 || !impl.Leads(l, coins, int64(later)) {
					continue
				}
				if !impl.OnChain(l, coins, int64(later), k) {
					t.Fatalf("%d is firm by %v, and not on ChainOf %d, %v", k, coins, later, impl.ChainOf(l, coins, int64(later)))
				}
				on++
			}
		}
	}
	if on < 50 {
		t.Fatalf("%d were on later chains: the test says little", on)
	}
}

func TestChainOfIsNewMemory(t *testing.T) {
	for _, l := range [][]impl.Knot{nil, fullRounds(3, 1), fullRounds(3, 20), twoLeaders(), bothSealed(), wrongLaces()["out of order"][0]} {
		for _, coins := range [][]int64{nil, {2, 2, 2, 2, 2, 2}, {4}} {
			for _, k := range []int64{-1, 0, int64(len(l)) - 1, int64(len(l))} {
				first, second := impl.ChainOf(l, coins, k), impl.ChainOf(l, coins, k)
				want := slices.Clone(second)
				first = first[:cap(first)]
				for i := range first {
					first[i] = 77
				}
				if !slices.Equal(second, want) || !slices.Equal(impl.ChainOf(l, coins, k), want) {
					t.Fatalf("a list that was written into changed another one: %v, %v", second, impl.ChainOf(l, coins, k))
				}
			}
		}
	}
}

func TestChainLeavesListAndCoinsAsTheyAre(t *testing.T) {
	lists := [][]impl.Knot{nil, fullRounds(3, 20), fullRounds(4, 7), twoOfLaterRound(), bothSealed()}
	for _, laces := range wrongLaces() {
		lists = append(lists, laces[0])
	}
	for _, given := range [][]int64{{}, {2}, {1, 0, 3, 2, 1, 0}, {4}, {0, 0, 0, 0, 0, 0, 0}} {
		whole := slices.Concat(given, []int64{77, 78, 79, 80, 81, 82, 83})
		coins, before := whole[:len(given)], slices.Clone(whole)
		for _, list := range lists {
			l, room := roomy(list)
			knots := slices.Clone(room)
			for _, k := range []int64{-1, 0, 9, int64(len(l)) - 1, int64(len(l))} {
				earlier, chain := impl.Earlier(l, coins, k), impl.ChainOf(l, coins, k)
				if impl.Earlier(l, coins, k) != earlier || !slices.Equal(impl.ChainOf(l, coins, k), chain) {
					t.Fatalf("asked again about %d, the answer is another one", k)
				}
				for _, x := range []int64{-1, 0, k, earlier} {
					if impl.OnChain(l, coins, k, x) != slices.Contains(chain, x) {
						t.Fatalf("OnChain %d of %d is not as ChainOf %v", k, x, chain)
					}
				}
			}
			if !slices.Equal(room, knots) {
				t.Fatalf("%+v was changed into %+v", knots, room)
			}
		}
		if !slices.Equal(whole, before) {
			t.Fatalf("%v was changed into %v", before, whole)
		}
	}
}
