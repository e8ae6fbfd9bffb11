package tests

import (
	"math"
	"slices"
	"testing"

	"loop.example/g00418/impl"
)

// What is told of fullRounds(3, 20) when waves 0, 1 and 2 are there.
var (
	toldOne   = []int64{0}
	toldTwo   = []int64{0, 1, 2, 3, 4, 5, 6, 7, 8, 10}
	toldThree = []int64{0, 1, 2, 3, 4, 5, 6, 7, 8, 10, 9, 11, 12, 13, 14, 15, 16, 17, 20}
)

func sameLog(a, b impl.Log) bool {
	return slices.Equal(a.Seen, b.Seen) && slices.EqualFunc(a.Told, b.Told, slices.Equal[[]int64])
}

func copyOfLog(g impl.Log) impl.Log {
	own := impl.Log{Seen: slices.Clone(g.Seen)}
	for _, list := range g.Told {
		own.Told = append(own.Told, slices.Clone(list))
	}
	return own
}

// logOf has OutOf each set, whether that is a right log or not.
func logOf(l []impl.Knot, coins []int64, seen ...int64) impl.Log {
	g := impl.Log{Seen: slices.Clone(seen)}
	for _, s := range seen {
		g.Told = append(g.Told, impl.OutOf(l, coins, s))
	}
	return g
}

// waveLog is a right log of fullRounds(3, 20): nothing is told twice, then the one wave three times, then two, then three.
func waveLog() impl.Log {
	return impl.Log{
		Seen: []int64{0, 63, 511, 511, 1<<17 - 1, 1<<18 - 1, 1<<27 - 1},
		Told: [][]int64{nil, nil, toldOne, toldOne, toldOne, toldTwo, toldThree},
	}
}

// plainOut tells what is told of a set by the words of chapters 9 and 12.
func plainOut(l []impl.Knot, coins []int64) func(int64) []int64 {
	sealers, nodders := plainSealers(l), plainNodders(l)
	return func(s int64) []int64 {
		if last := plainLast(l, plainFirmOnes(l, sealers, coins, s)); last != -1 {
			return plainTale(l, sealers, nodders, coins, last)
		}
		return nil
	}
}

// plainLogOk says what the words of chapter 15 say of a lace and of coins; out is plainOut of them.
func plainLogOk(l []impl.Knot, out func(int64) []int64, g impl.Log) bool {
	if len(g.Seen) > 40 || len(g.Told) != len(g.Seen) {
		return false
	}
	for i, s := range g.Seen {
		if s < 0 || s >= 1<<60 || !plainClosed(l, s) || !slices.Equal(g.Told[i], out(s)) {
			return false
		}
		if i > 0 && (g.Seen[i-1]|s != s || !plainBegins(g.Told[i], g.Told[i-1])) {
			return false
		}
	}
	return true
}

func plainLogged(l []impl.Knot, out func(int64) []int64, g impl.Log, s int64) (impl.Log, bool) {
	if !plainLogOk(l, out, g) {
		return impl.Log{}, false
	}
	longer := copyOfLog(g)
	longer.Seen = append(longer.Seen, s)
	if s < 0 || s >= 1<<60 || !plainClosed(l, s) {
		return g, false
	}
	longer.Told = append(longer.Told, out(s))
	if !plainLogOk(l, out, longer) {
		return g, false
	}
	return longer, true
}

// logsTo logs the sets of g one by one, from the empty log on, and tells where the log is not the beginning of g by then.
func logsTo(t *testing.T, why string, l []impl.Knot, coins []int64, g impl.Log) {
	t.Helper()
	var own impl.Log
	if !impl.LogOk(l, coins, own) {
		t.Fatalf("%s: the empty log is not LogOk", why)
	}
	for i, s := range g.Seen {
		after, is := impl.Logged(l, coins, own, s)
		want := impl.Log{Seen: g.Seen[:i+1], Told: g.Told[:i+1]}
		if !is || !sameLog(after, want) {
			t.Fatalf("%s: Logged %v by %v is %v and %v, not %v and true", why, impl.Members(s), coins, after, is, want)
		}
		if !impl.LogOk(l, coins, after) || !impl.LogOk(l, coins, want) {
			t.Fatalf("%s: %v is not LogOk by %v", why, after, coins)
		}
		if got := impl.LastTold(after); !slices.Equal(got, g.Told[i]) {
			t.Fatalf("%s: LastTold is %v, not %v", why, got, g.Told[i])
		}
		own = after
	}
}

func TestLogged(t *testing.T) {
	three, late, ahead := fullRounds(3, 20), leaderLate(), append(toldAhead(), fullBehind(19)...)
	cases := []struct {
		why   string
		l     []impl.Knot
		coins []int64
		g     impl.Log
	}{
		{"nothing is logged", three, nil, impl.Log{}},
		{"nothing is logged, with empty lists", three, []int64{}, impl.Log{Seen: []int64{}, Told: [][]int64{}}},
		{"the empty set of the empty lace", nil, nil, impl.Log{Seen: []int64{0}, Told: [][]int64{nil}}},
		{"the empty set twice", []impl.Knot{}, nil, impl.Log{Seen: []int64{0, 0}, Told: [][]int64{{}, nil}}},
		{"the empty set, then one", three, nil, impl.Log{Seen: []int64{0, 1}, Told: [][]int64{nil, nil}}},
		{"one alone, of which nothing is told", three, nil, impl.Log{Seen: []int64{255}, Told: [][]int64{nil}}},
		{"one alone, of which one wave is told", three, nil, impl.Log{Seen: []int64{511}, Told: [][]int64{toldOne}}},
		{"one alone, of which three are", three, nil, impl.Log{Seen: []int64{1<<27 - 1}, Told: [][]int64{toldThree}}},
		{"one twice, of which nothing is told", three, nil, impl.Log{Seen: []int64{63, 63}, Told: [][]int64{nil, nil}}},
		{"one three times, of which two waves are told", three, nil, impl.Log{Seen: []int64{1<<18 - 1, 1<<18 - 1, 1<<18 - 1}, Told: [][]int64{toldTwo, toldTwo, toldTwo}}},
		{"wave by wave", three, nil, waveLog()},
		{"by a coin", three, []int64{2}, impl.Log{Seen: []int64{255, 511, 1<<17 - 1}, Told: [][]int64{nil, {2}, {2}}}},
		{"all of a lace, where the hand of no wave ties", three, []int64{3, 3, 3, 3, 3, 3}, impl.Log{Seen: []int64{511, fullSet, fullSet}, Told: [][]int64{nil, nil, nil}}},
		{"sixty of one round", sixtyAtOnce(), nil, impl.Log{Seen: []int64{1 << 59, 1<<59 | 1<<30, fullSet}, Told: [][]int64{nil, nil, nil}}},
		{"a set that is no beginning of the list", late, nil, impl.Log{Seen: []int64{setOf(18), setOf(1, 2, 18, 19, 20, 21), impl.Below(late, 22) | impl.Below(late, 23) | impl.Below(late, 24)}, Told: [][]int64{nil, nil, {18}}}},
		{"two that are doubled in the set", ahead, nil, impl.Log{Seen: []int64{511, 1<<18 - 1, 1<<20 - 1, 1<<29 - 1}, Told: [][]int64{toldOne, toldTwo, toldTwo, {0, 1, 2, 3, 4, 5, 6, 7, 8, 10, 9, 11, 12, 14, 15, 17, 19}}}},
	}
	for _, c := range cases {
		if !impl.LaceOk(c.l) {
			t.Fatalf("%s: it is no lace", c.why)
		}
		logsTo(t, c.why, c.l, c.coins, c.g)
	}
}

// asItIs tells where a set is logged, or the log comes out as another one, or as none.
func asItIs(t *testing.T, why string, l []impl.Knot, coins []int64, g impl.Log, s int64) {
	t.Helper()
	before := copyOfLog(g)
	if !impl.LogOk(l, coins, g) {
		t.Fatalf("%s: %v is not LogOk by %v", why, g, coins)
	}
	if got, is := impl.Logged(l, coins, g, s); is || !sameLog(got, before) {
		t.Errorf("%s: Logged %d behind %v is %v and %v, not as it is and false", why, s, before, got, is)
	}
	if !sameLog(g, before) {
		t.Errorf("%s: %v was changed into %v", why, before, g)
	}
}

func TestLoggedIsRefused(t *testing.T) {
	three, mixed := fullRounds(3, 20), mixedLace()
	logs := []impl.Log{{}, {Seen: []int64{}, Told: [][]int64{}}, logOf(three, nil, 0), logOf(three, nil, 511), waveLog()}
	for _, g := range logs {
		for why, sets := range map[string][]int64{
			"it is no set":     {-1, -2, math.MinInt64, math.MinInt64 + 511, 1 << 60, 1<<60 | 511, 1 << 61, 1<<62 | fullSet, math.MaxInt64},
			"it is not Closed": {8, 511 - 1, 511 - 256 - 4, fullSet - 1, fullSet - 1<<30, 1 << 59, 1<<59 | 1<<27 - 1, 1<<60 - 1<<27},
		} {
			for _, s := range sets {
				asItIs(t, why, three, nil, g, s)
			}
		}
	}
	cases := []struct {
		why  string
		l    []impl.Knot
		last int64
		s    int64
	}{
		{"it is less by one", three, 511, 255},
		{"it is less by the first one", three, 3, 2},
		{"it is less by all", three, 1, 0},
		{"it is less, and as much is told", three, 1<<17 - 1, 511},
		{"it is less, and less is told", three, 1<<18 - 1, 511},
		{"another one of the same size", three, 3, 5},
		{"another one that is greater", three, 1, 6},
		{"more on the one side, less on the other", three, 511 - 128, 511 - 64},
		{"another one of the same size, threads and all", mixed, impl.Below(mixed, 4), impl.Below(mixed, 6)},
		{"a knot that there is none", three[:18], 511, 1<<19 - 1},
		{"a knot that there is none, alone", nil, 0, 1},
		{"a knot that there is none, and far", three[:18], 511, 1<<59 | 1<<18 - 1},
	}
	for _, c := range cases {
		asItIs(t, c.why, c.l, nil, logOf(c.l, nil, c.last), c.s)
		asItIs(t, c.why, c.l, nil, logOf(c.l, nil, 0, c.last, c.last), c.s)
	}
}

// twoTales is a lace with two closed sets, the one a part of the other, of which other things are told.
type twoTales struct {
	l           []impl.Knot
	part, whole int64
	was, is     []int64
}

// otherTale needs laces in which more than one hand is false.
func otherTale() map[string]twoTales {
	late := leaderLate()
	two := twoLeaders()[:10]
	for _, from := range []int64{setOf(7, 8, 9), setOf(4, 5, 6)} {
		for hand := range int64(3) {
			two = append(two, impl.Knot{Hand: hand, Round: 2, From: from})
		}
	}
	return map[string]twoTales{
		"a leader of the same round and of a lesser number": {two, setOf(1, 2, 3, 7, 8, 9, 10, 11, 12), 1<<16 - 1, []int64{3}, []int64{0}},
		"a leader of a greater round, and another chain":    {late, impl.Below(late, 22) | impl.Below(late, 23) | impl.Below(late, 24), 1<<25 - 1, []int64{18}, []int64{0, 1, 2, 3, 4, 5, 6, 7, 8, 9}},
	}
}

// Each Told is OutOf its Seen, and yet that is no log: the one does not begin the other.
func TestLoggedWhatWouldNotBeToldAgain(t *testing.T) {
	for why, c := range otherTale() {
		if !impl.Closed(c.l, c.part) || !impl.Closed(c.l, c.whole) || len(impl.FalseHands(c.l, c.whole)) < 2 {
			t.Fatalf("%s: the lace is not what the test is about", why)
		}
		logsTo(t, why, c.l, nil, impl.Log{Seen: []int64{0, c.part}, Told: [][]int64{nil, c.was}})
		logsTo(t, why, c.l, nil, impl.Log{Seen: []int64{0, c.whole}, Told: [][]int64{nil, c.is}})
		asItIs(t, why, c.l, nil, logOf(c.l, nil, c.part), c.whole)
		asItIs(t, why, c.l, nil, logOf(c.l, nil, 0, c.part, c.part), c.whole)
		for _, g := range []impl.Log{logOf(c.l, nil, c.part, c.whole), logOf(c.l, nil, 0, c.part, c.whole, c.whole)} {
			noLog(t, why, c.l, nil, g, 0, c.part, c.whole)
		}
		for _, told := range [][]int64{c.was, append(slices.Clone(c.was), c.is...), c.is[:len(c.is)-1]} {
			noLog(t, why, c.l, nil, impl.Log{Seen: []int64{c.part, c.whole}, Told: [][]int64{c.was, told}}, c.whole)
		}
	}
}

func TestLoggedUntilFull(t *testing.T) {
	three := fullRounds(3, 20)
	grown, same, empty := impl.Log{}, impl.Log{}, impl.Log{}
	for n := range 40 {
		logs := map[*impl.Log]int64{&grown: 1<<uint(21+n) - 1, &same: 1<<18 - 1, &empty: 0}
		for g, s := range logs {
			longer, is := impl.Logged(three, nil, *g, s)
			if !is || len(longer.Seen) != n+1 || len(longer.Told) != n+1 || !impl.BeginsWith(impl.LastTold(longer), impl.LastTold(*g)) {
				t.Fatalf("a log of %d takes one more: %v and %v", n, is, longer)
			}
			if !sameLog(impl.Log{Seen: longer.Seen[:n], Told: longer.Told[:n]}, *g) || longer.Seen[n] != s {
				t.Fatalf("behind %v came %v", *g, longer)
			}
			*g = longer
		}
	}
	if got := impl.LastTold(grown); !slices.Equal(got, impl.OutOf(three, nil, fullSet)) || len(got) < 45 {
		t.Errorf("of all LastTold is %v", got)
	}
	for _, g := range []impl.Log{grown, same, empty} {
		last := g.Seen[39]
		for _, s := range []int64{last, fullSet, 0, 511, -1} {
			asItIs(t, "there is no room", three, nil, g, s)
		}
		over := impl.Log{Seen: append(slices.Clone(g.Seen), last), Told: append(slices.Clone(g.Told), impl.LastTold(g))}
		noLog(t, "one of each too many", three, nil, over, 0, last, fullSet)
		ahead := impl.Log{Seen: append([]int64{0}, g.Seen...), Told: append([][]int64{nil}, g.Told...)}
		noLog(t, "one of each too many, at the beginning", three, nil, ahead, 0, last, fullSet)
		short := impl.Log{Seen: g.Seen[:39], Told: g.Told[:39]}
		if got, is := impl.Logged(three, nil, short, last); !is || !sameLog(got, g) {
			t.Errorf("a log of 39 is logged one more: %v and %v", got, is)
		}
		if !sameLog(impl.Log{Seen: g.Seen[:39], Told: g.Told[:39]}, short) {
			t.Errorf("a log of 39 is another one by now: %v", short)
		}
	}
	many := impl.Log{Seen: make([]int64, 100000), Told: make([][]int64, 100000)}
	noLog(t, "many too many", three, nil, many, 0, fullSet)
}

// noLog tells where a log that is not right is answered otherwise than the chapter says.
func noLog(t *testing.T, why string, l []impl.Knot, coins []int64, g impl.Log, sets ...int64) {
	t.Helper()
	show := impl.Log{Seen: g.Seen[:min(len(g.Seen), 9)], Told: g.Told[:min(len(g.Told), 9)]}
	if impl.LogOk(l, coins, g) {
		t.Errorf("%s: LogOk is true of %v", why, show)
	}
	for _, s := range sets {
		if got, is := impl.Logged(l, coins, g, s); is || len(got.Seen) != 0 || len(got.Told) != 0 {
			t.Errorf("%s: Logged %d behind %v is %v and %v, not the zero Log and false", why, s, show, got, is)
		}
	}
}

// wrongTold are lists that are not what is told, with the reason.
func wrongTold(told []int64) map[string][][]int64 {
	wrong := map[string][][]int64{
		"one too many":                 {append(slices.Clone(told), 9), append(slices.Clone(told), 0), append([]int64{9}, told...), append(slices.Clone(told), 59, 58), append(slices.Clone(told), -1), append(slices.Clone(told), 60)},
		"told twice, and one too many": {append(slices.Concat(told, told), 0)},
		"many too many":                {make([]int64, 100000)},
	}
	if len(told) == 0 {
		return wrong
	}
	wrong["one too few"] = [][]int64{told[:len(told)-1], told[1:], nil}
	for i := range told {
		for _, no := range []int64{told[i] + 1, -1, 60, told[i] + 1<<32} {
			other := slices.Clone(told)
			other[i] = no
			wrong["another one"] = append(wrong["another one"], other)
		}
	}
	if len(told) > 1 {
		turned := slices.Clone(told)
		slices.Reverse(turned)
		wrong["another order"] = [][]int64{turned, append(slices.Clone(told[1:]), told[0])}
	}
	return wrong
}

func TestLogsOfWhatIsNotTold(t *testing.T) {
	three, g := fullRounds(3, 20), waveLog()
	for i, told := range g.Told {
		for why, lists := range wrongTold(told) {
			for _, list := range lists {
				for _, seen := range [][]int64{g.Seen, g.Seen[:i+1]} {
					wrong := impl.Log{Seen: seen, Told: slices.Clone(g.Told[:len(seen)])}
					wrong.Told[i] = list
					noLog(t, why, three, nil, wrong, g.Seen[i], fullSet)
				}
				noLog(t, why+", and it is all", three, nil, impl.Log{Seen: []int64{g.Seen[i]}, Told: [][]int64{list}}, 0, g.Seen[i], fullSet)
			}
		}
	}
	for _, c := range []struct {
		why string
		g   impl.Log
	}{
		{"told by the words of the next one", impl.Log{Seen: []int64{511, 1<<18 - 1}, Told: [][]int64{toldTwo, toldTwo}}},
		{"told by the words of the one ahead", impl.Log{Seen: []int64{511, 1<<18 - 1}, Told: [][]int64{toldOne, toldOne}}},
		{"each told by the other's words", impl.Log{Seen: []int64{511, 1<<18 - 1}, Told: [][]int64{toldTwo, toldOne}}},
		{"told too early by one", impl.Log{Seen: []int64{255}, Told: [][]int64{toldOne}}},
		{"told too early by one, and then rightly", impl.Log{Seen: []int64{255, 511}, Told: [][]int64{toldOne, toldOne}}},
		{"told by a coin", impl.Log{Seen: []int64{511}, Told: [][]int64{{2}}}},
		{"nothing is told any more", impl.Log{Seen: []int64{511, 1<<18 - 1}, Told: [][]int64{toldOne, nil}}},
	} {
		noLog(t, c.why, three, nil, c.g, 0, 511, fullSet)
	}
	noLog(t, "told without coins", three, []int64{2}, impl.Log{Seen: []int64{511}, Told: [][]int64{toldOne}}, 511)
}

func TestLogsOfOtherNumbersOfLists(t *testing.T) {
	three, g := fullRounds(3, 20), waveLog()
	last := len(g.Seen) - 1
	for why, wrong := range map[string]impl.Log{
		"no Told":                      {Seen: g.Seen},
		"no Told of one":               {Seen: []int64{0}},
		"no Seen":                      {Told: g.Told},
		"no Seen of one":               {Told: [][]int64{nil}},
		"no Seen of one, an empty one": {Seen: []int64{}, Told: [][]int64{{}}},
		"a Told too few":               {Seen: g.Seen, Told: g.Told[:last]},
		"a Told too few, the first":    {Seen: g.Seen, Told: g.Told[1:]},
		"a Seen too few":               {Seen: g.Seen[:last], Told: g.Told},
		"a Seen too few, the first":    {Seen: g.Seen[1:], Told: g.Told},
		"a Told too many":              {Seen: g.Seen, Told: append(slices.Clone(g.Told), toldThree)},
		"an empty Told too many":       {Seen: []int64{0, 63}, Told: [][]int64{nil, nil, nil}},
		"a Seen too many":              {Seen: append(slices.Clone(g.Seen), fullSet), Told: g.Told},
		"an empty Seen too many":       {Seen: []int64{0, 0, 0}, Told: [][]int64{nil, nil}},
		"40 Seen and 41 Told":          {Seen: make([]int64, 40), Told: make([][]int64, 41)},
		"41 Seen and 40 Told":          {Seen: make([]int64, 41), Told: make([][]int64, 40)},
		"many Told":                    {Seen: make([]int64, 1), Told: make([][]int64, 100000)},
		"many Seen":                    {Seen: make([]int64, 100000), Told: make([][]int64, 1)},
	} {
		noLog(t, why, three, nil, wrong, 0, 511, fullSet)
	}
}

func TestLogsOfWrongSets(t *testing.T) {
	three, short, g := fullRounds(3, 20), fullRounds(3, 9), waveLog()
	for _, s := range []int64{-1, -511, math.MinInt64, 1 << 60, 1<<60 | 511, 1 << 62, math.MaxInt64, 8, 511 - 1, 511 - 32, fullSet - 1, 1<<59 | 511, 1 << 59} {
		for i, told := range g.Told {
			for _, list := range [][]int64{nil, told, toldOne} {
				wrong := copyOfLog(g)
				wrong.Seen[i], wrong.Told[i] = s, list
				noLog(t, "no set, or not Closed", three, nil, wrong, 511, s, fullSet)
				noLog(t, "no set, or not Closed, and it is the last one", three, nil, impl.Log{Seen: wrong.Seen[:i+1], Told: wrong.Told[:i+1]}, 511, s, fullSet)
			}
		}
		noLog(t, "no set, or not Closed, and it is all", three, nil, impl.Log{Seen: []int64{s}, Told: [][]int64{nil}}, 0, s, fullSet)
	}
	for _, s := range []int64{1<<28 - 1, 1<<27 | 511, 1 << 59, fullSet} {
		for _, list := range [][]int64{nil, toldOne, toldThree} {
			noLog(t, "a knot that there is none", short, nil, impl.Log{Seen: []int64{s}, Told: [][]int64{list}}, 511, s, 1<<27-1)
			noLog(t, "a knot that there is none, behind others", short, nil, impl.Log{Seen: []int64{511, s}, Told: [][]int64{toldOne, list}}, 511, s, 1<<27-1)
		}
	}
	mixed := mixedLace()
	for why, wrong := range map[string]struct {
		l []impl.Knot
		g impl.Log
	}{
		"less by one":                        {three, logOf(three, nil, 7, 3)},
		"less by one, behind others":         {three, logOf(three, nil, 0, 1, 255, 127)},
		"less by one, ahead of others":       {three, logOf(three, nil, 3, 1, 255, 511)},
		"less by all":                        {three, logOf(three, nil, 1, 0)},
		"less, and as much is told":          {three, logOf(three, nil, 1<<17-1, 511)},
		"less, and then the same again":      {three, logOf(three, nil, 1<<17-1, 1<<16-1, 1<<17-1)},
		"less, and less is told":             {three, logOf(three, nil, 1<<18-1, 511)},
		"another one of the same size":       {three, logOf(three, nil, 1, 2)},
		"another one that is greater":        {three, logOf(three, nil, 1, 6)},
		"within the one behind the next one": {three, logOf(three, nil, 1, 2, 3)},
		"another one, threads and all":       {mixed, logOf(mixed, nil, impl.Below(mixed, 4), impl.Below(mixed, 6))},
	} {
		noLog(t, why, wrong.l, nil, wrong.g, 0, 1<<12-1, wrong.g.Seen[0], wrong.g.Seen[1])
	}
}

func TestLogsOfWhatIsNoLace(t *testing.T) {
	lists := wrongLaces()
	// What has a log in a lace, and would where nobody looked whether it is one.
	lists["a wrong knot behind a tale"] = [][]impl.Knot{append(fullRounds(3, 9), impl.Knot{Hand: 4}), append(fullRounds(3, 20), impl.Knot{}), append(fullRounds(3, 9), impl.Knot{Round: 1})}
	for why, laces := range lists {
		for _, l := range laces {
			for _, g := range []impl.Log{{}, {Seen: []int64{}, Told: [][]int64{}}, {Seen: []int64{0}, Told: [][]int64{nil}}, {Seen: []int64{511}, Told: [][]int64{nil}}, {Seen: []int64{511}, Told: [][]int64{toldOne}}, waveLog()} {
				noLog(t, why, l, nil, g, -1, 0, 1, 511, 1<<27-1, fullSet)
			}
		}
	}
}

// A wrong coin of one wave takes what is told from all others, too, and from those of which nothing is told.
func TestLogsByCoinsThatAreNone(t *testing.T) {
	three := fullRounds(3, 9)
	for why, lists := range wrongCoins() {
		for _, coins := range lists {
			for _, g := range []impl.Log{{}, {Seen: []int64{}, Told: [][]int64{}}, {Seen: []int64{0}, Told: [][]int64{nil}}, {Seen: []int64{63, 63}, Told: [][]int64{nil, nil}}, {Seen: []int64{511}, Told: [][]int64{nil}}, {Seen: []int64{511}, Told: [][]int64{toldOne}}, waveLog()} {
				noLog(t, why, three, coins, g, -1, 0, 1, 511, 1<<27-1)
			}
		}
	}
}

func TestLastTold(t *testing.T) {
	long := make([]int64, 100000)
	long[99999] = 5
	cases := []struct {
		why  string
		g    impl.Log
		want []int64
	}{
		{"none", impl.Log{}, nil},
		{"none, with empty lists", impl.Log{Seen: []int64{}, Told: [][]int64{}}, nil},
		{"one that is nil", impl.Log{Seen: []int64{0}, Told: [][]int64{nil}}, nil},
		{"one that is empty", impl.Log{Seen: []int64{0}, Told: [][]int64{{}}}, nil},
		{"the last one is empty", impl.Log{Seen: []int64{511, 511}, Told: [][]int64{toldOne, {}}}, nil},
		{"the last one is nil", impl.Log{Seen: []int64{511, 511}, Told: [][]int64{toldOne, nil}}, nil},
		{"one", impl.Log{Seen: []int64{511}, Told: [][]int64{{0}}}, []int64{0}},
		{"the first one is empty", impl.Log{Seen: []int64{0, 511}, Told: [][]int64{nil, {0}}}, []int64{0}},
		{"a right log", waveLog(), toldThree},
		{"Seen alone", impl.Log{Seen: []int64{511, 1<<18 - 1}}, nil},
		{"Told alone", impl.Log{Told: [][]int64{toldTwo}}, toldTwo},
		{"Told alone, of two", impl.Log{Told: [][]int64{toldTwo, toldOne}}, toldOne},
		{"more Seen than Told", impl.Log{Seen: []int64{0, 511, 1<<18 - 1}, Told: [][]int64{nil, {4}}}, []int64{4}},
		{"more Told than Seen", impl.Log{Seen: []int64{0}, Told: [][]int64{{1}, {2}, {3}}}, []int64{3}},
		{"sets that are none", impl.Log{Seen: []int64{-1, 1 << 60}, Told: [][]int64{{1}, {2}}}, []int64{2}},
		{"numbers of no knot", impl.Log{Seen: []int64{0}, Told: [][]int64{{math.MinInt64, -1, 60, math.MaxInt64}}}, []int64{math.MinInt64, -1, 60, math.MaxInt64}},
		{"none begins the next one", impl.Log{Seen: []int64{0, 0}, Told: [][]int64{{1, 2, 3}, {3, 2}}}, []int64{3, 2}},
		{"more than 40 of each", impl.Log{Seen: make([]int64, 41), Told: append(make([][]int64, 40), toldTwo)}, toldTwo},
		{"many", impl.Log{Seen: nil, Told: append(make([][]int64, 100000), []int64{7})}, []int64{7}},
		{"a long one", impl.Log{Seen: []int64{0}, Told: [][]int64{long}}, long},
	}
	for _, c := range cases {
		if got := impl.LastTold(c.g); !slices.Equal(got, c.want) {
			t.Errorf("%s: LastTold is %v, not %v", c.why, got[:min(len(got), 9)], c.want[:min(len(c.want), 9)])
		}
	}
}

// keeper is a hand that logs now and then what it has.
type keeper struct {
	g     impl.Log
	grown int
}

// logs holds promise 15 against what is logged: all that was told stands as it was, and begins what is told now.
func (p *keeper) logs(t *testing.T, l []impl.Knot, coins []int64, has int64) {
	t.Helper()
	n := len(p.g.Seen)
	after, is := impl.Logged(l, coins, p.g, has)
	if is != (n < 40) {
		t.Fatalf("Logged %v behind %v is %v", impl.Members(has), p.g, is)
	}
	if !is {
		if !sameLog(after, p.g) {
			t.Fatalf("%v was full, and came to be %v", p.g, after)
		}
		return
	}
	if len(after.Seen) != n+1 || after.Seen[n] != has || !sameLog(impl.Log{Seen: after.Seen[:n], Told: after.Told[:n]}, p.g) {
		t.Fatalf("behind %v came %v", p.g, after)
	}
	now := impl.LastTold(after)
	if !slices.Equal(now, after.Told[n]) || !slices.Equal(now, impl.OutOf(l, coins, has)) {
		t.Fatalf("LastTold of %v is %v", after, now)
	}
	for _, then := range p.g.Told {
		if !impl.BeginsWith(now, then) || !plainBegins(now, then) {
			t.Fatalf("%v was told, and then %v", then, now)
		}
	}
	if n > 0 && len(now) > len(p.g.Told[n-1]) {
		p.grown++
	}
	p.g = after
}

// Promise 15: what is logged stays told, whatever is tied and learned, and whatever one bad hand ties.
func TestWhatIsLoggedStaysTold(t *testing.T) {
	d := dice(15)
	grown, full, same := 0, 0, 0
	for n := range int64(30) {
		r, keepers := newTiers(n%5-1), [4]keeper{}
		coins := someCoins()[d.below(int64(len(someCoins())))]
		for range 700 {
			who := d.below(4)
			switch d.below(18) {
			case 0:
				r.hands[who] = impl.Keeps(r.l, r.hands[who])
			case 1, 2, 3, 4:
				if who != r.bad {
					r.ties(t, who, "")
				}
			case 5:
				if r.bad >= 0 && len(r.l) < 50 {
					r.tiesBadly(&d)
				}
			case 6:
				if who != r.bad && d.below(3) > 0 {
					keepers[who].logs(t, r.l, coins, r.hands[who].Has)
				}
			default:
				r.learns(&d, who)
			}
		}
		for who, p := range keepers {
			if int64(who) == r.bad {
				continue
			}
			p.logs(t, r.l, coins, r.hands[who].Has)
			p.logs(t, r.l, coins, wholeOf(r.l))
			if !impl.LogOk(r.l, coins, p.g) {
				t.Fatalf("%v is not LogOk any more", p.g)
			}
			grown += p.grown
			if len(p.g.Seen) > 1 && len(impl.LastTold(p.g)) > 0 {
				full++
			}
			// What two hands that are not bad were told is the same, as far as it goes.
			for _, q := range keepers[:who] {
				a, b := impl.LastTold(p.g), impl.LastTold(q.g)
				if !impl.BeginsWith(a, b) && !impl.BeginsWith(b, a) {
					t.Fatalf("the one was told %v, the other one %v", a, b)
				}
				if len(a) > 0 && len(b) > 0 {
					same++
				}
			}
		}
	}
	if grown < 100 || full < 60 || same < 60 {
		t.Fatalf("%d times more was told, %d logs have a tale, %d times two hands have: the test says little", grown, full, same)
	}
}

// A hand that learns a drawn lace knot by knot logs each time what it has, until the log is full.
func TestALogGrowsWithWhatAHandHas(t *testing.T) {
	d := dice(51)
	grown, refused := 0, 0
	for n := range int64(12) {
		l := d.risingLace(n%5 - 1)
		coins := someCoins()[d.below(int64(len(someCoins())))]
		has, g := int64(0), impl.Log{}
		for has != wholeOf(l) {
			first := int64(0)
			for impl.InSet(has, first) {
				first++
			}
			more := has | impl.Below(l, min(first+d.below(3), int64(len(l))-1))
			if more == has {
				continue
			}
			after, is := impl.Logged(l, coins, g, more)
			if len(g.Seen) == 40 {
				if is || !sameLog(after, g) {
					t.Fatalf("a log of 40 came to be %v", after)
				}
				refused++
				has = more
				continue
			}
			if !is || !impl.BeginsWith(impl.LastTold(after), impl.LastTold(g)) {
				t.Fatalf("Logged %v behind %v is %v and %v", impl.Members(more), g, after, is)
			}
			if len(impl.LastTold(after)) > len(impl.LastTold(g)) {
				grown++
			}
			has, g = more, after
		}
		if !impl.LogOk(l, coins, g) {
			t.Fatalf("%v is not LogOk", g)
		}
	}
	if grown < 20 || refused < 20 {
		t.Fatalf("%d times more was told, %d were refused: the test says little", grown, refused)
	}
}

// drawnLog is, most of the time, a right log but where more than one hand is false; else one thing of it is another one.
func (d *dice) drawnLog(l []impl.Knot, out func(int64) []int64) impl.Log {
	g, s := impl.Log{}, int64(0)
	for range d.below(5) {
		if d.below(4) > 0 {
			s |= d.closedSet(l)
		}
		g.Seen, g.Told = append(g.Seen, s), append(g.Told, slices.Clone(out(s)))
	}
	if len(g.Seen) == 0 {
		return g
	}
	at := d.below(int64(len(g.Seen)))
	switch d.below(12) {
	case 0:
		g.Seen[at] ^= 1 << uint(d.below(int64(len(l))+1))
	case 1:
		g.Seen[at] = d.closedSet(l)
	case 2:
		g.Told[at] = append(g.Told[at], d.below(60))
	case 3:
		g.Told[at] = g.Told[at][:max(len(g.Told[at])-1, 0)]
	case 4:
		g.Told = g.Told[:at]
	case 5:
		g.Seen = g.Seen[:at]
	}
	return g
}

// LogOk and Logged are what a plain look at all sets and all lists tells.
func TestLogsAreWhatTheWordsSay(t *testing.T) {
	d := dice(1515)
	right, wrong, logged, refused, told := 0, 0, 0, 0, 0
	for n, l := range handLaces() {
		if len(l) == 0 {
			continue
		}
		coins := someCoins()[d.below(int64(len(someCoins())))]
		out := plainOut(l, coins)
		for range 12 {
			g := d.drawnLog(l, out)
			is := plainLogOk(l, out, g)
			if got := impl.LogOk(l, coins, g); got != is {
				t.Fatalf("lace %d: LogOk by %v is %v of %v", n, coins, got, g)
			}
			s := d.closedSet(l)
			if len(g.Seen) > 0 && d.below(3) > 0 {
				s |= g.Seen[len(g.Seen)-1]
			}
			if d.below(8) == 0 {
				s ^= 1 << uint(d.below(62))
			}
			want, may := plainLogged(l, out, g, s)
			got, did := impl.Logged(l, coins, g, s)
			if did != may || !sameLog(got, want) {
				t.Fatalf("lace %d: Logged %v by %v behind %v is %v and %v, not %v and %v", n, impl.Members(s), coins, g, got, did, want, may)
			}
			switch {
			case !is:
				wrong++
			case !may:
				refused++
			default:
				logged++
				told += len(impl.LastTold(got))
			}
			if is {
				right++
			}
		}
	}
	if right < 200 || wrong < 60 || logged < 100 || refused < 30 || told < 500 {
		t.Fatalf("%d logs were right, %d wrong, %d sets logged, %d refused, %d told: the test says little", right, wrong, logged, refused, told)
	}
}

// What is tied later has no say about a log.
func TestALogStaysWhenMoreIsTied(t *testing.T) {
	three, g := fullRounds(3, 20), waveLog()
	for end := 27; end <= 60; end++ {
		l := three[:end]
		if !impl.LogOk(l, nil, g) {
			t.Fatalf("of %d knots LogOk is false", end)
		}
		after, is := impl.Logged(l, nil, g, 1<<27-1)
		if !is || len(after.Seen) != 8 || !slices.Equal(impl.LastTold(after), toldThree) {
			t.Fatalf("of %d knots Logged is %v and %v", end, after, is)
		}
	}
	for end := range 27 {
		noLog(t, "too few knots", three[:end], nil, g, 0, 511, 1<<27-1)
	}
}

// logLists are all lists of numbers that a log has.
func logLists(g impl.Log) [][]int64 { return append([][]int64{g.Seen}, g.Told...) }

// sharedLog is a right log whose lists lie in one array: of Told each one is the beginning of the next, and Seen lies behind them.
func sharedLog() (impl.Log, []int64) {
	g := waveLog()
	whole := slices.Concat(toldThree[:10], g.Seen, []int64{77, 78, 79})
	own := impl.Log{Seen: whole[10:16]}
	for i := range own.Seen {
		own.Told = append(own.Told, whole[:len(g.Told[i])])
	}
	return own, whole
}

func TestLogsAreNewMemory(t *testing.T) {
	three := fullRounds(3, 20)
	for _, s := range []int64{1<<18 - 1, 1<<27 - 1, 511, -1, fullSet} {
		g, whole := sharedLog()
		got, is := impl.Logged(three, nil, g, s)
		want := copyOfLog(got)
		if is != (s == 1<<18-1 || s == 1<<27-1 || s == fullSet) || !is && !sameLog(got, g) {
			t.Fatalf("Logged %d is %v and %v", s, got, is)
		}
		again, _ := impl.Logged(three, nil, g, s)
		overwritten(whole, 99)
		for i := range g.Told {
			g.Told[i] = []int64{98}
		}
		if !sameLog(got, want) {
			t.Fatalf("the log was written into, and %v (%v) came to be %v", want, is, got)
		}
		// Each list of the answer is filled, to the end of its room, with a number of its own.
		for i, list := range logLists(got) {
			overwritten(list, int64(100+i))
		}
		for i, list := range logLists(got) {
			for _, x := range list[:cap(list)] {
				if x != int64(100+i) {
					t.Fatalf("what was written into another list came to be in list %d: %v", i, list[:cap(list)])
				}
			}
		}
		overwritten(got.Told, nil)
		if !sameLog(again, want) {
			t.Fatalf("an answer was written into, and changed another one: %v", again)
		}
	}
	// Where a log goes on from one that came out, both stand for themselves.
	g, _ := impl.Logged(three, nil, impl.Log{}, 511)
	one, _ := impl.Logged(three, nil, g, 1<<18-1)
	two, _ := impl.Logged(three, nil, g, 1<<27-1)
	if !slices.Equal(impl.LastTold(one), toldTwo) || !slices.Equal(impl.LastTold(two), toldThree) || one.Seen[1] != 1<<18-1 || two.Seen[1] != 1<<27-1 {
		t.Fatalf("behind one log came %v and %v", one, two)
	}
	overwritten(one.Told[0], 99)
	if two.Told[0][0] != 0 || g.Told[0][0] != 0 {
		t.Fatalf("what was written into one log is in another one")
	}
}

func TestLastToldIsNewMemory(t *testing.T) {
	for _, list := range [][]int64{{}, {0}, {3, 2, 1}} {
		whole := slices.Concat(list, []int64{77, 78})
		g := impl.Log{Seen: []int64{0}, Told: [][]int64{whole[:len(list)]}}
		first, second := impl.LastTold(g), impl.LastTold(g)
		overwritten(first, 99)
		if !slices.Equal(whole, slices.Concat(list, []int64{77, 78})) || !slices.Equal(second, list) {
			t.Fatalf("what was written into the answer is in %v, and in %v", whole, second)
		}
		overwritten(whole, 99)
		if !slices.Equal(second, list) {
			t.Fatalf("what was written into the log is in the answer: %v", second)
		}
	}
}

// roomyLog is the same log with room behind each of its lists, which holds what nobody may write over; stays tells whether all of that is as it was.
func roomyLog(g impl.Log) (own impl.Log, stays func() bool) {
	seen := slices.Concat(g.Seen, []int64{88, 89})
	var lists, cut [][]int64
	for _, told := range g.Told {
		list := slices.Concat(told, []int64{98, 99})
		lists, cut = append(lists, list), append(cut, list[:len(told)])
	}
	cut = append(cut, []int64{66}, []int64{67})
	wholes, cuts := copyOfLog(impl.Log{Seen: seen, Told: lists}), copyOfLog(impl.Log{Told: cut})
	return impl.Log{Seen: seen[:len(g.Seen)], Told: cut[:len(g.Told)]}, func() bool {
		return sameLog(impl.Log{Seen: seen, Told: lists}, wholes) && sameLog(impl.Log{Told: cut}, cuts)
	}
}

func TestLogsLeaveAllAsItIs(t *testing.T) {
	three := fullRounds(3, 20)
	logs := []impl.Log{{}, logOf(three, nil, 0), logOf(three, nil, 0, 511), waveLog(), {Seen: []int64{-1, 0}, Told: [][]int64{{9, -9}}}, {Seen: []int64{511}, Told: [][]int64{{0, 5}}}}
	for _, list := range [][]impl.Knot{nil, three, leaderLate(), wrongLaces()["two hands"][0], wrongLaces()["too many knots"][0]} {
		l, room := roomy(list)
		knots := slices.Clone(room)
		for _, given := range [][]int64{nil, {2}, {1, 0, 3, 2, 1, 0}, {4}, {0, 0, 0, 0, 0, 0, 0}} {
			whole := slices.Concat(given, []int64{77, 78, 79})
			coins, before := whole[:len(given)], slices.Clone(whole)
			for _, log := range logs {
				g, stays := roomyLog(log)
				for _, s := range []int64{-1, 0, 511, 1<<18 - 1, fullSet} {
					got, is := impl.Logged(l, coins, g, s)
					again, may := impl.Logged(l, coins, g, s)
					if is != may || !sameLog(got, again) || impl.LogOk(l, coins, g) != impl.LogOk(l, coins, g) || !slices.Equal(impl.LastTold(g), impl.LastTold(g)) {
						t.Fatalf("asked again about %v and %d, the answer is another one", log, s)
					}
				}
				if !stays() || !sameLog(g, log) {
					t.Fatalf("%v was changed into %v, or what is behind it was", log, g)
				}
			}
			if !slices.Equal(whole, before) {
				t.Fatalf("%v was changed into %v", before, whole)
			}
		}
		if !slices.Equal(room, knots) {
			t.Fatalf("%+v was changed into %+v", knots, room)
		}
	}
}
