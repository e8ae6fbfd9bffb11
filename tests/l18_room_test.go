package tests

import (
	"fmt"
	"math"
	"slices"
	"testing"

	"loop.example/g00418/impl"
)

func sameRoom(a, b impl.Room) bool {
	return slices.Equal(a.Lace, b.Lace) && slices.Equal(a.Coins, b.Coins) && slices.Equal(a.Hands, b.Hands) && a.Bad == b.Bad
}

func copyOfRoom(r impl.Room) impl.Room {
	return impl.Room{Lace: slices.Clone(r.Lace), Coins: slices.Clone(r.Coins), Hands: slices.Clone(r.Hands), Bad: r.Bad}
}

// plainRoomOk says what the words of chapter 18 say of a room.
func plainRoomOk(r impl.Room) bool {
	if !plainLace(r.Lace) || len(r.Coins) > 6 || len(r.Hands) != 4 || r.Bad < -1 || r.Bad > 3 {
		return false
	}
	for _, coin := range r.Coins {
		if coin < 0 || coin > 3 {
			return false
		}
	}
	for who, h := range r.Hands {
		if h.Who != int64(who) || !plainHandOk(r.Lace, h) {
			return false
		}
	}
	below := make([]int64, len(r.Lace))
	for a, k := range r.Lace {
		below[a] = setOf(int64(a))
		for _, b := range impl.Members(k.From) {
			below[a] |= below[b]
		}
		if k.Hand == r.Bad {
			continue
		}
		if r.Hands[k.Hand].Kept>>uint(a)&1 == 0 {
			return false
		}
		// None sees what was tied behind it, so it is seen by each later one of its hand, or doubled with it.
		for _, b := range plainOwn(r.Lace, k.Hand, wholeOf(r.Lace[:a])) {
			if below[a]>>uint(b)&1 == 0 {
				return false
			}
		}
	}
	return true
}

// plainHappen says what the words of chapter 18 say of an act in a right room.
func plainHappen(r impl.Room, a impl.Act) (after impl.Room, is bool) {
	after = copyOfRoom(r)
	known := a.Who >= 0 && a.Who <= 3
	switch {
	case a.Kind == 1 && known && a.Who != r.Bad:
		after.Lace, after.Hands[a.Who], is = plainTies(r.Lace, r.Hands[a.Who], a.Word)
	case a.Kind == 2 && known && a.Who != r.Bad && a.Knot >= 0 && a.Knot < int64(len(r.Lace)):
		after.Hands[a.Who], is = plainLearns(r.Lace, r.Hands[a.Who], a.Knot)
	case a.Kind == 3 && known:
		after.Hands[a.Who].Kept, is = r.Hands[a.Who].Has, true
	case a.Kind == 4 && known:
		after.Hands[a.Who].Has, is = r.Hands[a.Who].Kept, true
	case a.Kind == 5 && r.Bad != -1:
		longer := append(slices.Clone(r.Lace), impl.Knot{Hand: r.Bad, Round: a.Round, From: a.From, Word: a.Word})
		if is = plainLace(longer); is {
			after.Lace = longer
		}
	}
	return after, is
}

// emptyRoom is a new room by the words of chapters 13 and 18.
func emptyRoom(coins []int64, bad int64) impl.Room {
	return impl.Room{Coins: coins, Hands: []impl.Hand{{Who: 0, Last: -1}, {Who: 1, Last: -1}, {Who: 2, Last: -1}, {Who: 3, Last: -1}}, Bad: bad}
}

// seated is a room over this lace: each hand but bad has and keeps what its own knots see, and bad has nothing.
func seated(l []impl.Knot, coins []int64, bad int64) impl.Room {
	r := emptyRoom(coins, bad)
	r.Lace = l
	for who := range r.Hands {
		if h := &r.Hands[who]; h.Who != bad {
			for _, k := range plainOwn(l, h.Who, wholeOf(l)) {
				h.Has |= asSet(plainBelow(l, k))
			}
			h.Kept, h.Last = h.Has, plainLastOwn(l, h.Who, h.Has)
		}
	}
	return r
}

// sharing is a room over this lace in which all hands have and keep all of it, bad, too.
func sharing(l []impl.Knot, coins []int64, bad int64) impl.Room {
	r := emptyRoom(coins, bad)
	r.Lace = l
	for who := range r.Hands {
		r.Hands[who] = allOf(l, int64(who))
	}
	return r
}

// with is the same room, but of one hand another state.
func with(r impl.Room, h impl.Hand) impl.Room {
	r = copyOfRoom(r)
	r.Hands[h.Who] = h
	return r
}

// twoFaced is a lace in which hand 3 alone is false: it has shown the one of two to hand 0, the other one to hand 1, and itself ties on neither.
func twoFaced() []impl.Knot {
	return []impl.Knot{
		{Hand: 0}, {Hand: 1}, {Hand: 2, Word: "put a 5"}, {Hand: 3, Word: "one"}, {Hand: 3, Word: "other"},
		{Hand: 0, Round: 1, From: setOf(0, 1, 2, 3)}, {Hand: 1, Round: 1, From: setOf(0, 1, 2, 4)}, {Hand: 2, Round: 1, From: setOf(0, 1, 2)},
		{Hand: 3, Round: 1, From: setOf(0, 1, 2)},
	}
}

// rightRooms are rooms that are right, with what is the thing about each.
func rightRooms() map[string]impl.Room {
	three, four, faced := fullRounds(3, 20), fullRounds(4, 15), twoFaced()
	rooms := map[string]impl.Room{
		"new, none is bad":                                  emptyRoom(nil, -1),
		"new, hand 0 is bad":                                emptyRoom([]int64{1, 2}, 0),
		"new, hand 3 is bad":                                emptyRoom([]int64{0, 1, 2, 3, 0, 1}, 3),
		"three hands, none is bad":                          seated(three[:9], nil, -1),
		"three hands, one of them is bad, and has nothing":  seated(three[:9], nil, 0),
		"three hands, the fourth one is bad":                seated(three[:9], []int64{3}, 3),
		"all have all, none is bad":                         sharing(four[:12], nil, -1),
		"all have all, the bad one, too":                    sharing(four[:12], nil, 2),
		"a full lace":                                       seated(three, nil, -1),
		"a full lace of four hands, one is bad":             seated(four, nil, 1),
		"a full lace of the bad one alone":                  emptyRoom(nil, 2),
		"one knot less than a full lace":                    seated(three[:59], nil, 3),
		"the bad one tied twice":                            seated(faced, []int64{2}, 3),
		"the bad one tied twice, and has it all":            sharing(faced, nil, 3),
		"the bad one has one of its own":                    with(seated(faced, nil, 3), impl.Hand{Who: 3, Has: setOf(3), Kept: setOf(3), Last: 3}),
		"the bad one has more than it keeps":                with(seated(faced, nil, 3), impl.Hand{Who: 3, Has: setOf(0, 1, 2, 4, 6), Kept: setOf(4), Last: 4}),
		"the bad one has what others tied":                  with(seated(faced, nil, 3), impl.Hand{Who: 3, Has: setOf(0, 1, 2, 7), Last: -1}),
		"a hand has more than it keeps":                     with(seated(faced, nil, 3), impl.Hand{Who: 2, Has: 511, Kept: setOf(0, 1, 2, 7), Last: 7}),
		"a hand keeps all, another one what it tied itself": with(seated(four[:8], nil, -1), impl.Hand{Who: 0, Has: 255, Kept: 255, Last: 4}),
	}
	full := rooms["a full lace of the bad one alone"]
	for range 60 {
		full.Lace = append(full.Lace, impl.Knot{Hand: 2})
	}
	rooms["a full lace of the bad one alone"] = full
	return rooms
}

// wrongRooms are rooms that are not right, with the reason; but for it, each would be.
func wrongRooms() map[string][]impl.Room {
	wrong := map[string][]impl.Room{}
	right, faced := seated(fullRounds(4, 3), []int64{2, 0}, -1), seated(twoFaced(), nil, 3)
	all := sharing(fullRounds(4, 3), nil, -1)
	add := func(why string, rooms ...impl.Room) { wrong[why] = append(wrong[why], rooms...) }
	for reason, laces := range wrongLaces() {
		r := emptyRoom(nil, 3)
		r.Lace = laces[0]
		add("the lace is none: "+reason, r)
		r = copyOfRoom(right)
		r.Lace = laces[len(laces)-1]
		add("the lace is none: "+reason, r)
	}
	for reason, lists := range wrongCoins() {
		for _, coins := range lists {
			add("the coins are not right: "+reason, emptyRoom(coins, -1))
		}
		r := copyOfRoom(right)
		r.Coins = lists[0]
		add("the coins are not right: "+reason, r)
	}
	for n := range 4 {
		for _, r := range []impl.Room{emptyRoom(nil, -1), emptyRoom(nil, 3), right, faced} {
			r.Hands = r.Hands[:n]
			add("three Hands, or less", r)
		}
	}
	for _, r := range []impl.Room{emptyRoom(nil, -1), right, faced, all} {
		for _, h := range []impl.Hand{{}, {Who: 3, Last: -1}, {Who: 4, Last: -1}, {Who: 0, Last: -1}, r.Hands[3]} {
			more := copyOfRoom(r)
			more.Hands = append(more.Hands, h)
			add("five Hands, or more", more)
		}
		many := copyOfRoom(r)
		many.Hands = append(many.Hands, make([]impl.Hand, 100000)...)
		add("five Hands, or more", many)
		for _, bad := range slices.Concat([]int64{-5, -3}, notHands[1:]) {
			other := copyOfRoom(r)
			other.Bad = bad
			add("Bad is out of range", other)
		}
		for who := range r.Hands {
			swapped := copyOfRoom(r)
			swapped.Hands[who], swapped.Hands[(who+1)%4] = r.Hands[(who+1)%4], r.Hands[who]
			twice := copyOfRoom(r)
			twice.Hands[who] = r.Hands[(who+1)%4]
			add("a Hand with another Who", swapped, twice)
			for _, no := range slices.Concat(notHands, []int64{int64(who+1) % 4}) {
				named := copyOfRoom(r)
				named.Hands[who].Who = no
				add("a Hand with another Who", named)
			}
		}
	}
	addWrongHands(add, right, seated(right.Lace, nil, 0), seated(right.Lace, nil, 3), faced, all, sharing(right.Lace, nil, 2))
	addLooseKnots(add, right, faced, all)
	return wrong
}

// addWrongHands adds rooms of which one Hand is not right, be it the bad one's.
func addWrongHands(add func(string, ...impl.Room), rooms ...impl.Room) {
	for _, r := range rooms {
		end := int64(len(r.Lace))
		for _, h := range r.Hands {
			last, has, kept, loose, less := h, h, h, h, h
			last.Last++
			has.Has |= setOf(end)
			kept.Kept |= setOf(end)
			loose.Has, loose.Kept, loose.Last = setOf(end-1), setOf(end-1), plainLastOwn(r.Lace, h.Who, setOf(end-1))
			less.Has, less.Kept = 0, setOf(h.Who)
			add("a Hand that is not right", with(r, last), with(r, has), with(r, kept), with(r, loose), with(r, less), with(r, impl.Hand{Who: h.Who}),
				with(r, impl.Hand{Who: h.Who, Has: -1, Kept: -1, Last: h.Last}), with(r, impl.Hand{Who: h.Who, Has: h.Has, Kept: h.Kept, Last: -2}))
		}
	}
}

// addLooseKnots adds rooms whose Hands are all right, but of one that is not bad what it tied is not in Kept, or is doubled.
func addLooseKnots(add func(string, ...impl.Room), right, faced, all impl.Room) {
	for who := range int64(4) {
		last := right.Hands[who].Last
		early := impl.Below(right.Lace, last-4)
		for _, r := range []impl.Room{right, all} {
			for bad := int64(-1); bad < 4; bad++ {
				if r.Bad = bad; bad == who {
					continue
				}
				add("a Knot that its Hand did not keep",
					with(r, impl.Hand{Who: who, Last: -1}),
					with(r, impl.Hand{Who: who, Has: early, Kept: early, Last: last - 4}),
					with(r, impl.Hand{Who: who, Has: impl.AtRound(r.Lace, wholeOf(r.Lace), 0), Kept: setOf(who), Last: who}))
			}
		}
	}
	for bad := int64(-1); bad < 3; bad++ {
		r := sharing(faced.Lace, nil, bad)
		add("two Doubled ones of one that is not Bad", r)
		twice := sharing([]impl.Knot{{Hand: 3}, {Hand: 3}}, nil, bad)
		add("two Doubled ones of one that is not Bad", twice)
	}
	for who := range int64(4) {
		for bad := int64(-1); bad < 4; bad++ {
			if bad != who {
				late := append(fullRounds(4, 3), impl.Knot{Hand: who, Word: "late"})
				later := append(fullRounds(4, 3), impl.Knot{Hand: who, Round: 1, From: setOf((who+1)%4, (who+2)%4, (who+3)%4)})
				add("two Doubled ones of one that is not Bad", seated(late, nil, bad), sharing(late, nil, bad), seated(later, nil, bad), sharing(later, nil, bad))
			}
		}
	}
	for bad := int64(-1); bad < 4; bad++ {
		both := append(twoFaced(), impl.Knot{Hand: 2, Word: "again"})
		add("two Doubled ones of one that is not Bad, and two of Bad's", sharing(both, nil, bad))
	}
}

func TestRoomOk(t *testing.T) {
	for why, r := range rightRooms() {
		if !plainRoomOk(r) {
			t.Fatalf("%s: the room is not what the test is about", why)
		}
		if !impl.RoomOk(r) {
			t.Errorf("%s: RoomOk is false of %+v", why, r.Hands)
		}
		// Whoever else is bad, the room is right as far as the words say so.
		for bad := int64(-3); bad < 6; bad++ {
			other := copyOfRoom(r)
			other.Bad = bad
			if got := impl.RoomOk(other); got != plainRoomOk(other) {
				t.Errorf("%s: RoomOk is %v where %d is bad", why, got, bad)
			}
		}
		for _, coins := range someCoins() {
			other := copyOfRoom(r)
			other.Coins = coins
			if !impl.RoomOk(other) {
				t.Errorf("%s: RoomOk is false with the coins %v", why, coins)
			}
		}
	}
}

var anAct = []impl.Act{
	{Kind: impl.AcTie, Who: 0}, {Kind: impl.AcTie, Who: 3, Word: "x"}, {Kind: impl.AcShow, Who: 1}, {Kind: impl.AcShow, Who: 0, Knot: 1},
	{Kind: impl.AcKeep, Who: 0}, {Kind: impl.AcForget, Who: 2}, {Kind: impl.AcBad}, {Kind: impl.AcBad, Who: 3, Word: "y"}, {}, {Kind: 6},
}

// noRoom tells where one of the functions does not answer a room that is none as it should.
func noRoom(t *testing.T, why string, r impl.Room) {
	t.Helper()
	if impl.RoomOk(r) {
		t.Errorf("%s: RoomOk is true of %d knots, the coins %v, %d hands and Bad %d", why, len(r.Lace), r.Coins[:min(len(r.Coins), 7)], len(r.Hands), r.Bad)
	}
	for _, a := range anAct {
		if got, is := impl.Happen(r, a); !sameRoom(got, impl.Room{}) || is {
			t.Errorf("%s: Happen %+v is a room of %d knots, and %v", why, a, len(got.Lace), is)
		}
	}
	for _, list := range [][]impl.Act{nil, anAct[:1], anAct, make([]impl.Act, 301)} {
		if got := impl.Play(r, list); !sameRoom(got, impl.Room{}) {
			t.Errorf("%s: Play of %d acts is a room of %d knots", why, len(list), len(got.Lace))
		}
	}
	for _, who := range slices.Concat([]int64{0, 1, 2, 3}, notHands) {
		if got := impl.OutAt(r, who); len(got) != 0 {
			t.Errorf("%s: OutAt %d is %v", why, who, got)
		}
	}
}

func TestRoomsThatAreNone(t *testing.T) {
	noRoom(t, "the zero Room", impl.Room{})
	for why, rooms := range wrongRooms() {
		for _, r := range rooms {
			if plainRoomOk(r) {
				t.Fatalf("%s: the room is right, of %d knots, with %+v and Bad %d", why, len(r.Lace), r.Hands, r.Bad)
			}
			noRoom(t, why, r)
		}
	}
}

// A room of which something is told is none all the same where one hand is not right.
func TestNothingIsToldInARoomThatIsNone(t *testing.T) {
	r := sharing(fullRounds(3, 6), nil, -1)
	for who := range int64(4) {
		if got := impl.OutAt(r, who); !slices.Equal(got, toldTwo) {
			t.Fatalf("OutAt %d is %v", who, got)
		}
	}
	for who := range int64(4) {
		wrong := with(r, r.Hands[who])
		wrong.Hands[who].Last--
		noRoom(t, fmt.Sprint("Last of hand ", who), wrong)
	}
	r.Bad = 4
	noRoom(t, "Bad 4", r)
	r.Bad = -2
	noRoom(t, "Bad -2", r)
}

func TestNewRoom(t *testing.T) {
	for _, coins := range append(someCoins(), nil, []int64{}) {
		for bad := int64(-1); bad <= 3; bad++ {
			r, is := impl.NewRoom(coins, bad)
			if !is || !sameRoom(r, emptyRoom(coins, bad)) || !impl.RoomOk(r) {
				t.Errorf("NewRoom of %v and %d is %+v and %v", coins, bad, r, is)
			}
			for who := range int64(4) {
				if out := impl.OutAt(r, who); len(out) != 0 {
					t.Errorf("OutAt %d of a new room is %v", who, out)
				}
			}
		}
		for _, bad := range notHands[1:] {
			if r, is := impl.NewRoom(coins, bad); !sameRoom(r, impl.Room{}) || is {
				t.Errorf("NewRoom of %v and %d, which is out of range, is %+v and %v", coins, bad, r, is)
			}
		}
	}
	for reason, lists := range wrongCoins() {
		for _, coins := range lists {
			for _, bad := range []int64{-1, 0, 3, -2, 4} {
				if r, is := impl.NewRoom(coins, bad); !sameRoom(r, impl.Room{}) || is {
					t.Errorf("%s: NewRoom is %+v and %v", reason, r, is)
				}
			}
		}
	}
}

// happens asks for one act, holds the answer against the words of the chapter and promise 18, and tells what came of it.
func happens(t *testing.T, why string, r impl.Room, a impl.Act) (impl.Room, bool) {
	t.Helper()
	want, may := plainHappen(r, a)
	after, is := impl.Happen(r, a)
	if is != may || !sameRoom(after, want) {
		t.Fatalf("%s: Happen %+v is %v, with %d knots and %+v, not %v, with %d knots and %+v", why, a, is, len(after.Lace), after.Hands, may, len(want.Lace), want.Hands)
	}
	if !impl.RoomOk(after) || !plainRoomOk(after) {
		t.Fatalf("%s: the room is not right any more behind %+v: %+v", why, a, after)
	}
	if len(after.Lace) < len(r.Lace) || !slices.Equal(after.Lace[:len(r.Lace)], r.Lace) || !slices.Equal(after.Coins, r.Coins) || after.Bad != r.Bad {
		t.Fatalf("%s: what stood there was changed by %+v: %+v", why, a, after)
	}
	if !is && !sameRoom(after, r) {
		t.Fatalf("%s: %+v was refused, and the room is not as it was", why, a)
	}
	for who, h := range after.Hands {
		if h != r.Hands[who] && (a.Kind == impl.AcBad || int64(who) != a.Who) {
			t.Fatalf("%s: %+v changed hand %d", why, a, who)
		}
	}
	if played := impl.Play(r, []impl.Act{a}); !sameRoom(played, after) {
		t.Fatalf("%s: Play of %+v alone is %+v", why, a, played)
	}
	return after, is
}

// In each right room each kind of act is done, or not, by each hand, and by what is none.
func TestHappenInEachRoom(t *testing.T) {
	for why, r := range rightRooms() {
		end := int64(len(r.Lace))
		for _, who := range slices.Concat([]int64{0, 1, 2, 3}, notHands) {
			acts := []impl.Act{
				{Kind: impl.AcKeep, Who: who}, {Kind: impl.AcForget, Who: who}, {Kind: impl.AcTie, Who: who}, {Kind: impl.AcTie, Who: who, Word: "put a 5"},
				{Kind: impl.AcTie, Who: who, Word: "Put"}, {Kind: impl.AcBad, Who: who}, {Kind: impl.AcBad, Who: who, Word: "cut a"},
				{Kind: impl.AcBad, Who: who, Round: 1, From: 7}, {Kind: impl.AcBad, Who: who, Round: 2, From: setOf(5, 6, 7)},
				{Kind: impl.AcBad, Who: who, Round: 1, From: 3}, {Kind: impl.AcBad, Who: who, From: 7},
			}
			for _, k := range []int64{0, 1, 2, 3, 4, 6, end - 1, end, end + 1, 59, 60, -1, math.MinInt64, math.MaxInt64, 1 << 32} {
				acts = append(acts, impl.Act{Kind: impl.AcShow, Who: who, Knot: k})
			}
			for _, kind := range []int64{0, 6, 7, -1, 1<<32 + 1, 1<<32 + 3, 1 << 61, math.MinInt64, math.MaxInt64} {
				acts = append(acts, impl.Act{Kind: kind, Who: who, Knot: 1, Round: 1, From: 7, Word: "x"})
			}
			for _, a := range acts {
				_, is := happens(t, why, r, a)
				known := slices.Contains([]int64{0, 1, 2, 3}, who)
				switch a.Kind {
				case impl.AcKeep, impl.AcForget:
					if is != known {
						t.Errorf("%s: Happen %+v is %v", why, a, is)
					}
				case impl.AcTie, impl.AcShow:
					if is && (!known || who == r.Bad) {
						t.Errorf("%s: Happen %+v is true, where %d is bad", why, a, r.Bad)
					}
				case impl.AcBad:
					if is && r.Bad == -1 {
						t.Errorf("%s: Happen %+v is true, where none is bad", why, a)
					}
				default:
					if is {
						t.Errorf("%s: Happen %+v, which is no kind of act, is true", why, a)
					}
				}
			}
		}
	}
}

// The acts one by one, with what each does, written out.
func TestHappen(t *testing.T) {
	faced := with(seated(twoFaced(), []int64{2}, 3), impl.Hand{Who: 2, Has: setOf(0, 1, 2, 4, 6, 7), Kept: setOf(0, 1, 2, 7), Last: 7})
	faced = with(faced, impl.Hand{Who: 3, Has: setOf(0, 4), Kept: setOf(4), Last: 4})
	four := seated(fullRounds(4, 2), nil, -1)
	cases := []struct {
		why  string
		r    impl.Room
		a    impl.Act
		knot impl.Knot
		hand impl.Hand
	}{
		{"the first knot of all", emptyRoom(nil, -1), impl.Act{Kind: impl.AcTie, Who: 2, Word: "first"}, impl.Knot{Hand: 2, Word: "first"}, impl.Hand{Who: 2, Has: 1, Kept: 1}},
		{"it has tied in round 1, of which it has its own alone", seated(fullRounds(4, 2)[:7], nil, 3), impl.Act{Kind: impl.AcTie, Who: 2}, impl.Knot{}, impl.Hand{}},
		{"it ties where its own knot is of the third hand of the round", with(faced, impl.Hand{Who: 2, Has: 511 - setOf(3, 5), Kept: setOf(0, 1, 2, 7), Last: 7}), impl.Act{Kind: impl.AcTie, Who: 2, Word: "x"}, impl.Knot{Hand: 2, Round: 2, From: setOf(6, 7, 8), Word: "x"}, impl.Hand{Who: 2, Has: 1<<10 - 1 - setOf(3, 5), Kept: 1<<10 - 1 - setOf(3, 5), Last: 9}},
		{"it has tied in this round", faced, impl.Act{Kind: impl.AcTie, Who: 2}, impl.Knot{}, impl.Hand{}},
		{"the word is none", emptyRoom(nil, -1), impl.Act{Kind: impl.AcTie, Who: 2, Word: "First"}, impl.Knot{}, impl.Hand{}},
		{"the word is too long", emptyRoom(nil, -1), impl.Act{Kind: impl.AcTie, Who: 2, Word: "thirteenbytes"}, impl.Knot{}, impl.Hand{}},
		{"the word is as long as it may be", emptyRoom(nil, 0), impl.Act{Kind: impl.AcTie, Who: 3, Word: "twelve bytes"}, impl.Knot{Hand: 3, Word: "twelve bytes"}, impl.Hand{Who: 3, Has: 1, Kept: 1}},
		{"the bad one does not tie by AcTie", emptyRoom(nil, 2), impl.Act{Kind: impl.AcTie, Who: 2, Word: "first"}, impl.Knot{}, impl.Hand{}},

		{"a hand is shown a knot", four, impl.Act{Kind: impl.AcShow, Who: 0, Knot: 5}, impl.Knot{}, impl.Hand{Who: 0, Has: setOf(0, 1, 2, 3, 4, 5), Kept: setOf(0, 1, 2, 3, 4), Last: 4}},
		{"a hand is shown a knot of the bad one", faced, impl.Act{Kind: impl.AcShow, Who: 0, Knot: 4}, impl.Knot{}, impl.Hand{Who: 0, Has: setOf(0, 1, 2, 3, 4, 5), Kept: setOf(0, 1, 2, 3, 5), Last: 5}},
		{"a hand is shown what it has", four, impl.Act{Kind: impl.AcShow, Who: 0, Knot: 1}, impl.Knot{}, impl.Hand{}},
		{"a hand is shown what hangs on what it has not", faced, impl.Act{Kind: impl.AcShow, Who: 2, Knot: 5}, impl.Knot{}, impl.Hand{}},
		{"a hand is shown a knot of its own that it has", four, impl.Act{Kind: impl.AcShow, Who: 0, Knot: 4}, impl.Knot{}, impl.Hand{}},
		{"a hand is shown the number behind the last one", four, impl.Act{Kind: impl.AcShow, Who: 0, Knot: 8}, impl.Knot{}, impl.Hand{}},
		{"a hand is shown the number -1", four, impl.Act{Kind: impl.AcShow, Who: 0, Knot: -1}, impl.Knot{}, impl.Hand{}},
		{"the bad one is shown nothing", faced, impl.Act{Kind: impl.AcShow, Who: 3, Knot: 1}, impl.Knot{}, impl.Hand{}},

		{"a hand keeps", faced, impl.Act{Kind: impl.AcKeep, Who: 2}, impl.Knot{}, impl.Hand{Who: 2, Has: setOf(0, 1, 2, 4, 6, 7), Kept: setOf(0, 1, 2, 4, 6, 7), Last: 7}},
		{"a hand keeps what it keeps", faced, impl.Act{Kind: impl.AcKeep, Who: 0}, impl.Knot{}, faced.Hands[0]},
		{"the bad one keeps", faced, impl.Act{Kind: impl.AcKeep, Who: 3}, impl.Knot{}, impl.Hand{Who: 3, Has: setOf(0, 4), Kept: setOf(0, 4), Last: 4}},
		{"a hand forgets", faced, impl.Act{Kind: impl.AcForget, Who: 2}, impl.Knot{}, impl.Hand{Who: 2, Has: setOf(0, 1, 2, 7), Kept: setOf(0, 1, 2, 7), Last: 7}},
		{"a hand forgets nothing", faced, impl.Act{Kind: impl.AcForget, Who: 0}, impl.Knot{}, faced.Hands[0]},
		{"the bad one forgets", faced, impl.Act{Kind: impl.AcForget, Who: 3}, impl.Knot{}, impl.Hand{Who: 3, Has: setOf(4), Kept: setOf(4), Last: 4}},
		{"a hand that has nothing keeps", emptyRoom(nil, 1), impl.Act{Kind: impl.AcKeep, Who: 1}, impl.Knot{}, impl.Hand{Who: 1, Last: -1}},
		{"a hand that has nothing forgets", emptyRoom(nil, 1), impl.Act{Kind: impl.AcForget, Who: 1}, impl.Knot{}, impl.Hand{Who: 1, Last: -1}},
	}
	for _, c := range cases {
		want, may := copyOfRoom(c.r), c.hand != impl.Hand{}
		if may {
			want = with(want, c.hand)
		}
		if may && c.a.Kind == impl.AcTie {
			want.Lace = append(want.Lace, c.knot)
		}
		// What the act does not ask has no say.
		for _, a := range []impl.Act{c.a, otherwise(c.a, 7, -1), otherwise(c.a, math.MinInt64, 1<<62)} {
			got, is := happens(t, c.why, c.r, a)
			if is != may || !sameRoom(got, want) {
				t.Errorf("%s: Happen %+v is %v, with %d knots and %+v", c.why, a, is, len(got.Lace), got.Hands)
			}
		}
	}
}

// otherwise is the same act, with something else in all that its kind does not ask.
func otherwise(a impl.Act, x, y int64) impl.Act {
	if a.Kind != impl.AcBad {
		a.Round, a.From = x, y
	} else {
		a.Who = x
	}
	if a.Kind != impl.AcShow {
		a.Knot = y
	}
	if a.Kind != impl.AcTie && a.Kind != impl.AcBad {
		a.Word = "WORD"
	}
	return a
}

// Whom the bad one may tie is told by the lace alone: neither what its Hand has nor what it tied before has a say.
func TestHappenBad(t *testing.T) {
	right := []impl.Knot{
		{}, {Word: "again"}, {Word: "twelve bytes"}, {Round: 1, From: 7}, {Round: 1, From: 15}, {Round: 1, From: 31, Word: "all"},
		{Round: 1, From: setOf(1, 2, 4)}, {Round: 2, From: setOf(5, 6, 7)}, {Round: 2, From: setOf(0, 3, 4, 5, 6, 8)}, {Round: 2, From: 511},
	}
	wrong := []impl.Knot{
		{Word: "A"}, {Word: "thirteenbytes"}, {From: 1}, {From: -1}, {Round: 1}, {Round: 1, From: -1}, {Round: 1, From: 3}, {Round: 1, From: 24}, {Round: 1, From: setOf(2, 3, 4)},
		{Round: 1, From: setOf(0, 1, 2, 5)}, {Round: 1, From: setOf(0, 1, 2, 9)}, {Round: 1, From: 1 << 60}, {Round: 1, From: math.MinInt64}, {Round: 2, From: 7}, {Round: 2, From: setOf(5, 6)},
		{Round: 3, From: 511}, {Round: 20, From: 7}, {Round: -1}, {Round: -1, From: 7}, {Round: math.MaxInt64, From: 7}, {Round: 1<<32 + 1, From: 7}, {Round: 1, From: 7, Word: "no:"},
	}
	base := with(seated(twoFaced(), nil, 3), impl.Hand{Who: 3, Has: setOf(0, 1, 2, 8), Kept: setOf(0, 1, 2, 8), Last: 8})
	for i, k := range append(slices.Clone(right), wrong...) {
		for _, who := range slices.Concat([]int64{0, 1, 2, 3}, notHands) {
			a := impl.Act{Kind: impl.AcBad, Who: who, Knot: 3 - who, Round: k.Round, From: k.From, Word: k.Word}
			k.Hand = 3
			got, is := happens(t, "the bad one ties", base, a)
			if is != (i < len(right)) || is && !slices.Equal(got.Lace, append(twoFaced(), k)) || !slices.Equal(got.Hands, base.Hands) {
				t.Errorf("Happen %+v is %v, with the lace %+v", a, is, got.Lace)
			}
			// Of the same lace, where none is bad.
			none := seated(append(twoFaced()[:4], twoFaced()[5]), nil, -1)
			if got, is := happens(t, "none is bad", none, a); is || !sameRoom(got, none) {
				t.Errorf("Happen %+v is true, where none is bad", a)
			}
		}
	}
}

// Where the lace is full nothing more is tied; all else is done.
func TestHappenWhereTheLaceIsFull(t *testing.T) {
	for bad := int64(-1); bad < 4; bad++ {
		for _, l := range [][]impl.Knot{fullRounds(3, 20), fullRounds(4, 15), fourthHandLate()} {
			short, full := seated(l[:59], nil, bad), seated(l, nil, bad)
			for who := range int64(4) {
				tie, slip := impl.Act{Kind: impl.AcTie, Who: who, Word: "x"}, impl.Act{Kind: impl.AcBad, Who: who, Word: "x"}
				for _, a := range []impl.Act{tie, slip, {Kind: impl.AcBad, Round: 1, From: 7}} {
					if got, is := happens(t, "it is full", full, a); is || !sameRoom(got, full) {
						t.Errorf("Happen %+v is true, where the lace is full", a)
					}
				}
				if got, is := happens(t, "one may be tied", short, slip); is != (bad != -1) || is && (len(got.Lace) != 60 || got.Lace[59] != impl.Knot{Hand: bad, Word: "x"}) {
					t.Errorf("Happen %+v is %v, where one may be tied and %d is bad", slip, is, bad)
				}
				if h := short.Hands[who]; who != bad {
					next := impl.NextRound(l[:59], h)
					if got, is := happens(t, "one may be tied", short, tie); is != (next != -1) || is && (len(got.Lace) != 60 || got.Lace[59].Round != next || got.Hands[who].Last != 59) {
						t.Errorf("Happen %+v is %v, where one may be tied and NextRound is %d", tie, is, next)
					}
				}
				happens(t, "it is full", full, impl.Act{Kind: impl.AcKeep, Who: who})
				happens(t, "it is full", full, impl.Act{Kind: impl.AcForget, Who: who})
				for k := range int64(60) {
					happens(t, "it is full", full, impl.Act{Kind: impl.AcShow, Who: who, Knot: k})
				}
			}
		}
	}
}

// idle is a list of as many acts as may be, and more than so many: nothing in it is done but what the last ones do.
func idle(n int, last ...impl.Act) []impl.Act {
	list := make([]impl.Act, n)
	for i := range list {
		list[i] = []impl.Act{{}, {Kind: 6, Who: 1}, {Kind: impl.AcTie, Who: -1}, {Kind: impl.AcShow, Who: 1, Knot: 60}, {Kind: impl.AcForget, Who: 2}}[i%5]
	}
	return append(list, last...)
}

func TestPlayOfManyActs(t *testing.T) {
	tie := impl.Act{Kind: impl.AcTie, Who: 1, Word: "last"}
	for why, r := range rightRooms() {
		for n := range 301 {
			if n > 8 && n < 292 {
				continue
			}
			want, _ := plainHappen(r, impl.Act{Kind: impl.AcForget, Who: 2})
			if n < 5 {
				want = r
			}
			if got := impl.Play(r, idle(n)); !sameRoom(got, want) {
				t.Fatalf("%s: Play of %d acts that do nothing is %+v", why, n, got.Hands)
			}
			want, _ = plainHappen(want, tie)
			if n == 300 {
				want = impl.Room{}
			}
			if got := impl.Play(r, idle(n, tie)); !sameRoom(got, want) {
				t.Fatalf("%s: Play of %d acts and a tie is %d knots, and %+v", why, n, len(got.Lace), got.Hands)
			}
		}
		for _, n := range []int{301, 302, 600, 100000} {
			if got := impl.Play(r, idle(n)); !sameRoom(got, impl.Room{}) {
				t.Errorf("%s: Play of %d acts is %+v", why, n, got)
			}
		}
	}
	r, _ := impl.NewRoom(nil, 0)
	slips := slices.Repeat([]impl.Act{{Kind: impl.AcBad, Word: "s"}}, 300)
	if got := impl.Play(r, slips); len(got.Lace) != 60 || !impl.RoomOk(got) || !sameRoom(impl.Play(got, slips), got) {
		t.Errorf("Play of 300 times AcBad is %d knots", len(got.Lace))
	}
	if got := impl.Play(r, append(slips, slips[0])); !sameRoom(got, impl.Room{}) {
		t.Errorf("Play of 301 times AcBad is %d knots", len(got.Lace))
	}
}

// The same acts in another order do something else: what is shown must have been tied.
func TestPlayIsInOrder(t *testing.T) {
	r, _ := impl.NewRoom(nil, 3)
	tie, show := impl.Act{Kind: impl.AcTie, Who: 0}, impl.Act{Kind: impl.AcShow, Who: 1}
	keep, forget := impl.Act{Kind: impl.AcKeep, Who: 1}, impl.Act{Kind: impl.AcForget, Who: 1}
	slip := impl.Act{Kind: impl.AcBad, Word: "s"}
	cases := []struct {
		list []impl.Act
		has  int64
		kept int64
		lace int
	}{
		{nil, 0, 0, 0},
		{[]impl.Act{}, 0, 0, 0},
		{[]impl.Act{tie, show}, 1, 0, 1},
		{[]impl.Act{show, tie}, 0, 0, 1},
		{[]impl.Act{tie, show, keep, forget}, 1, 1, 1},
		{[]impl.Act{tie, show, forget, keep}, 0, 0, 1},
		{[]impl.Act{tie, show, forget, show, keep}, 1, 1, 1},
		{[]impl.Act{tie, tie, show, show, {Kind: 6}, keep}, 1, 1, 1},
		{[]impl.Act{slip, tie, show, keep}, 1, 1, 2},
		{[]impl.Act{slip, show, slip, slip, tie}, 1, 0, 4},
	}
	for _, c := range cases {
		got := impl.Play(r, c.list)
		if len(got.Lace) != c.lace || got.Hands[1] != (impl.Hand{Who: 1, Has: c.has, Kept: c.kept, Last: -1}) {
			t.Errorf("Play of %+v is %d knots, and %+v", c.list, len(got.Lace), got.Hands[1])
		}
	}
}

func TestOutAt(t *testing.T) {
	three := fullRounds(3, 20)
	cases := []struct {
		why   string
		l     []impl.Knot
		coins []int64
		has   int64
		want  []int64
	}{
		{"it has nothing", three, nil, 0, nil},
		{"it has less than a wave", three, nil, 255, nil},
		{"it has a wave", three, nil, 511, toldOne},
		{"it has a wave and some of the next", three, nil, 1<<17 - 1, toldOne},
		{"it has two waves", three, nil, 1<<18 - 1, toldTwo},
		{"it has three waves", three, nil, 1<<27 - 1, toldThree},
		{"it has three waves, and the lace is no longer", three[:27], nil, 1<<27 - 1, toldThree},
		{"another one leads", three, []int64{2}, 511, []int64{2}},
		{"one leads that ties nothing", three, []int64{3}, 511, nil},
		{"one leads that ties nothing, and then another one", three, []int64{3, 1}, 1<<18 - 1, toldTwo},
	}
	for _, c := range cases {
		for bad := int64(-1); bad < 4; bad++ {
			r := sharing(c.l, c.coins, bad)
			last := -1
			for who := range int64(4) {
				own := impl.Hand{Who: who, Has: c.has, Kept: c.has, Last: plainLastOwn(c.l, who, c.has)}
				if who == 3 || who == bad {
					r, last = with(r, own), int(who)
				}
			}
			if !impl.RoomOk(r) || !plainRoomOk(r) {
				t.Fatalf("%s: the room is not what the test is about", c.why)
			}
			for who := range int64(4) {
				want := plainOut(c.l, c.coins)(r.Hands[who].Has)
				if got := impl.OutAt(r, who); !slices.Equal(got, want) || int(who) == last && !slices.Equal(got, c.want) {
					t.Errorf("%s: OutAt %d, where %d is bad, is %v, not %v", c.why, who, bad, got, want)
				}
			}
			for _, who := range notHands {
				if got := impl.OutAt(r, who); len(got) != 0 {
					t.Errorf("%s: OutAt %d, which is no hand, is %v", c.why, who, got)
				}
			}
		}
	}
}

// What a hand has is told, not what it keeps, and what it forgets is told no more.
func TestOutAtIsOfWhatItHas(t *testing.T) {
	r, _ := impl.NewRoom(nil, -1)
	for round := range 6 {
		for who := range int64(3) {
			r, _ = impl.Happen(r, impl.Act{Kind: impl.AcTie, Who: who})
		}
		for n := range r.Lace {
			for who := range int64(4) {
				r, _ = impl.Happen(r, impl.Act{Kind: impl.AcShow, Who: who, Knot: int64(n)})
			}
		}
		want := [][]int64{nil, nil, toldOne, toldOne, toldOne, toldTwo}[round]
		for who := range int64(4) {
			if got := impl.OutAt(r, who); !slices.Equal(got, want) {
				t.Fatalf("behind round %d OutAt %d is %v, not %v", round, who, got, want)
			}
		}
		// Hand 3 ties nothing, so it keeps nothing.
		forgot, _ := impl.Happen(r, impl.Act{Kind: impl.AcForget, Who: 3})
		if got := impl.OutAt(forgot, 3); len(got) != 0 {
			t.Fatalf("OutAt 3 is %v, when it has forgotten", got)
		}
	}
	if !slices.Equal(r.Lace, fullRounds(3, 6)) {
		t.Fatalf("the lace is %+v", r.Lace)
	}
}

// drawnAct is, most of the time, an act that may be done in this room; what its kind does not ask is drawn, too.
func (d *dice) drawnAct(r impl.Room) impl.Act {
	k := d.anyKnot(r.Lace)
	a := impl.Act{Kind: impl.AcShow, Who: d.below(4), Knot: d.below(62) - 1, Round: d.below(22) - 1, From: d.below(1 << 30), Word: []string{"", "a", "put a 1", "WRONG"}[d.below(4)]}
	switch d.below(20) {
	case 0:
		a.Kind = impl.AcKeep
	case 1:
		a.Kind = impl.AcForget - d.below(3)/2
	case 2, 3, 4, 5:
		a.Kind = impl.AcTie
	case 6:
		a.Kind, a.Who = d.below(9)-1, d.below(7)-1
	case 7, 8:
		if len(r.Lace) < 50 {
			return impl.Act{Kind: impl.AcBad, Who: d.below(6) - 1, Knot: a.Knot, Round: k.Round, From: k.From, Word: k.Word}
		}
	default:
		if len(r.Lace) > 0 {
			a.Knot = d.below(int64(len(r.Lace)))
		}
		for h := r.Hands[a.Who]; d.below(8) > 0 && impl.InSet(h.Has, a.Knot); {
			a.Knot++
		}
	}
	return a
}

// Promise 18: a room stays right, whatever happens; and Play is its acts one by one.
func TestARoomStaysRight(t *testing.T) {
	d := dice(18)
	done, refused, told, grown, fakes := [8]int{}, [8]int{}, 0, 0, 0
	for n := range int64(60) {
		coins := someCoins()[d.below(int64(len(someCoins())))]
		first, _ := impl.NewRoom(coins, n%5-1)
		rooms, acts := []impl.Room{first}, []impl.Act{}
		for range 300 {
			r := rooms[len(rooms)-1]
			a := d.drawnAct(r)
			after, is := happens(t, "drawn", r, a)
			if kind := min(max(a.Kind, 0), 6); is {
				done[kind]++
			} else {
				refused[kind]++
			}
			rooms, acts = append(rooms, after), append(acts, a)
		}
		last := rooms[300]
		for range 6 {
			cut := d.below(301)
			if !sameRoom(impl.Play(first, acts[:cut]), rooms[cut]) || !sameRoom(impl.Play(rooms[cut], acts[cut:]), last) {
				t.Fatalf("Play of the first %d acts, or of the others, is not those acts one by one", cut)
			}
		}
		if !sameRoom(impl.Play(first, acts), last) {
			t.Fatalf("Play of 300 acts is not those acts one by one")
		}
		if hands := impl.FalseHands(last.Lace, wholeOf(last.Lace)); len(hands) > 1 || len(hands) == 1 && hands[0] != last.Bad {
			t.Fatalf("FalseHands is %v, where %d is bad", hands, last.Bad)
		} else {
			fakes += len(hands)
		}
		out := plainOut(last.Lace, coins)
		for who := range int64(4) {
			got := impl.OutAt(last, who)
			if !slices.Equal(got, out(last.Hands[who].Has)) || !slices.Equal(got, impl.OutOf(last.Lace, coins, last.Hands[who].Has)) {
				t.Fatalf("OutAt %d is %v, of %v", who, got, impl.Members(last.Hands[who].Has))
			}
			told += min(len(got), 1)
		}
		grown += len(last.Lace)
	}
	for kind := impl.AcTie; kind <= impl.AcBad; kind++ {
		if done[kind] < 200 || refused[kind] < 20 {
			t.Fatalf("of kind %d so many were done, and so many refused: %v, %v: the test says little", kind, done, refused)
		}
	}
	if done[0] != 0 || done[6] != 0 || refused[0] < 50 || refused[6] < 50 || told < 20 || grown < 1000 || fakes < 20 {
		t.Fatalf("so many were done and refused: %v, %v; %d hands told something, %d were tied, %d hands were false: the test says little", done, refused, told, grown, fakes)
	}
}

// roomyRoom is the same room with room behind each of its lists, which holds what nobody may write over; stays tells whether all of that is as it was.
func roomyRoom(r impl.Room) (own impl.Room, stays func() bool) {
	lace, knots := roomy(r.Lace)
	coins := slices.Concat(r.Coins, []int64{77, 78, 79, 80, 81, 82, 83})
	hands := slices.Concat(r.Hands, []impl.Hand{{Who: 9}, {Who: 8, Has: 7}, {Who: 7}, {Who: 6}})
	own = impl.Room{Lace: lace, Coins: coins[:len(r.Coins)], Hands: hands[:len(r.Hands)], Bad: r.Bad}
	whole := impl.Room{Lace: knots, Coins: coins, Hands: hands}
	before := copyOfRoom(whole)
	return own, func() bool { return sameRoom(whole, before) }
}

// spoilt writes into all that a room has, and into the room behind it.
func spoilt(r impl.Room) {
	overwritten(r.Lace, impl.Knot{Hand: 9, Word: "OVER"})
	overwritten(r.Coins, 99)
	overwritten(r.Hands, impl.Hand{Who: 99})
}

func TestRoomsAreNewMemory(t *testing.T) {
	for why, room := range rightRooms() {
		asks := []func(impl.Room) impl.Room{
			func(r impl.Room) impl.Room { return impl.Play(r, nil) },
			func(r impl.Room) impl.Room { return impl.Play(r, anAct) },
			func(r impl.Room) impl.Room { made, _ := impl.NewRoom(r.Coins, r.Bad); return made },
		}
		for _, a := range anAct {
			asks = append(asks, func(r impl.Room) impl.Room { after, _ := impl.Happen(r, a); return after })
		}
		for n, ask := range asks {
			r, stays := roomyRoom(room)
			first, second := ask(r), ask(r)
			want := copyOfRoom(second)
			spoilt(first)
			if !stays() || !sameRoom(second, want) {
				t.Fatalf("%s: answer %d was written into, and changed something else", why, n)
			}
			third := ask(r)
			spoilt(r)
			if !sameRoom(third, want) {
				t.Fatalf("%s: the room was written into, and changed answer %d", why, n)
			}
		}
		for who := range int64(4) {
			first, second := impl.OutAt(room, who), impl.OutAt(room, who)
			want := slices.Clone(second)
			overwritten(first, 99)
			if !slices.Equal(second, want) || !slices.Equal(impl.OutAt(room, who), want) {
				t.Fatalf("%s: what OutAt %d told was written into, and changed something else", why, who)
			}
		}
	}
}

func TestRoomsLeaveAllAsItIs(t *testing.T) {
	var rooms []impl.Room
	for _, r := range rightRooms() {
		rooms = append(rooms, r)
	}
	for _, wrong := range wrongRooms() {
		rooms = append(rooms, wrong[0], wrong[len(wrong)-1])
	}
	for n, room := range rooms {
		r, stays := roomyRoom(room)
		whole := slices.Concat(anAct, idle(5))
		list, acts := whole[:len(anAct)], slices.Clone(whole)
		for _, a := range list {
			got, is := impl.Happen(r, a)
			again, may := impl.Happen(r, a)
			if !sameRoom(got, again) || is != may {
				t.Fatalf("asked again about %+v, the answer is another one", a)
			}
		}
		if !sameRoom(impl.Play(r, list), impl.Play(r, list)) || impl.RoomOk(r) != impl.RoomOk(r) {
			t.Fatalf("room %d: asked again, the answer is another one", n)
		}
		made, is := impl.NewRoom(r.Coins, r.Bad)
		if again, may := impl.NewRoom(r.Coins, r.Bad); !sameRoom(made, again) || is != may {
			t.Fatalf("room %d: asked again, NewRoom is another one", n)
		}
		for _, who := range []int64{-1, 0, 1, 2, 3, 4} {
			if !slices.Equal(impl.OutAt(r, who), impl.OutAt(r, who)) {
				t.Fatalf("room %d: asked again, OutAt %d is another one", n, who)
			}
		}
		if !stays() || !sameRoom(r, room) || !slices.Equal(whole, acts) {
			t.Fatalf("room %d was changed, or the acts, or what is behind them", n)
		}
	}
}
