package impl

import "math/bits"

const setRoom = 60

// set is what the program itself works with, so that bits are shifted in this file alone.
type set int64

func (s set) right() bool { return s >= 0 && s < 1<<setRoom }

// A shift by less than 0 panics, so has and with look at i ahead of it.
func (s set) has(i int64) bool { return s.right() && fitsSet(i) && s>>i&1 == 1 }

func (s set) with(i int64) set {
	if !s.right() || !fitsSet(i) {
		return s
	}
	return s | 1<<i
}

func (s set) only(wanted func(int64) bool) set {
	found := set(0)
	for _, i := range picked(s.has) {
		if wanted(i) {
			found = found.with(i)
		}
	}
	return found
}

func (s set) size() int64 { return int64(bits.OnesCount64(uint64(s))) }

func fitsSet(i int64) bool { return i >= 0 && i < setRoom }

// picked goes through all that may be in a set, so what it tells rises.
func picked(wanted func(int64) bool) []int64 {
	list := []int64{}
	for i := range int64(setRoom) {
		if wanted(i) {
			list = append(list, i)
		}
	}
	return list
}

// askSet keeps the one fixed answer for what is no set out of the questions themselves.
func askSet(s int64, ask func(set) int64, otherwise int64) int64 {
	if !set(s).right() {
		return otherwise
	}
	return ask(set(s))
}

func SetOk(s int64) bool { return set(s).right() }

func InSet(s int64, i int64) bool { return set(s).has(i) }

func Members(s int64) []int64 { return picked(set(s).has) }

func SizeOf(s int64) int64 { return askSet(s, set.size, -1) }

func With(s int64, i int64) int64 { return int64(set(s).with(i)) }
