package tests

import (
	"math"
	"slices"
	"testing"

	"loop.example/g00418/impl"
)

const fullSet = 1<<60 - 1

var rightSets = []int64{0, 1, 2, 3, 9, 1 << 30, 1<<31 | 1, 1 << 32, 1 << 59, 1<<59 | 1, 0x555555555555555, 0xAAAAAAAAAAAAAAA, fullSet - 1, fullSet}

var wrongSets = []int64{-1, -2, -(1 << 59), math.MinInt64, math.MinInt64 + 1, 1 << 60, 1<<60 | 9, 1 << 61, 1 << 62, math.MaxInt64}

var wrongMembers = []int64{-1, -2, -60, -64, math.MinInt64, 60, 61, 63, 64, 65, 123, 1 << 32, math.MaxInt64}

func TestSetOk(t *testing.T) {
	for _, s := range rightSets {
		if !impl.SetOk(s) {
			t.Errorf("SetOk(%d) is false", s)
		}
	}
	for _, s := range wrongSets {
		if impl.SetOk(s) {
			t.Errorf("SetOk(%d) is true", s)
		}
	}
}

func TestInSet(t *testing.T) {
	cases := []struct {
		s, i int64
		want bool
	}{
		{9, 0, true}, {9, 1, false}, {9, 2, false}, {9, 3, true}, {9, 4, false},
		{0, 0, false}, {0, 59, false},
		{1, 0, true}, {1, 59, false}, {1 << 59, 59, true}, {1 << 59, 0, false}, {1 << 59, 58, false},
		{fullSet, 0, true}, {fullSet, 31, true}, {fullSet, 32, true}, {fullSet, 59, true},
	}
	for _, c := range cases {
		if got := impl.InSet(c.s, c.i); got != c.want {
			t.Errorf("InSet(%d, %d) is %v", c.s, c.i, got)
		}
	}
}

func TestInSetOfWrongInputs(t *testing.T) {
	for _, s := range wrongSets {
		for i := int64(-1); i <= 64; i++ {
			if impl.InSet(s, i) {
				t.Errorf("InSet(%d, %d) is true", s, i)
			}
		}
	}
	for _, i := range wrongMembers {
		for _, s := range slices.Concat(rightSets, wrongSets) {
			if impl.InSet(s, i) {
				t.Errorf("InSet(%d, %d) is true", s, i)
			}
		}
	}
}

func TestMembers(t *testing.T) {
	cases := []struct {
		s    int64
		want []int64
	}{
		{0, nil}, {1, []int64{0}}, {9, []int64{0, 3}}, {11, []int64{0, 1, 3}},
		{1 << 59, []int64{59}}, {1<<59 | 1<<32 | 1<<31 | 1, []int64{0, 31, 32, 59}},
	}
	for _, c := range cases {
		if got := impl.Members(c.s); !slices.Equal(got, c.want) {
			t.Errorf("Members(%d) is %v, not %v", c.s, got, c.want)
		}
	}
	full := impl.Members(fullSet)
	if len(full) != 60 || full[0] != 0 || full[59] != 59 {
		t.Errorf("Members of the full set is %v", full)
	}
	for _, s := range wrongSets {
		if got := impl.Members(s); len(got) != 0 {
			t.Errorf("Members(%d) is %v", s, got)
		}
	}
}

func TestMembersAreNewMemory(t *testing.T) {
	first := impl.Members(11)
	second := impl.Members(11)
	for i := range first {
		first[i] = 77
	}
	if want := []int64{0, 1, 3}; !slices.Equal(second, want) || !slices.Equal(impl.Members(11), want) {
		t.Errorf("a list that was written into changed another one: %v, %v", second, impl.Members(11))
	}
}

func TestSizeOf(t *testing.T) {
	cases := []struct{ s, want int64 }{
		{0, 0}, {1, 1}, {9, 2}, {11, 3}, {1 << 59, 1}, {0x555555555555555, 30}, {fullSet - 1, 59}, {fullSet, 60},
	}
	for _, c := range cases {
		if got := impl.SizeOf(c.s); got != c.want {
			t.Errorf("SizeOf(%d) is %d, not %d", c.s, got, c.want)
		}
	}
	for _, s := range wrongSets {
		if got := impl.SizeOf(s); got != -1 {
			t.Errorf("SizeOf(%d) is %d, not -1", s, got)
		}
	}
}

func TestWith(t *testing.T) {
	cases := []struct{ s, i, want int64 }{
		{0, 0, 1}, {0, 59, 1 << 59}, {9, 1, 11}, {9, 0, 9}, {9, 3, 9}, {0, 31, 1 << 31}, {0, 32, 1 << 32},
		{fullSet, 0, fullSet}, {fullSet, 59, fullSet}, {fullSet - 1, 0, fullSet}, {1<<59 - 1, 59, fullSet},
	}
	for _, c := range cases {
		if got := impl.With(c.s, c.i); got != c.want {
			t.Errorf("With(%d, %d) is %d, not %d", c.s, c.i, got, c.want)
		}
	}
}

func TestWithOfWrongInputs(t *testing.T) {
	for _, s := range wrongSets {
		for i := int64(-1); i <= 64; i++ {
			if got := impl.With(s, i); got != s {
				t.Errorf("With(%d, %d) is %d", s, i, got)
			}
		}
	}
	for _, i := range wrongMembers {
		for _, s := range slices.Concat(rightSets, wrongSets) {
			if got := impl.With(s, i); got != s {
				t.Errorf("With(%d, %d) is %d", s, i, got)
			}
		}
	}
}

// Promise 1: what is put in is there, and all else is as it was.
func TestWhatIsPutInIsThere(t *testing.T) {
	for _, s := range rightSets {
		for i := int64(0); i < 60; i++ {
			more := impl.With(s, i)
			if !impl.SetOk(more) || !impl.InSet(more, i) || !slices.Contains(impl.Members(more), i) {
				t.Fatalf("With(%d, %d) is %d, and %d is not there", s, i, more, i)
			}
			for other := int64(0); other < 60; other++ {
				if other != i && impl.InSet(more, other) != impl.InSet(s, other) {
					t.Fatalf("With(%d, %d) changed %d", s, i, other)
				}
			}
			if impl.With(more, i) != more {
				t.Fatalf("With(%d, %d) a second time is another set", s, i)
			}
		}
	}
}

// All questions about one set tell of the same members.
func TestSetQuestionsTellTheSame(t *testing.T) {
	for _, s := range rightSets {
		var inside []int64
		for i := int64(-3); i < 70; i++ {
			if impl.InSet(s, i) {
				inside = append(inside, i)
			}
		}
		if got := impl.Members(s); !slices.Equal(got, inside) || impl.SizeOf(s) != int64(len(got)) {
			t.Errorf("of %d: InSet tells %v, Members %v, SizeOf %d", s, inside, got, impl.SizeOf(s))
		}
		built := int64(0)
		for _, i := range slices.Backward(inside) {
			built = impl.With(built, i)
		}
		if built != s {
			t.Errorf("the members of %d, put in one by one, make %d", s, built)
		}
	}
}
