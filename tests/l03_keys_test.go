package tests

import (
	"fmt"
	"math"
	"math/rand"
	"slices"
	"testing"

	"loop.example/g00318/impl"
)

func epoch(key int64, members ...int64) impl.Epoch {
	return impl.Epoch{Key: key, Members: members}
}

// randomEpochs makes at most five epochs whose keys lie by each other.
func randomEpochs(r *rand.Rand) []impl.Epoch {
	var l []impl.Epoch
	for key := int64(100); key < 108 && len(l) < 5; key++ {
		if r.Intn(2) == 0 {
			continue
		}
		e := impl.Epoch{Key: key}
		for m := int64(1); m <= 5; m++ {
			if r.Intn(2) == 0 {
				e.Members = append(e.Members, m)
			}
		}
		l = append(l, e)
	}
	return l
}

func wrongEpochs() [][]impl.Epoch {
	return [][]impl.Epoch{
		{epoch(101), epoch(102), epoch(103), epoch(104), epoch(105), epoch(106)},
		{epoch(99, 1)}, {epoch(200, 1)}, {epoch(0)}, {epoch(math.MinInt64)}, {epoch(math.MaxInt64)},
		{epoch(101, 1), epoch(101, 2)}, {epoch(102, 1), epoch(101, 1)},
		{epoch(101, 0)}, {epoch(101, 6)}, {epoch(101, -1, 1)}, {epoch(101, 1, 1)}, {epoch(101, 2, 1)}, {epoch(101, 1, 2, 3, 4, 5, 6)},
		{epoch(101, 1), epoch(102, 3, 2)},
	}
}

func TestEpochLists(t *testing.T) {
	for _, l := range [][]impl.Epoch{
		nil, {}, {epoch(100, 1)}, {epoch(199, 5)}, {epoch(101)}, {epoch(101, 1, 2, 3, 4, 5)}, {epoch(100, 2), epoch(199, 2)},
		{epoch(101, 1), epoch(102, 1), epoch(103, 1), epoch(104, 1), epoch(105, 1)},
	} {
		if !impl.EpochsOk(l) {
			t.Errorf("%v is refused", l)
		}
	}
	for _, l := range wrongEpochs() {
		if impl.EpochsOk(l) {
			t.Errorf("%v is taken", l)
		}
		if len(impl.WrapsOf(l)) != 0 || len(impl.KeysOf(l, []string{"k1", "k101"})) != 0 {
			t.Errorf("%v: %q, %v", l, impl.WrapsOf(l), impl.KeysOf(l, []string{"k1", "k101"}))
		}
		for _, e := range l {
			for _, m := range e.Members {
				if impl.HasKey(l, m, e.Key) {
					t.Errorf("%v: %d has %d", l, m, e.Key)
				}
			}
		}
	}
}

func TestWraps(t *testing.T) {
	wantTexts(t, "none", impl.WrapsOf(nil))
	wantTexts(t, "no members", impl.WrapsOf([]impl.Epoch{epoch(150)}))
	wantTexts(t, "by bytes", impl.WrapsOf([]impl.Epoch{epoch(100, 2, 5), epoch(199, 1, 2)}), "e(k1,k199)", "e(k2,k100)", "e(k2,k199)", "e(k5,k100)")
	r := rand.New(rand.NewSource(9))
	for range 300 {
		l := randomEpochs(r)
		var want []string
		for _, e := range l {
			for _, m := range e.Members {
				want = append(want, fmt.Sprintf("e(k%d,k%d)", m, e.Key))
			}
		}
		wantTexts(t, "random", impl.WrapsOf(l), rising(want)...)
	}
}

func TestMembersReachJustTheirKeys(t *testing.T) {
	r := rand.New(rand.NewSource(10))
	for range 500 {
		l := randomEpochs(r)
		for m := int64(-1); m <= 7; m++ {
			var want []int64
			for _, e := range l {
				in := slices.Contains(e.Members, m)
				if impl.HasKey(l, m, e.Key) != in {
					t.Fatalf("%v: HasKey of %d and %d", l, m, e.Key)
				}
				if in {
					want = append(want, e.Key)
				}
			}
			if impl.HasKey(l, m, 110) {
				t.Fatalf("%v: a key that is none", l)
			}
			if m < 0 {
				continue
			}
			if got := impl.KeysOf(l, []string{fmt.Sprintf("k%d", m)}); !slices.Equal(got, want) {
				t.Fatalf("%v: %d reaches %v, want %v", l, m, got, want)
			}
		}
	}
}

func TestKeysOfWhatIsKnown(t *testing.T) {
	l := []impl.Epoch{epoch(101, 1, 2), epoch(102, 3), epoch(103)}
	for _, c := range []struct {
		known []string
		want  []int64
	}{
		{nil, nil},
		{[]string{"k101"}, []int64{101}},
		{[]string{"k103"}, []int64{103}},
		{[]string{"k104"}, nil},
		{[]string{"a1", "v1"}, nil},
		{[]string{"h(k1)"}, nil},
		{[]string{"k1", "k3"}, []int64{101, 102}},
		{[]string{"e(k101,k103)", "k2"}, []int64{101, 103}},
		{[]string{"e(k101,k3)", "e(k102,k103)", "k1"}, []int64{101, 102, 103}},
		{[]string{"s(k9,p(a1,k3))"}, []int64{102}},
		{[]string{"k3", "k1"}, nil},
		{[]string{"k1", "x"}, nil},
		{[]string{"k1", "k1"}, nil},
	} {
		if got := impl.KeysOf(l, c.known); !slices.Equal(got, c.want) {
			t.Errorf("%q: %v, want %v", c.known, got, c.want)
		}
	}
}

func TestKeysOfAllThatThereCanBe(t *testing.T) {
	var l []impl.Epoch
	for key := int64(195); key < 200; key++ {
		l = append(l, epoch(key, 1, 2, 3, 4, 5))
	}
	known := append(atoms(29), "k4")
	if got := impl.KeysOf(l, known); !slices.Equal(got, []int64{195, 196, 197, 198, 199}) {
		t.Errorf("thirty known: %v", got)
	}
	if got := impl.KeysOf(l, append(atoms(30), "k4")); len(got) != 0 {
		t.Errorf("thirty-one known: %v", got)
	}
}

func TestKeysLeaveTheirArguments(t *testing.T) {
	alike := func(a, b impl.Epoch) bool { return a.Key == b.Key && slices.Equal(a.Members, b.Members) }
	members, membersAsTheyWere := roomy([]int64{1, 3}, 77, func(a, b int64) bool { return a == b })
	l, asItWas := roomy([]impl.Epoch{epoch(101, 1), {Key: 102, Members: members}}, epoch(7, 7), alike)
	known, knownAsItWas := roomy([]string{"k1", "k2"}, "mark", sameText)
	for range 2 {
		keys, wraps := impl.KeysOf(l, known), impl.WrapsOf(l)
		if !slices.Equal(keys, []int64{101, 102}) || !slices.Equal(wraps, []string{"e(k1,k101)", "e(k1,k102)", "e(k3,k102)"}) || !impl.HasKey(l, 3, 102) {
			t.Errorf("%v %q", keys, wraps)
		}
		clear(keys)
		clear(wraps)
		if !asItWas() || !membersAsTheyWere() || !knownAsItWas() {
			t.Error("an argument was changed")
		}
	}
}
