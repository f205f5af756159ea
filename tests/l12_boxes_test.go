package tests

import (
	"fmt"
	"math"
	"math/rand"
	"slices"
	"testing"

	"loop.example/g00318/impl"
)

// boxAsTold is a box's form, made apart from the program, whether it is right or not.
func boxAsTold(key, body int64) impl.Box {
	return impl.Box{Key: key, Term: fmt.Sprintf("e(k%d,a%d)", key, body)}
}

func makeBox(t *testing.T, l []impl.Epoch, key, body int64) impl.Box {
	t.Helper()
	b, ok := impl.BoxOf(l, key, body)
	if !ok || b != boxAsTold(key, body) || !impl.BoxOk(b) {
		t.Fatalf("%v, %d, %d: got %v, %v", l, key, body, b, ok)
	}
	return b
}

func wantNoBox(t *testing.T, l []impl.Epoch, key, body int64) {
	t.Helper()
	if b, ok := impl.BoxOf(l, key, body); ok || b != (impl.Box{}) {
		t.Errorf("%v, %d, %d: got %v, %v", l, key, body, b, ok)
	}
}

func wantBody(t *testing.T, l []impl.Epoch, known []string, b impl.Box, want int64) {
	t.Helper()
	if body, ok := impl.OpenBox(l, known, b); !ok || body != want {
		t.Fatalf("%v, %q, %v: got %d, %v, want %d", l, known, b, body, ok, want)
	}
}

func wantShut(t *testing.T, l []impl.Epoch, known []string, b impl.Box) {
	t.Helper()
	if body, ok := impl.OpenBox(l, known, b); ok || body != 0 {
		t.Fatalf("%v, %q, %v: got %d, %v", l, known, b, body, ok)
	}
}

func wantReaders(t *testing.T, l []impl.Epoch, b impl.Box, want ...int64) {
	t.Helper()
	if got := impl.ReadersOf(l, b); !slices.Equal(got, want) {
		t.Fatalf("%v, %v: got %v, want %v", l, b, got, want)
	}
}

func ownKey(member int64) []string {
	return []string{fmt.Sprintf("k%d", member)}
}

// everyone is epochs of all whom there can be, whose keys lie at both ends and between.
func everyone() []impl.Epoch {
	return []impl.Epoch{epoch(100, 1, 2, 3, 4, 5), epoch(101, 1, 2, 3, 4, 5), epoch(150, 1, 2, 3, 4, 5), epoch(198, 1, 2, 3, 4, 5), epoch(199, 1, 2, 3, 4, 5)}
}

func wrongBoxes() []impl.Box {
	l := []impl.Box{{}, {Key: 101}, {Term: "e(k101,a7)"}, {Key: 101, Term: "e(k100,a7)"}, {Key: 101, Term: "e(k102,a7)"}, {Key: 199, Term: "e(k200,a7)"}, {Key: 100, Term: "e(k99,a7)"}, {Key: 101, Term: "e(k1,a7)"}}
	for _, key := range []int64{math.MinInt64, -101, -1, 0, 1, 7, 10, 99, 200, 201, 999, 1000, math.MaxInt64} {
		l = append(l, boxAsTold(key, 7))
	}
	for _, body := range []int64{math.MinInt64, -60, -1, 61, 62, 100, 600, 999, 1000, math.MaxInt64} {
		l = append(l, boxAsTold(101, body))
	}
	for _, term := range []string{
		"a7", "k101", "k7", "v7", "e", "e(", "e(k101", "e(k101,", "e(k101,)", "e(k101,a)", "e(k101,a7", "(k101,a7)", "e(k101a7)", "e(a7)", "e(101,a7)", "e(k101,7)", "ek101,a7)", "e(k,a7)",
		"s(k101,a7)", "h(a7)", "p(k101,a7)", "e(k101,k7)", "e(k101,v7)", "e(k101,h(a7))", "e(k101,p(a7,a7))", "e(k101,e(k101,a7))", "e(k101,s(k101,a7))", "s(k101,e(k101,a7))", "h(e(k101,a7))", "p(e(k101,a7),e(k101,a7))",
		"e(k101,a07)", "e(k101,a00)", "e(k0101,a7)", "e(k101,a+7)", "e(k101,a-0)", "e(k101,a7.0)", "e(k101,a0000000000)", "e(k101,a4294967303)", "e(k101,a18446744073709551623)", "e(k18446744073709551717,a7)", "e(a101,a7)", "e(v101,a7)",
		" e(k101,a7)", "e(k101,a7) ", "e(k101, a7)", "e( k101,a7)", "e(k101,a7)\n", "e(k101,a7)\x00", "\x00", "e(k101,a7)e(k101,a7)", "E(k101,a7)", "e(K101,a7)", "e(k101,A7)", "e(k101;a7)", "e[k101,a7]", "e(k101,a7,a7)",
	} {
		l = append(l, impl.Box{Key: 101, Term: term})
	}
	return l
}

func TestBoxesThatAreRight(t *testing.T) {
	for key := int64(90); key <= 210; key++ {
		for body := int64(-3); body <= 70; body++ {
			b, right := boxAsTold(key, body), key >= 100 && key <= 199 && body >= 0 && body <= 60
			if impl.BoxOk(b) != right {
				t.Fatalf("%v: right is %v", b, right)
			}
		}
	}
	for _, b := range wrongBoxes() {
		if impl.BoxOk(b) {
			t.Errorf("%v is taken", b)
		}
	}
}

// TestWrongBoxes has none opened, neither by a member nor by who knows all keys.
func TestWrongBoxes(t *testing.T) {
	all := []string{"a7", "e(k101,a7)", "k1", "k100", "k101", "k150", "k198", "k199", "k2"}
	for _, b := range wrongBoxes() {
		for _, known := range [][]string{nil, all, ownKey(1), {"k101"}} {
			wantShut(t, everyone(), known, b)
		}
		wantReaders(t, everyone(), b)
		wantReaders(t, nil, b)
	}
}

func TestBoxesMade(t *testing.T) {
	l := everyone()
	for key := int64(90); key <= 210; key++ {
		there := slices.ContainsFunc(l, func(e impl.Epoch) bool { return e.Key == key })
		for body := int64(-3); body <= 70; body++ {
			if there && body >= 0 && body <= 60 {
				makeBox(t, l, key, body)
			} else {
				wantNoBox(t, l, key, body)
			}
		}
		wantNoBox(t, nil, key, 7)
	}
	makeBox(t, []impl.Epoch{epoch(150)}, 150, 60)
	for _, number := range []int64{math.MinInt64, math.MinInt64 + 101, -101, 1000, 4294967303, math.MaxInt64} {
		wantNoBox(t, l, 101, number)
		wantNoBox(t, l, number, 7)
	}
}

func TestBoxesOfWrongEpochs(t *testing.T) {
	for _, l := range wrongEpochs() {
		for _, key := range []int64{101, 102, 99, 200, 0} {
			wantNoBox(t, l, key, 7)
			b := boxAsTold(key, 7)
			wantReaders(t, l, b)
			for _, known := range [][]string{ownKey(1), {fmt.Sprintf("k%d", max(key, 0))}} {
				wantShut(t, l, known, b)
			}
		}
	}
}

// TestJustReadersReadTheBody asks promise 12 of every box of random epochs.
func TestJustReadersReadTheBody(t *testing.T) {
	r := rand.New(rand.NewSource(120))
	for range 300 {
		l := randomEpochs(r)
		for _, e := range l {
			body := int64(r.Intn(61))
			b := makeBox(t, l, e.Key, body)
			wantReaders(t, l, b, e.Members...)
			for m := int64(0); m <= 7; m++ {
				if slices.Contains(e.Members, m) {
					wantBody(t, l, ownKey(m), b, body)
				} else {
					wantShut(t, l, ownKey(m), b)
				}
			}
			wantShut(t, l, nil, b)
			wantBody(t, l, []string{fmt.Sprintf("k%d", e.Key)}, b, body)
		}
	}
}

func TestEveryBodyIsRead(t *testing.T) {
	l := everyone()
	for _, e := range l {
		for body := int64(0); body <= 60; body++ {
			wantBody(t, l, ownKey(5), makeBox(t, l, e.Key, body), body)
		}
	}
}

// TestWhoJoinsOrLeaves has members read just the boxes of the epochs that they are in.
func TestWhoJoinsOrLeaves(t *testing.T) {
	l := []impl.Epoch{epoch(101, 1, 2), epoch(102, 1, 2, 3), epoch(103, 1, 3), epoch(104)}
	for _, c := range []struct{ key, member, body int64 }{{101, 1, 1}, {101, 2, 1}, {102, 1, 2}, {102, 2, 2}, {102, 3, 2}, {103, 1, 0}, {103, 3, 0}} {
		wantBody(t, l, ownKey(c.member), makeBox(t, l, c.key, c.body), c.body)
	}
	for _, c := range []struct{ key, member int64 }{{101, 3}, {103, 2}, {104, 1}, {104, 2}, {104, 3}, {101, 4}, {102, 104}} {
		wantShut(t, l, ownKey(c.member), makeBox(t, l, c.key, 9))
	}
	wantReaders(t, l, boxAsTold(103, 9), 1, 3)
	wantReaders(t, l, boxAsTold(104, 9))
	// No epoch has the key, so there are no readers, and who knows it does not read.
	wantReaders(t, l, boxAsTold(105, 9))
	wantShut(t, l, []string{"k105"}, boxAsTold(105, 9))
	wantShut(t, nil, []string{"k101"}, boxAsTold(101, 9))
	// The body is read of any box of that key, not just of those that were made here.
	wantBody(t, l, []string{"k104"}, boxAsTold(104, 0), 0)
}

func TestBoxesOpenedByWhatIsKnown(t *testing.T) {
	l := []impl.Epoch{epoch(101, 1, 2), epoch(102, 3), epoch(103)}
	b := makeBox(t, l, 103, 33)
	for _, known := range [][]string{
		{"k103"}, {"e(k101,k103)", "k2"}, {"e(k101,k3)", "e(k102,k103)", "k1"}, {"s(k9,p(a1,k103))"}, {"e(k7,k103)", "e(k8,k7)", "k8"}, append(atoms(29), "k103"),
	} {
		wantBody(t, l, known, b, 33)
	}
	for _, known := range [][]string{
		nil, {"k1", "k2", "k3"}, {"h(k103)"}, {"a103", "v103"}, {"e(k103,k103)"}, {"e(k102,k103)", "k1"}, {b.Term, "k1"}, {"e(k7,k103)", "e(k8,k7)"},
		append(atoms(30), "k103"), {"k103", "k103"}, {"k103", "k1"}, {"k103", "x"}, {"", "k103"}, {"k0103"},
	} {
		wantShut(t, l, known, b)
	}
}

// TestBoxesLeaveTheirArguments asks promise 19 of boxes.
func TestBoxesLeaveTheirArguments(t *testing.T) {
	alike := func(a, b impl.Epoch) bool { return a.Key == b.Key && slices.Equal(a.Members, b.Members) }
	members, membersAsTheyWere := roomy([]int64{1, 3}, 77, func(a, b int64) bool { return a == b })
	l, asItWas := roomy([]impl.Epoch{epoch(101, 1), {Key: 102, Members: members}}, epoch(7, 7), alike)
	known, knownAsItWas := roomy([]string{"a1", "k3"}, "mark", sameText)
	for range 2 {
		b := makeBox(t, l, 102, 60)
		wantBody(t, l, known, b, 60)
		wantShut(t, l, known, makeBox(t, l, 101, 60))
		readers := impl.ReadersOf(l, b)
		clear(readers[:cap(readers)])
		wantReaders(t, l, b, 1, 3)
		if !asItWas() || !membersAsTheyWere() || !knownAsItWas() {
			t.Fatal("an argument was changed")
		}
	}
}
