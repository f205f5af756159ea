package tests

import (
	"fmt"
	"math"
	"math/rand"
	"reflect"
	"slices"
	"strings"
	"testing"

	"loop.example/g00318/impl"
)

func insertOp(id, after int64, sign string) impl.SOp {
	return impl.SOp{Id: id, Kind: impl.SqInsert, After: after, Sign: sign}
}

func deleteOp(id, after int64) impl.SOp {
	return impl.SOp{Id: id, Kind: impl.SqDelete, After: after}
}

func sameOp(a, b impl.SOp) bool { return a == b }

// typed makes the ops of an author who types a text from its first sign on.
func typed(text string, author int64) []impl.SOp {
	var l []impl.SOp
	after := int64(0)
	for i := range len(text) {
		id := int64(10*i+10) + author
		l = append(l, insertOp(id, after, text[i:i+1]))
		after = id
	}
	return l
}

// shownAsTold puts each sign, by rising Id, right behind the one it names: the later, the nearer. Then it takes out what is deleted.
func shownAsTold(l []impl.SOp) []impl.SOp {
	var row []impl.SOp
	for _, op := range l {
		if op.Kind == impl.SqInsert {
			at := slices.IndexFunc(row, func(o impl.SOp) bool { return o.Id == op.After })
			row = slices.Insert(row, at+1, op)
		}
	}
	return slices.DeleteFunc(row, func(o impl.SOp) bool {
		return slices.ContainsFunc(l, func(d impl.SOp) bool { return d.Kind == impl.SqDelete && d.After == o.Id })
	})
}

func wantSeq(t *testing.T, l []impl.SOp, text string, ids ...int64) {
	t.Helper()
	if !impl.SeqOk(l) {
		t.Fatalf("%v is refused", l)
	}
	if got := impl.SeqText(l); got != text {
		t.Fatalf("%v: got the text %q, want %q", l, got, text)
	}
	if got := impl.SeqIds(l); !slices.Equal(got, ids) {
		t.Fatalf("%v: got the ids %v, want %v", l, got, ids)
	}
}

func wantSeqAsTold(t *testing.T, l []impl.SOp) {
	t.Helper()
	var ids []int64
	text := ""
	for _, op := range shownAsTold(l) {
		ids, text = append(ids, op.Id), text+op.Sign
	}
	wantSeq(t, l, text, ids...)
}

func insert(t *testing.T, l []impl.SOp, author, at int64, sign string) []impl.SOp {
	t.Helper()
	m, op, ok := impl.SeqInserted(l, author, at, sign)
	if !ok || !slices.Equal(m, append(slices.Clone(l), op)) {
		t.Fatalf("%v, %d, %d, %q: got %v, %v, %v", l, author, at, sign, m, op, ok)
	}
	return m
}

func takeOut(t *testing.T, l []impl.SOp, author, at int64) []impl.SOp {
	t.Helper()
	m, op, ok := impl.SeqDeleted(l, author, at)
	if !ok || !slices.Equal(m, append(slices.Clone(l), op)) {
		t.Fatalf("%v, %d, %d: got %v, %v, %v", l, author, at, m, op, ok)
	}
	return m
}

func turn(t *testing.T, l []impl.SOp, author int64, text string) []impl.SOp {
	t.Helper()
	m, ops, ok := impl.SeqTurned(l, author, text)
	if !ok || !slices.Equal(m, slices.Concat(l, ops)) {
		t.Fatalf("%v, %d, %q: got %v, %v, %v", l, author, text, m, ops, ok)
	}
	return m
}

func mergeSeqs(t *testing.T, a, b []impl.SOp) []impl.SOp {
	t.Helper()
	m, ok := impl.SeqMerged(a, b)
	if !ok {
		t.Fatalf("%v and %v are not merged", a, b)
	}
	return m
}

func wantNotMergedSeqs(t *testing.T, a, b []impl.SOp) {
	t.Helper()
	if m, ok := impl.SeqMerged(a, b); ok || len(m) != 0 {
		t.Errorf("%v and %v: got %v, %v", a, b, m, ok)
	}
}

func wantNotInserted(t *testing.T, l []impl.SOp, author, at int64, sign string) {
	t.Helper()
	if m, op, ok := impl.SeqInserted(l, author, at, sign); ok || len(m) != 0 || op != (impl.SOp{}) {
		t.Errorf("%v, %d, %d, %q: got %v, %v, %v", l, author, at, sign, m, op, ok)
	}
}

func wantNotDeleted(t *testing.T, l []impl.SOp, author, at int64) {
	t.Helper()
	if m, op, ok := impl.SeqDeleted(l, author, at); ok || len(m) != 0 || op != (impl.SOp{}) {
		t.Errorf("%v, %d, %d: got %v, %v, %v", l, author, at, m, op, ok)
	}
}

func wantNotTurned(t *testing.T, l []impl.SOp, author int64, text string) {
	t.Helper()
	if m, ops, ok := impl.SeqTurned(l, author, text); ok || len(m) != 0 || len(ops) != 0 {
		t.Errorf("%v, %d, %q: got %v, %v, %v", l, author, text, m, ops, ok)
	}
}

// edited puts in and takes out at random places, steps times.
func edited(t *testing.T, r *rand.Rand, l []impl.SOp, author int64, steps int) []impl.SOp {
	t.Helper()
	for range steps {
		if there := len(impl.SeqIds(l)); there > 0 && r.Intn(4) == 0 {
			l = takeOut(t, l, author, int64(r.Intn(there)))
		} else {
			l = insert(t, l, author, int64(r.Intn(there+1)), string(rune('a'+r.Intn(26))))
		}
	}
	return l
}

func wrongSeqs() [][]impl.SOp {
	a := insertOp(1, 0, "a")
	l := [][]impl.SOp{
		{{}}, {{Id: 1}}, {deleteOp(1, 0)}, {deleteOp(1, 1)}, {insertOp(1, 1, "a")}, {insertOp(1, 2, "a")}, {insertOp(1, -1, "a")},
		{insertOp(0, 0, "a")}, {insertOp(-1, 0, "a")}, {insertOp(impl.MaxSign+1, 0, "a")}, {insertOp(math.MinInt64, 0, "a")}, {insertOp(math.MaxInt64, 0, "a")},
		{a, a}, {a, insertOp(1, 0, "b")}, {insertOp(2, 0, "a"), a}, {insertOp(1, 2, "a"), insertOp(2, 0, "b")},
		{a, deleteOp(1, 1)}, {a, deleteOp(2, 0)}, {a, deleteOp(2, 2)}, {a, deleteOp(2, 3)}, {a, deleteOp(2, -1)}, {deleteOp(1, 2), insertOp(2, 0, "a")},
		{a, deleteOp(2, 1), deleteOp(3, 2)}, {a, deleteOp(2, 1), insertOp(3, 2, "b")}, {a, insertOp(2, 3, "b")},
		{a, deleteOp(impl.MaxSign+1, 1)}, {a, insertOp(impl.MaxSign, 0, "b"), deleteOp(impl.MaxSign+1, 1)},
		{a, {Id: 2, Kind: impl.SqDelete, After: 1, Sign: "a"}}, {a, {Id: 2, Kind: impl.SqDelete, After: 1, Sign: "\n"}},
		append(typed(strings.Repeat("a", 40), 1), deleteOp(411, 11)), typed(strings.Repeat("a", 41), 1), slices.Repeat([]impl.SOp{a}, 1000),
	}
	for _, kind := range []int64{math.MinInt64, -1, 0, 3, math.MaxInt64} {
		l = append(l, []impl.SOp{{Id: 1, Kind: kind, Sign: "a"}}, []impl.SOp{a, {Id: 2, Kind: kind, After: 1}}, []impl.SOp{a, {Id: 2, Kind: kind, After: 1, Sign: "a"}})
	}
	for _, sign := range []string{"", "ab", "  ", "\x1f", "\x7f", "\x00", "\n", "\x80", "\xff", "é", "€"} {
		l = append(l, []impl.SOp{insertOp(1, 0, sign)}, []impl.SOp{a, insertOp(2, 1, sign)}, []impl.SOp{insertOp(1, 0, sign), insertOp(2, 0, "a")})
	}
	return l
}

func TestSequenceLists(t *testing.T) {
	wantSeq(t, nil, "")
	wantSeq(t, []impl.SOp{}, "")
	wantSeq(t, []impl.SOp{insertOp(1, 0, " ")}, " ", 1)
	wantSeq(t, []impl.SOp{insertOp(impl.MaxSign, 0, "~")}, "~", impl.MaxSign)
	wantSeq(t, []impl.SOp{insertOp(impl.MaxSign-1, 0, "a"), deleteOp(impl.MaxSign, impl.MaxSign-1)}, "")
	wantSeq(t, []impl.SOp{insertOp(1, 0, "a"), deleteOp(2, 1), deleteOp(3, 1)}, "")
	wantSeq(t, []impl.SOp{insertOp(1, 0, "a"), deleteOp(2, 1), insertOp(3, 1, "b"), insertOp(7, 0, "c")}, "cb", 7, 3)
	full := typed(strings.Repeat("x", 40), 9)
	wantSeqAsTold(t, full)
	wantSeqAsTold(t, append(full[:39:39], deleteOp(impl.MaxSign, 19)))
	for _, l := range wrongSeqs() {
		if impl.SeqOk(l) {
			t.Errorf("%v is taken", l)
		}
		if ids, text := impl.SeqIds(l), impl.SeqText(l); len(ids) != 0 || text != "" {
			t.Errorf("%v: %v, %q", l, ids, text)
		}
		wantNotMergedSeqs(t, l, nil)
		wantNotMergedSeqs(t, nil, l)
		wantNotMergedSeqs(t, l, l)
		wantNotMergedSeqs(t, typed("a", 1), l)
		wantNotMergedSeqs(t, l, typed("a", 1))
		for at := int64(-1); at < 3; at++ {
			wantNotInserted(t, l, 1, at, "a")
			wantNotDeleted(t, l, 1, at)
		}
		for _, text := range []string{"", "a", "ab", "b"} {
			wantNotTurned(t, l, 1, text)
		}
	}
}

// opOkAsTold asks of one op, with those ahead of it, what the chapter asks of it.
func opOkAsTold(ahead []impl.SOp, op impl.SOp) bool {
	for _, o := range ahead {
		if o.Id >= op.Id {
			return false
		}
	}
	named := slices.ContainsFunc(ahead, func(o impl.SOp) bool { return o.Kind == impl.SqInsert && o.Id == op.After })
	switch op.Kind {
	case impl.SqInsert:
		return op.Id >= 1 && op.Sign == "a" && (op.After == 0 || named)
	case impl.SqDelete:
		return op.Id >= 1 && op.Sign == "" && named
	}
	return false
}

// TestSequencesOfFewOps goes through all lists of two ops, and many of three, with small numbers.
func TestSequencesOfFewOps(t *testing.T) {
	var ops []impl.SOp
	for _, kind := range []int64{0, 1, 2, 3} {
		for id := int64(-1); id <= 3; id++ {
			for after := int64(-1); after <= 3; after++ {
				ops = append(ops, impl.SOp{Id: id, Kind: kind, After: after}, insertOp(id, after, "a"), impl.SOp{Id: id, Kind: kind, After: after, Sign: "a"})
			}
		}
	}
	ask := func(l []impl.SOp) {
		t.Helper()
		want := true
		for i, op := range l {
			want = want && opOkAsTold(l[:i], op)
		}
		if impl.SeqOk(l) != want {
			t.Fatalf("%v: got %v", l, !want)
		}
		if want {
			wantSeqAsTold(t, l)
		}
	}
	r := rand.New(rand.NewSource(100))
	for _, a := range ops {
		for _, b := range ops {
			ask([]impl.SOp{a, b})
			c := ops[r.Intn(len(ops))]
			c.Id = 3
			ask([]impl.SOp{a, b, c})
		}
	}
}

func TestSequenceOrder(t *testing.T) {
	// Two first ones, the later of them first; behind each its own, the later first, with all that is theirs.
	l := []impl.SOp{
		insertOp(11, 0, "a"), insertOp(12, 0, "b"), insertOp(21, 11, "c"), insertOp(22, 11, "d"), insertOp(31, 21, "e"),
		insertOp(32, 12, "f"), insertOp(41, 22, "g"), insertOp(42, 21, "h"), insertOp(51, 0, "i"), insertOp(52, 11, "j"),
	}
	wantSeq(t, l, "ibfajdgche", 51, 12, 32, 11, 52, 22, 41, 21, 42, 31)
	wantSeq(t, append(l, deleteOp(61, 11)), "ibfjdgche", 51, 12, 32, 52, 22, 41, 21, 42, 31)
	wantSeq(t, append(l, deleteOp(61, 11), deleteOp(62, 21), deleteOp(63, 51), deleteOp(64, 11)), "bfjdghe", 12, 32, 52, 22, 41, 42, 31)
	r := rand.New(rand.NewSource(101))
	for range 300 {
		wantSeqAsTold(t, randomSeq(r, 40))
	}
}

// randomSeq makes right ops that name any sign, also one that is taken out already.
func randomSeq(r *rand.Rand, most int) []impl.SOp {
	var l []impl.SOp
	named := []int64{0}
	id := int64(0)
	for range r.Intn(most + 1) {
		id += int64(1 + r.Intn(12))
		after := named[r.Intn(len(named))]
		if after != 0 && r.Intn(4) == 0 {
			l = append(l, deleteOp(id, after))
		} else {
			l = append(l, insertOp(id, after, string(rune(32+r.Intn(95)))))
			named = append(named, id)
		}
	}
	return l
}

// TestSignsPutInAndTakenOut asks the beginning of promise 10, against a text that is written as texts are.
func TestSignsPutInAndTakenOut(t *testing.T) {
	r := rand.New(rand.NewSource(102))
	for range 150 {
		var l []impl.SOp
		text := ""
		for number := int64(1); number <= impl.MaxSigns; number++ {
			author, at := int64(1+r.Intn(9)), r.Intn(len(text)+1)
			if at < len(text) && r.Intn(3) == 0 {
				named := impl.SeqIds(l)[at]
				l, text = takeOut(t, l, author, int64(at)), text[:at]+text[at+1:]
				if op := l[len(l)-1]; op != deleteOp(10*number+author, named) {
					t.Fatalf("%v: the last one of %v", op, l)
				}
			} else {
				sign, named := string(rune(32+r.Intn(95))), append([]int64{0}, impl.SeqIds(l)...)[at]
				l, text = insert(t, l, author, int64(at), sign), text[:at]+sign+text[at:]
				if op := l[len(l)-1]; op != insertOp(10*number+author, named, sign) {
					t.Fatalf("%v: the last one of %v", op, l)
				}
			}
			if got := impl.SeqText(l); got != text {
				t.Fatalf("%v: got %q, want %q", l, got, text)
			}
		}
		wantNotInserted(t, l, 1, 0, "a")
		wantNotDeleted(t, l, 1, 0)
	}
}

func TestNextIds(t *testing.T) {
	// Of the two ops that turn a text the first one may have an Id where the second one has none.
	for _, c := range []struct{ last, want int64 }{
		{1, 15}, {9, 15}, {10, 25}, {11, 25}, {19, 25}, {20, 35}, {999979, 999985}, {999980, 999995}, {999989, 999995},
	} {
		l := []impl.SOp{insertOp(c.last, 0, "a")}
		wantSeq(t, insert(t, l, 5, 1, "b"), "ab", c.last, c.want)
		wantSeq(t, insert(t, l, 5, 0, "b"), "ba", c.want, c.last)
		wantSeq(t, takeOut(t, l, 5, 0), "")
		if _, op, _ := impl.SeqDeleted(l, 5, 0); op != deleteOp(c.want, c.last) {
			t.Errorf("%v: %v", l, op)
		}
		if c.want < 999990 {
			wantSeq(t, turn(t, l, 5, "b"), "b", c.want+10)
		} else {
			wantNotTurned(t, l, 5, "b")
		}
	}
	wantSeq(t, insert(t, []impl.SOp{insertOp(999989, 0, "a")}, 9, 1, "b"), "ab", 999989, 999999)
	for _, last := range []int64{999990, 999991, 999999, impl.MaxSign} {
		l := []impl.SOp{insertOp(last, 0, "a")}
		for author := int64(1); author <= 9; author++ {
			wantNotInserted(t, l, author, 0, "b")
			wantNotInserted(t, l, author, 1, "b")
			wantNotDeleted(t, l, author, 0)
			wantNotTurned(t, l, author, "")
			wantNotTurned(t, l, author, "ab")
		}
		wantSeq(t, turn(t, l, 1, "a"), "a", last)
	}
	wantSeq(t, turn(t, []impl.SOp{insertOp(999979, 0, "a")}, 9, "b"), "b", 999999)
}

func TestWrongPlacesAuthorsAndSigns(t *testing.T) {
	l := append(typed("abc", 1), deleteOp(41, 21))
	wantSeq(t, l, "ac", 11, 31)
	wantSeq(t, insert(t, l, 2, 0, "x"), "xac", 52, 11, 31)
	wantSeq(t, insert(t, l, 2, 1, "x"), "axc", 11, 52, 31)
	wantSeq(t, insert(t, l, 2, 2, "x"), "acx", 11, 31, 52)
	wantSeq(t, takeOut(t, l, 2, 0), "c", 31)
	wantSeq(t, takeOut(t, l, 2, 1), "a", 11)
	wantSeq(t, insert(t, nil, 9, 0, "~"), "~", 19)
	wantSeq(t, insert(t, nil, 1, 0, " "), " ", 11)
	for _, at := range []int64{math.MinInt64, -1, 3, 4, math.MaxInt64} {
		wantNotInserted(t, l, 2, at, "x")
		wantNotDeleted(t, l, 2, at)
	}
	wantNotDeleted(t, l, 2, 2)
	wantNotDeleted(t, nil, 2, 0)
	wantNotDeleted(t, append(typed("a", 1), deleteOp(21, 11)), 2, 0)
	wantNotInserted(t, nil, 2, 1, "x")
	wantNotInserted(t, nil, 2, -1, "x")
	for _, author := range []int64{math.MinInt64, -1, 0, 10, 11, math.MaxInt64} {
		wantNotInserted(t, l, author, 1, "x")
		wantNotInserted(t, nil, author, 0, "x")
		wantNotDeleted(t, l, author, 1)
		for _, text := range []string{"", "a", "ac", "acx"} {
			wantNotTurned(t, l, author, text)
		}
		wantNotTurned(t, nil, author, "")
	}
	for _, sign := range []string{"", "xy", "\x1f", "\x7f", "\x00", "\n", "\x80", "\xff", "é"} {
		wantNotInserted(t, l, 2, 1, sign)
		wantNotInserted(t, nil, 2, 0, sign)
		if sign != "" && sign != "xy" {
			wantNotTurned(t, l, 2, "a"+sign+"c")
			wantNotTurned(t, l, 2, sign)
			wantNotTurned(t, nil, 2, sign)
		}
	}
}

// sharedIds answers those of ids that l shows too, in the order of ids.
func sharedIds(ids []int64, l []impl.SOp) []int64 {
	there := impl.SeqIds(l)
	return slices.DeleteFunc(slices.Clone(ids), func(id int64) bool { return !slices.Contains(there, id) })
}

// wantMerge asks whether m has the ops of both, once, and shows what both show, in one order.
func wantMerge(t *testing.T, m, a, b []impl.SOp) {
	t.Helper()
	for _, op := range slices.Concat(a, b) {
		if !slices.Contains(m, op) {
			t.Fatalf("%v is not in %v", op, m)
		}
	}
	for _, op := range m {
		if !slices.Contains(a, op) && !slices.Contains(b, op) {
			t.Fatalf("%v is of none", op)
		}
	}
	wantSeqAsTold(t, m)
	for _, l := range [][]impl.SOp{a, b} {
		if x, y := sharedIds(impl.SeqIds(l), m), sharedIds(impl.SeqIds(m), l); !slices.Equal(x, y) {
			t.Fatalf("%v and %v: %v, %v", a, b, x, y)
		}
	}
	if x, y := sharedIds(impl.SeqIds(a), b), sharedIds(impl.SeqIds(b), a); !slices.Equal(x, y) || !slices.Equal(x, sharedIds(sharedIds(impl.SeqIds(m), a), b)) {
		t.Fatalf("%v and %v show %v and %v", a, b, x, y)
	}
}

// TestSequencesMerged asks the second part of promise 10.
func TestSequencesMerged(t *testing.T) {
	r := rand.New(rand.NewSource(103))
	for range 200 {
		base := edited(t, r, nil, 9, r.Intn(12))
		var l [3][]impl.SOp
		for i := range l {
			l[i] = edited(t, r, base, int64(i+1), r.Intn(9))
		}
		ab := mergeSeqs(t, l[0], l[1])
		wantMerge(t, ab, l[0], l[1])
		abc := mergeSeqs(t, ab, l[2])
		for _, m := range [][]impl.SOp{
			mergeSeqs(t, l[0], mergeSeqs(t, l[1], l[2])), mergeSeqs(t, mergeSeqs(t, l[2], l[0]), l[1]), mergeSeqs(t, l[2], mergeSeqs(t, l[1], l[0])),
			mergeSeqs(t, abc, abc), mergeSeqs(t, abc, base), mergeSeqs(t, l[1], abc), mergeSeqs(t, nil, abc), mergeSeqs(t, abc, nil),
		} {
			if !slices.Equal(m, abc) {
				t.Fatalf("got %v, want %v", m, abc)
			}
		}
		wantMerge(t, abc, ab, l[2])
		if grown := edited(t, r, abc, 4, 2); len(grown) > 0 {
			wantMerge(t, mergeSeqs(t, grown, ab), grown, ab)
		}
	}
}

func TestMergedAtTheEdges(t *testing.T) {
	wantSeq(t, mergeSeqs(t, nil, nil), "")
	wantSeq(t, mergeSeqs(t, typed("ab", 1), typed("cd", 2)), "cdab", 12, 22, 11, 21)
	base := typed("abc", 1)
	one, two := append(base[:3:3], deleteOp(41, 21)), append(base[:3:3], deleteOp(42, 21), insertOp(52, 21, "x"))
	wantSeq(t, mergeSeqs(t, one, two), "axc", 11, 52, 31)
	wantSeq(t, mergeSeqs(t, two, one), "axc", 11, 52, 31)
	for _, unlike := range []impl.SOp{insertOp(31, 21, "d"), insertOp(31, 11, "c"), insertOp(31, 0, "c"), deleteOp(31, 21), deleteOp(31, 11)} {
		wantNotMergedSeqs(t, base, append(base[:2:2], unlike))
		wantNotMergedSeqs(t, append(base[:2:2], unlike), base)
		wantNotMergedSeqs(t, append(base[:3:3], deleteOp(41, 11)), append(base[:2:2], unlike, deleteOp(51, 11)))
	}
	wantNotMergedSeqs(t, []impl.SOp{insertOp(1, 0, "a")}, []impl.SOp{insertOp(1, 0, "b"), insertOp(2, 0, "c")})
	half, other := typed(strings.Repeat("a", 20), 1), typed(strings.Repeat("b", 20), 2)
	wantSeqAsTold(t, mergeSeqs(t, half, other))
	if l := mergeSeqs(t, half, other); len(l) != 40 || len(mergeSeqs(t, l, half)) != 40 || len(mergeSeqs(t, other, l)) != 40 {
		t.Error(len(l), "ops")
	}
	wantNotMergedSeqs(t, half, typed(strings.Repeat("b", 21), 2))
	wantNotMergedSeqs(t, typed(strings.Repeat("a", 21), 1), other)
	full := typed(strings.Repeat("a", 40), 1)
	if !slices.Equal(mergeSeqs(t, full, full), full) || !slices.Equal(mergeSeqs(t, full[:5], full), full) {
		t.Error("a full one with itself")
	}
	wantNotMergedSeqs(t, full, []impl.SOp{insertOp(1, 0, "a")})
}

// TestSideBySide asks the third part of promise 10: two who write a word at one place.
func TestSideBySide(t *testing.T) {
	r := rand.New(rand.NewSource(104))
	for range 150 {
		base := edited(t, r, nil, 9, r.Intn(10))
		text := impl.SeqText(base)
		at, words := r.Intn(len(text)+1), [3]string{"ABCDE", "FGH", "IJKLMNO"}
		var l [3][]impl.SOp
		for i, word := range words {
			l[i] = base
			for j := range len(word) {
				l[i] = insert(t, l[i], int64(i+1), int64(at+j), word[j:j+1])
			}
			if !slices.Equal(l[i], turn(t, base, int64(i+1), text[:at]+word+text[at:])) {
				t.Fatalf("%q: %v", word, l[i])
			}
		}
		// Of one number the Id of the greater author is the greater one: its word stands first.
		for i, word := range words[:2] {
			if got, want := impl.SeqText(mergeSeqs(t, l[i], l[2])), text[:at]+words[2]+word+text[at:]; got != want {
				t.Fatalf("got %q, want %q", got, want)
			}
		}
		if got, want := impl.SeqText(mergeSeqs(t, l[0], mergeSeqs(t, l[1], l[2]))), text[:at]+words[2]+words[1]+words[0]+text[at:]; got != want {
			t.Fatalf("got %q, want %q", got, want)
		}
	}
}

// TestSideBySideWhereAnotherTakesOut has one who takes out the signs around the place where another one writes.
func TestSideBySideWhereAnotherTakesOut(t *testing.T) {
	base := typed("abcd", 9)
	word := turn(t, base, 1, "abXYZcd")
	for _, c := range []struct{ turned, want string }{{"ad", "aXYZd"}, {"", "XYZ"}, {"cd", "XYZcd"}, {"ab", "abXYZ"}, {"abefcd", "abefXYZcd"}, {"aefd", "aefXYZd"}} {
		if got := impl.SeqText(mergeSeqs(t, turn(t, base, 2, c.turned), word)); got != c.want {
			t.Errorf("%q: got %q, want %q", c.turned, got, c.want)
		}
	}
}

// turnedAsTold takes out and puts in, by the chapter's words, with the longest common beginning and end found by trying.
func turnedAsTold(t *testing.T, l []impl.SOp, author int64, text string) []impl.SOp {
	t.Helper()
	old := impl.SeqText(l)
	begin := min(len(old), len(text))
	for old[:begin] != text[:begin] {
		begin--
	}
	end := min(len(old), len(text)) - begin
	for old[len(old)-end:] != text[len(text)-end:] {
		end--
	}
	for range len(old) - begin - end {
		l = takeOut(t, l, author, int64(begin))
	}
	for i, sign := range strings.Split(text[begin:len(text)-end], "") {
		l = insert(t, l, author, int64(begin+i), sign)
	}
	return l
}

// TestTurnedIsThatText asks the end of promise 10, of every two texts of at most four signs a and b.
func TestTurnedIsThatText(t *testing.T) {
	texts := []string{""}
	for i := 0; len(texts[i]) < 4; i++ {
		texts = append(texts, texts[i]+"a", texts[i]+"b")
	}
	for _, from := range texts {
		for _, to := range texts {
			l := append(typed(from, 3), insertOp(301, 0, "x"), deleteOp(311, 301))
			m := turn(t, l, 4, to)
			if impl.SeqText(m) != to || !slices.Equal(m, turnedAsTold(t, l, 4, to)) {
				t.Fatalf("%q to %q: %v", from, to, m)
			}
		}
	}
	r := rand.New(rand.NewSource(105))
	for range 200 {
		l := edited(t, r, nil, int64(1+r.Intn(9)), r.Intn(11))
		text := []byte(impl.SeqText(l))
		for range r.Intn(5) {
			at := r.Intn(len(text) + 1)
			text = slices.Replace(text, at, min(len(text), at+r.Intn(2)), []byte("xyz")[:r.Intn(3)]...)
		}
		m := turn(t, l, 5, string(text))
		if impl.SeqText(m) != string(text) || !slices.Equal(m, turnedAsTold(t, l, 5, string(text))) {
			t.Fatalf("%v to %q: %v", l, text, m)
		}
	}
}

func TestWhatIsTurned(t *testing.T) {
	for _, c := range []struct {
		from, to string
		ops      []impl.SOp
	}{
		{"", "", nil}, {"ab", "ab", nil},
		{"aa", "a", []impl.SOp{deleteOp(34, 23)}},
		{"a", "aa", []impl.SOp{insertOp(24, 13, "a")}},
		{"aba", "aa", []impl.SOp{deleteOp(44, 23)}},
		{"abab", "ab", []impl.SOp{deleteOp(54, 33), deleteOp(64, 43)}},
		{"abc", "", []impl.SOp{deleteOp(44, 13), deleteOp(54, 23), deleteOp(64, 33)}},
		{"abc", "xy", []impl.SOp{deleteOp(44, 13), deleteOp(54, 23), deleteOp(64, 33), insertOp(74, 0, "x"), insertOp(84, 74, "y")}},
		{"abcd", "axyd", []impl.SOp{deleteOp(54, 23), deleteOp(64, 33), insertOp(74, 13, "x"), insertOp(84, 74, "y")}},
	} {
		if _, ops, ok := impl.SeqTurned(typed(c.from, 3), 4, c.to); !ok || !slices.Equal(ops, c.ops) {
			t.Errorf("%q to %q: got %v, %v, want %v", c.from, c.to, ops, ok, c.ops)
		}
	}
}

func TestTurnedAtItsLimits(t *testing.T) {
	forty := strings.Repeat("abcd", 10)
	full := turn(t, nil, 1, forty)
	wantSeqAsTold(t, full)
	wantNotTurned(t, nil, 1, forty+"e")
	wantNotTurned(t, nil, 1, forty[:39]+"\n")
	wantNotTurned(t, nil, 1, strings.Repeat("a", 100000))
	if !slices.Equal(turn(t, full, 2, forty), full) {
		t.Error("a full one stays")
	}
	wantNotTurned(t, full, 2, forty[:39])
	wantNotTurned(t, full, 2, forty+"e")
	// Of 13 signs 13 are taken out; then there is room for 14 more.
	l := typed(forty[:13], 1)
	if m := turn(t, l, 2, strings.Repeat("x", 14)); len(m) != 40 || impl.SeqText(m) != strings.Repeat("x", 14) {
		t.Error(m)
	}
	wantNotTurned(t, l, 2, strings.Repeat("x", 15))
	if m := turn(t, typed(forty[:20], 1), 2, ""); len(m) != 40 || impl.SeqText(m) != "" {
		t.Error(m)
	}
	wantNotTurned(t, typed(forty[:21], 1), 2, "")
	wantNotTurned(t, append(typed(forty[:20], 1), insertOp(301, 0, "x"), deleteOp(311, 301)), 2, "")
}

func TestSequencesLeaveTheirArguments(t *testing.T) {
	mark := deleteOp(999, 999)
	a, asItWas := roomy(append(typed("abc", 1), deleteOp(41, 21)), mark, sameOp)
	b, bAsItWas := roomy(append(typed("abc", 1), insertOp(42, 0, "x")), mark, sameOp)
	look := func() []any {
		return []any{impl.SeqIds(a), mergeSeqs(t, a, b), mergeSeqs(t, a, nil), mergeSeqs(t, nil, b), insert(t, a, 2, 1, "y"), takeOut(t, a, 2, 1), turn(t, a, 2, "axyc"), turn(t, a, 2, "ac")}
	}
	first := fmt.Sprint(look())
	for range 2 {
		for _, l := range look() {
			if ops, ok := l.([]impl.SOp); ok {
				clear(ops[:cap(ops)])
			} else {
				clear(l.([]int64))
			}
		}
		m, ops, _ := impl.SeqTurned(a, 2, "axyc")
		clear(ops[:cap(ops)])
		if got := impl.SeqText(m); got != "axyc" {
			t.Errorf("two lists of one answer: %q", got)
		}
		wantNotMergedSeqs(t, a, typed("abd", 1))
		wantNotTurned(t, a, 2, "a\n")
		if got := fmt.Sprint(look()); got != first {
			t.Errorf("got %s, want %s", got, first)
		}
		if !asItWas() || !bAsItWas() {
			t.Fatal("an argument was changed")
		}
	}
	if !reflect.DeepEqual(mergeSeqs(t, a, b), mergeSeqs(t, b, a)) {
		t.Error("merged in another order")
	}
}
