package tests

import (
	"math"
	"math/rand"
	"slices"
	"testing"

	"loop.example/g00318/impl"
)

// numbers answers a number for each author: these, and noughts behind them.
func numbers(n ...int64) []int64 {
	return append(slices.Clone(n), make([]int64, 9-len(n))...)
}

func row(who int64, n ...int64) impl.Row {
	return impl.Row{Who: who, Counts: numbers(n...)}
}

func sameRow(a, b impl.Row) bool {
	return a.Who == b.Who && slices.Equal(a.Counts, b.Counts)
}

func sameRows(a, b []impl.Row) bool { return slices.EqualFunc(a, b, sameRow) }

func sameNumber(a, b int64) bool { return a == b }

func randomNumbers(r *rand.Rand, most int) []int64 {
	n := numbers()
	for i := range n {
		n[i] = int64(r.Intn(most + 1))
	}
	return n
}

func randomRows(r *rand.Rand) []impl.Row {
	var l []impl.Row
	for who := int64(1); who <= 9; who++ {
		if r.Intn(2) == 0 {
			l = append(l, row(who, randomNumbers(r, 5)...))
		}
	}
	return l
}

// fullRows makes a row for each Who.
func fullRows() []impl.Row {
	var l []impl.Row
	for who := int64(1); who <= 9; who++ {
		l = append(l, row(who, who, 10-who, impl.MaxSeq))
	}
	return l
}

// numberAsTold is what the rows of who say of an author, 0 without a row.
func numberAsTold(l []impl.Row, who int64, author int) int64 {
	for _, r := range l {
		if r.Who == who {
			return r.Counts[author-1]
		}
	}
	return 0
}

func mergedRowsAsTold(a, b []impl.Row) []impl.Row {
	var l []impl.Row
	for who := int64(1); who <= 9; who++ {
		if !slices.ContainsFunc(slices.Concat(a, b), func(r impl.Row) bool { return r.Who == who }) {
			continue
		}
		r := row(who)
		for author := 1; author <= 9; author++ {
			r.Counts[author-1] = numberAsTold(a, who, author)
			if other := numberAsTold(b, who, author); other > r.Counts[author-1] {
				r.Counts[author-1] = other
			}
		}
		l = append(l, r)
	}
	return l
}

func mergeRows(t *testing.T, a, b []impl.Row) []impl.Row {
	t.Helper()
	m, ok := impl.RowsMerged(a, b)
	if want := mergedRowsAsTold(a, b); !ok || !sameRows(m, want) || !impl.RowsOk(m) {
		t.Fatalf("%v and %v: got %v, %v, want %v", a, b, m, ok, want)
	}
	return m
}

func wantNotMergedRows(t *testing.T, a, b []impl.Row) {
	t.Helper()
	if m, ok := impl.RowsMerged(a, b); ok || len(m) != 0 {
		t.Errorf("%v and %v: got %v, %v", a, b, m, ok)
	}
}

func stableAsTold(l []impl.Row, who []int64) []int64 {
	least := numbers()
	for author := 1; author <= 9; author++ {
		var all []int64
		for _, w := range who {
			all = append(all, numberAsTold(l, w, author))
		}
		slices.Sort(all)
		least[author-1] = all[0]
	}
	return least
}

func stable(t *testing.T, l []impl.Row, who ...int64) []int64 {
	t.Helper()
	s := impl.StableOf(l, who)
	if want := stableAsTold(l, who); !slices.Equal(s, want) {
		t.Fatalf("%v, %v: got %v, want %v", l, who, s, want)
	}
	return s
}

func wantNotStable(t *testing.T, l []impl.Row, who ...int64) {
	t.Helper()
	if s := impl.StableOf(l, who); len(s) != 0 {
		t.Errorf("%v, %v: got %v", l, who, s)
	}
}

func wantCounts(t *testing.T, d []impl.Node, want ...int64) []int64 {
	t.Helper()
	c, ok := impl.CountsOf(d)
	if !ok || !slices.Equal(c, numbers(want...)) {
		t.Fatalf("%v: got %v, %v, want %v", d, c, ok, want)
	}
	return c
}

// settledAsTold strikes the nodes above their number out, then, again and again, those that name one that is struck out.
func settledAsTold(d []impl.Node, counts []int64) []string {
	ids := idsAsTold(d)
	out := map[string]bool{}
	for range d {
		for i, n := range d {
			out[ids[i]] = out[ids[i]] || n.Seq > counts[n.Author-1]
			for _, up := range n.Ups {
				out[ids[i]] = out[ids[i]] || out[up]
			}
		}
	}
	return slices.DeleteFunc(ids, func(id string) bool { return out[id] })
}

func settled(t *testing.T, d []impl.Node, counts []int64) []string {
	t.Helper()
	l, ok := impl.Settled(d, counts)
	if want := settledAsTold(d, counts); !ok || !slices.Equal(l, want) {
		t.Fatalf("%v, %v: got %v, %v, want %v", d, counts, l, ok, want)
	}
	return l
}

func wantNotSettled(t *testing.T, d []impl.Node, counts []int64) {
	t.Helper()
	if l, ok := impl.Settled(d, counts); ok || len(l) != 0 {
		t.Errorf("%v, %v: got %v, %v", d, counts, l, ok)
	}
}

// wrongNumbers are none that a row may have.
func wrongNumbers() [][]int64 {
	l := [][]int64{nil, {}, {1}, make([]int64, 8), make([]int64, 10), make([]int64, 1000)}
	for _, number := range []int64{math.MinInt64, -1, impl.MaxSeq + 1, 1 << 32, math.MaxInt64} {
		for i := range 9 {
			n := numbers()
			n[i] = number
			l = append(l, n)
		}
	}
	return l
}

func wrongRows() [][]impl.Row {
	one, two := row(1, 1), row(2, 2)
	l := [][]impl.Row{
		{{}}, {two, one}, {one, one}, {one, row(1, 5)}, {one, two, two}, {one, two, one}, {one, row(3), two},
		append(fullRows(), row(9)), append(fullRows(), row(10)), append([]impl.Row{row(0)}, fullRows()...), append([]impl.Row{row(1)}, fullRows()...), slices.Repeat(fullRows(), 100),
	}
	for _, who := range []int64{math.MinInt64, -1, 0, 10, 1 << 32, math.MaxInt64} {
		l = append(l, []impl.Row{row(who)}, []impl.Row{one, row(who)}, []impl.Row{row(who), two})
	}
	for _, n := range wrongNumbers() {
		l = append(l, []impl.Row{{Who: 1, Counts: n}}, []impl.Row{{Who: 1, Counts: n}, two}, []impl.Row{one, {Who: 2, Counts: n}}, append(fullRows()[:8], impl.Row{Who: 9, Counts: n}))
	}
	return l
}

func TestRowLists(t *testing.T) {
	most := slices.Repeat([]int64{impl.MaxSeq}, 9)
	for _, l := range [][]impl.Row{
		nil, {}, {row(1)}, {row(9)}, {row(1, most...)}, {row(9, most...)}, {row(2, 1), row(7, 0, 0, 0, 0, 0, 0, 0, 0, 1)}, fullRows(), fullRows()[1:], fullRows()[:8],
	} {
		if !impl.RowsOk(l) {
			t.Errorf("%v is refused", l)
		}
		mergeRows(t, l, nil)
		mergeRows(t, nil, l)
		mergeRows(t, l, l)
		stable(t, l, 1, 9)
	}
	for _, l := range wrongRows() {
		if impl.RowsOk(l) {
			t.Errorf("%v is taken", l)
		}
		wantNotMergedRows(t, l, nil)
		wantNotMergedRows(t, nil, l)
		wantNotMergedRows(t, l, fullRows())
		wantNotMergedRows(t, fullRows(), l)
		wantNotStable(t, l, 1)
		wantNotStable(t, l, 5, 6)
	}
}

func TestCountsOfDags(t *testing.T) {
	wantCounts(t, nil)
	wantCounts(t, []impl.Node{adding(1, 1, "x")}, 1)
	wantCounts(t, []impl.Node{setting(9, impl.MaxSeq, "k", "")}, 0, 0, 0, 0, 0, 0, 0, 0, impl.MaxSeq)
	wantCounts(t, byId(chain(30)...), 30)
	wantCounts(t, loose(30), 30)
	// The greatest one counts, wherever it stands and however few are below it.
	a := adding(2, 50, "x")
	wantCounts(t, byId(a, dropping(2, 3, "x", idAsTold(a)), setting(5, 7, "k", "v", idAsTold(a)), adding(5, 7, "y")), 0, 50, 0, 0, 7)
	r := rand.New(rand.NewSource(170))
	for range 300 {
		d := randomDag(r, 30)
		want := numbers()
		for _, n := range d {
			if n.Seq > want[n.Author-1] {
				want[n.Author-1] = n.Seq
			}
		}
		wantCounts(t, d, want...)
	}
	for _, d := range wrongDags() {
		if c, ok := impl.CountsOf(d); ok || len(c) != 0 {
			t.Errorf("%v: got %v, %v", d, c, ok)
		}
		wantNotSettled(t, d, numbers())
		wantNotSettled(t, d, slices.Repeat([]int64{impl.MaxSeq}, 9))
		wantNotSettled(t, d, nil)
	}
}

func TestRowsMerged(t *testing.T) {
	a := []impl.Row{row(1, 4, 2), row(2, 1, 7)}
	b := []impl.Row{row(2, 3, 5, 0, 0, 0, 0, 0, 0, 1), row(3, 9)}
	want := []impl.Row{row(1, 4, 2), row(2, 3, 7, 0, 0, 0, 0, 0, 0, 1), row(3, 9)}
	if m := mergeRows(t, a, b); !sameRows(m, want) {
		t.Errorf("got %v, want %v", m, want)
	}
	// A row of noughts is a row.
	if m := mergeRows(t, []impl.Row{row(4)}, []impl.Row{row(1)}); !sameRows(m, []impl.Row{row(1), row(4)}) {
		t.Errorf("got %v", m)
	}
	mergeRows(t, fullRows()[:4], fullRows()[4:])
	r := rand.New(rand.NewSource(171))
	for range 500 {
		a, b, c := randomRows(r), randomRows(r), randomRows(r)
		m := mergeRows(t, a, b)
		if !sameRows(mergeRows(t, b, a), m) || !sameRows(mergeRows(t, a, a), a) || !sameRows(mergeRows(t, m, a), m) {
			t.Fatalf("%v and %v: in another order", a, b)
		}
		if !sameRows(mergeRows(t, m, c), mergeRows(t, a, mergeRows(t, b, c))) {
			t.Fatalf("%v, %v and %v: in another order", a, b, c)
		}
	}
}

// TestWhatAllHave asks the beginning of promise 17.
func TestWhatAllHave(t *testing.T) {
	r := rand.New(rand.NewSource(172))
	for range 1000 {
		l := randomRows(r)
		var who []int64
		for range 1 + r.Intn(4) {
			who = append(who, int64(r.Intn(11)))
		}
		s := stable(t, l, who...)
		for i, number := range s {
			for _, w := range who {
				if number > numberAsTold(l, w, i+1) {
					t.Fatalf("%v, %v: got %v", l, who, s)
				}
			}
		}
		// Of one more no more is had by all; of more that each has no less.
		more := stable(t, l, append(slices.Clone(who), int64(1+r.Intn(9)))...)
		grown := stable(t, mergeRows(t, l, randomRows(r)), who...)
		for i := range s {
			if more[i] > s[i] || grown[i] < s[i] {
				t.Fatalf("%v, %v: got %v, then %v and %v", l, who, s, more, grown)
			}
		}
		slices.Reverse(who)
		if !slices.Equal(stable(t, l, who...), s) {
			t.Fatalf("%v, %v: in another order", l, who)
		}
	}
}

func TestWhatAllHaveAtItsLimits(t *testing.T) {
	l := fullRows()
	for _, r := range l {
		if s := stable(t, l, r.Who); !slices.Equal(s, r.Counts) {
			t.Errorf("%v has %v", r, s)
		}
	}
	nine := []int64{9, 1, 8, 2, 7, 3, 6, 4, 5}
	if s := stable(t, l, nine...); !slices.Equal(s, numbers(1, 1, impl.MaxSeq)) {
		t.Errorf("all have %v", s)
	}
	stable(t, l, slices.Repeat([]int64{4}, 9)...)
	stable(t, l, nine[:8]...)
	wantNotStable(t, l)
	wantNotStable(t, nil)
	wantNotStable(t, l, append(nine, 1)...)
	wantNotStable(t, l, slices.Repeat([]int64{4}, 10)...)
	wantNotStable(t, l, slices.Repeat([]int64{4}, 1000)...)
	// Who has no row has nothing, be it a number that no row can have.
	for _, none := range []int64{math.MinInt64, -1, 0, 10, math.MaxInt64} {
		for _, who := range [][]int64{{none}, {1, none}, {none, 1}} {
			if s := stable(t, l, who...); !slices.Equal(s, numbers()) {
				t.Errorf("%v have %v", who, s)
			}
		}
	}
	if s := stable(t, nil, 1); !slices.Equal(s, numbers()) {
		t.Errorf("of no rows: %v", s)
	}
	if s := stable(t, l[:8], 8, 9); !slices.Equal(s, numbers()) {
		t.Errorf("of the one without a row: %v", s)
	}
}

// TestWhatIsSettled asks the end of promise 17.
func TestWhatIsSettled(t *testing.T) {
	r := rand.New(rand.NewSource(173))
	some := 0
	for range 300 {
		d := randomDag(r, 30)
		counts := wantCountsOf(t, d)
		for i := range counts {
			if r.Intn(5) == 0 {
				counts[i] = int64(r.Intn(51))
			}
		}
		l := settled(t, d, counts)
		if !slices.Equal(behindAsTold(d, l), l) {
			t.Fatalf("%v, %v: %v stand behind what is not settled", d, counts, l)
		}
		if len(l) > 0 && len(l) < len(d) {
			some++
		}
		for i := range counts {
			counts[i] += int64(r.Intn(10))
		}
		if grown := settled(t, d, counts); len(grown) < len(l) || slices.ContainsFunc(l, func(id string) bool { return !slices.Contains(grown, id) }) {
			t.Fatalf("%v: %v were settled, with more %v", d, l, grown)
		}
		wantTexts(t, "all", settled(t, d, wantCountsOf(t, d)), idsAsTold(d)...)
		wantTexts(t, "none", settled(t, d, numbers()))
	}
	if some < 100 {
		t.Error("only", some, "dags that are settled in part")
	}
}

func wantCountsOf(t *testing.T, d []impl.Node) []int64 {
	t.Helper()
	c, ok := impl.CountsOf(d)
	if !ok {
		t.Fatalf("%v has no counts", d)
	}
	return c
}

func TestSettledAtItsLimits(t *testing.T) {
	long := chain(30)
	d := byId(long...)
	for i := range 31 {
		wantTexts(t, "a chain", settled(t, d, numbers(int64(i))), rising(idsAsTold(long[:i]))...)
		wantTexts(t, "others' numbers", settled(t, d, numbers(int64(i), impl.MaxSeq, 5)), rising(idsAsTold(long[:i]))...)
	}
	last := setting(9, impl.MaxSeq, "k", "v")
	wantTexts(t, "met", settled(t, []impl.Node{last}, numbers(0, 0, 0, 0, 0, 0, 0, 0, impl.MaxSeq)), idAsTold(last))
	wantTexts(t, "passed by one", settled(t, []impl.Node{last}, numbers(0, 0, 0, 0, 0, 0, 0, 0, impl.MaxSeq-1)))
	// One far behind that is not there holds up all that stand behind it, by whichever way, and no others.
	a, z := adding(1, 2, "a"), adding(3, 1, "z")
	b, c := adding(2, 1, "b", idAsTold(a)), adding(3, 1, "c", idAsTold(z))
	e := adding(2, 2, "e", idAsTold(b), idAsTold(c))
	all := byId(a, z, b, c, e)
	wantTexts(t, "all", settled(t, all, numbers(2, 2, 1)), idsAsTold(all)...)
	wantTexts(t, "without the first", settled(t, all, numbers(1, 2, 1)), idsAsTold(byId(z, c))...)
	wantTexts(t, "without another one", settled(t, all, numbers(2, 2, 0)), idsAsTold(byId(a, b))...)
	wantTexts(t, "without the last", settled(t, all, numbers(2, 1, 1)), idsAsTold(byId(a, z, b, c))...)
	wantTexts(t, "no nodes", settled(t, nil, numbers()))
	for _, n := range wrongNumbers() {
		wantNotSettled(t, d, n)
		wantNotSettled(t, nil, n)
	}
}

// TestSettledIsWithAll lets peers write and sync: what is settled by their rows each of them has.
func TestSettledIsWithAll(t *testing.T) {
	r := rand.New(rand.NewSource(174))
	some := 0
	for range 60 {
		peers := make([]impl.Peer, 3)
		for range 14 {
			at := r.Intn(3)
			if r.Intn(2) == 0 {
				d, _ := write(t, peers[at].Dag, int64(at+1), impl.OpAdd, "", "x")
				peers[at] = impl.Peer{Dag: d}
				continue
			}
			p, _, ok := impl.Synced(peers[at], peers[r.Intn(3)].Dag, 5)
			if !ok {
				t.Fatal("not synced")
			}
			peers[at] = p
		}
		var rows []impl.Row
		for i, p := range peers {
			rows = mergeRows(t, rows, []impl.Row{row(int64(i+1), wantCountsOf(t, p.Dag)...)})
		}
		counts := stable(t, rows, 1, 2, 3)
		for _, p := range peers {
			l := settled(t, p.Dag, counts)
			some += len(l)
			for _, other := range peers {
				wantTexts(t, "with all", impl.Lacking(other.Dag, l))
			}
		}
	}
	if some < 100 {
		t.Error("only", some, "are settled")
	}
}

// TestStableLeavesItsArguments asks promise 19 of rows.
func TestStableLeavesItsArguments(t *testing.T) {
	first, firstAsItWas := roomy(numbers(4, 2), 77, sameNumber)
	second, secondAsItWas := roomy(numbers(1, 7), 77, sameNumber)
	third, thirdAsItWas := roomy(numbers(3, 5), 77, sameNumber)
	a, asItWas := roomy([]impl.Row{{Who: 1, Counts: first}, {Who: 2, Counts: second}}, row(7, 7), sameRow)
	b, bAsItWas := roomy([]impl.Row{{Who: 2, Counts: third}, {Who: 3, Counts: third}}, row(7, 7), sameRow)
	who, whoAsItWas := roomy([]int64{2, 1, 2}, 77, sameNumber)
	ups, upsAsTheyWere := roomy([]string{idAsTold(adding(1, 1, "x"))}, "mark", sameText)
	d, dagAsItWas := roomy(byId(adding(1, 1, "x"), impl.Node{Author: 2, Seq: 5, Kind: impl.OpSet, Key: "k", Ups: ups}), adding(7, 7, "mark"), sameNode)
	for range 2 {
		for _, pair := range [][2][]impl.Row{{a, b}, {b, a}, {a, nil}, {nil, b}, {a, a}, {b, b}} {
			wantOwnRows(t, mergeRows(t, pair[0], pair[1]))
		}
		for _, n := range [][]int64{stable(t, a, who...), stable(t, a, 1), wantCounts(t, d, 1, 5)} {
			clear(n[:cap(n)])
		}
		l := settled(t, d, first)
		clear(l[:cap(l)])
		wantTexts(t, "again", settled(t, d, first), idAsTold(adding(1, 1, "x")))
		wantNotMergedRows(t, a, []impl.Row{{Who: 2, Counts: second}, {Who: 2, Counts: third}})
		same := firstAsItWas() && secondAsItWas() && thirdAsItWas() && asItWas() && bAsItWas()
		if !same || !whoAsItWas() || !upsAsTheyWere() || !dagAsItWas() || !impl.RowsOk(a) || !impl.RowsOk(b) {
			t.Fatal("an argument was changed")
		}
	}
}

// wantOwnRows writes into the numbers of each row in turn, their spare room too, and looks at those of the others.
func wantOwnRows(t *testing.T, l []impl.Row) {
	t.Helper()
	for i := range l {
		before := slices.Clone(l)
		for j := range before {
			before[j].Counts = slices.Clone(l[j].Counts)
		}
		spoilt := l[i].Counts[:cap(l[i].Counts)]
		for j := range spoilt {
			spoilt[j] = -1 - int64(i)
		}
		for j := range l {
			if j != i && !sameRow(l[j], before[j]) {
				t.Fatal("two rows of one answer share their numbers")
			}
		}
	}
	clear(l[:cap(l)])
}
