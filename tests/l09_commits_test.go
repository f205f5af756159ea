package tests

import (
	"math"
	"math/rand"
	"slices"
	"testing"

	"loop.example/g00318/impl"
)

func commit(author, count int64, heads ...string) impl.Commit {
	return impl.Commit{Author: author, Count: count, Heads: heads}
}

func sameCommit(a, b impl.Commit) bool {
	return a.Author == b.Author && a.Count == b.Count && slices.Equal(a.Heads, b.Heads)
}

func wantAuthors(t *testing.T, l []impl.Commit, want ...int64) {
	t.Helper()
	if got := impl.Clashes(l); !slices.Equal(got, want) {
		t.Errorf("%v: %v clash, want %v", l, got, want)
	}
}

func wrongCommits() [][]impl.Commit {
	right := commit(1, 1, someIds(2)...)
	clash := commit(1, 1)
	wrong := []impl.Commit{{}, commit(1, 0), commit(0, 1), commit(1, 1, someIds(6)...), commit(1, 1, someId("1"), someId("0")), commit(1, 1, someId("0"), someId("0"))}
	for _, number := range []int64{math.MinInt64, -1, 0, math.MaxInt64} {
		wrong = append(wrong, commit(number, 1), commit(1, number))
	}
	wrong = append(wrong, commit(10, 1), commit(1, impl.MaxSeq+1))
	for _, id := range []string{"", "x", someId("0")[1:], someId("0") + "0", someId("g"), someId("F"), someId("/"), someId(":"), someId("`"), someId("0")[1:] + "\n"} {
		wrong = append(wrong, commit(1, 1, id), commit(1, 1, rising([]string{someId("1"), id})...))
	}
	l := [][]impl.Commit{slices.Repeat([]impl.Commit{right}, 31), append(slices.Repeat([]impl.Commit{right}, 30), clash), slices.Repeat([]impl.Commit{right, clash}, 1000)}
	for _, c := range wrong {
		l = append(l, []impl.Commit{c}, []impl.Commit{right, clash, c}, []impl.Commit{c, right, clash}, append(slices.Repeat([]impl.Commit{right}, 29), c))
	}
	return l
}

func TestCommitLists(t *testing.T) {
	full := commit(9, impl.MaxSeq, someIds(5)...)
	for _, l := range [][]impl.Commit{
		nil, {}, {commit(1, 1)}, {full}, {full, commit(1, 1), full}, slices.Repeat([]impl.Commit{full}, 30),
		{commit(2, 5), commit(1, 7), commit(2, 3)}, {commit(1, 1, someId("0")), commit(1, 1, someId("1"))},
	} {
		if !impl.CommitsOk(l) {
			t.Errorf("%v is refused", l)
		}
	}
	for _, l := range wrongCommits() {
		if impl.CommitsOk(l) {
			t.Errorf("%v is taken", l)
		}
		wantAuthors(t, l)
		wantTexts(t, "omitted", impl.Omitted(nil, l))
		wantTexts(t, "omitted", impl.Omitted(byId(chain(3)...), l))
	}
}

func TestWhoClashes(t *testing.T) {
	one, two := someId("1"), someId("2")
	wantAuthors(t, nil)
	wantAuthors(t, []impl.Commit{commit(1, 1, one)})
	wantAuthors(t, []impl.Commit{commit(1, 1, one), commit(1, 1, one)})
	wantAuthors(t, []impl.Commit{commit(1, 1), {Author: 1, Count: 1, Heads: []string{}}})
	wantAuthors(t, []impl.Commit{commit(1, 1, one), commit(1, 2, two), commit(2, 1, two), commit(2, 2, one)})
	wantAuthors(t, []impl.Commit{commit(1, 1, one), commit(1, 1, two)}, 1)
	wantAuthors(t, []impl.Commit{commit(1, 1, one), commit(1, 1)}, 1)
	wantAuthors(t, []impl.Commit{commit(1, 1), commit(1, 1, one)}, 1)
	wantAuthors(t, []impl.Commit{commit(1, 1, one), commit(1, 1, one, two)}, 1)
	wantAuthors(t, []impl.Commit{commit(1, 1, one, two), commit(1, 1, one)}, 1)
	wantAuthors(t, []impl.Commit{commit(1, 1, two), commit(1, 1, one, two)}, 1)
	wantAuthors(t, []impl.Commit{commit(1, impl.MaxSeq, one), commit(2, 3, one), commit(1, impl.MaxSeq, one), commit(2, 3, one), commit(1, impl.MaxSeq, two)}, 1)
	wantAuthors(t, []impl.Commit{commit(1, 1, one), commit(1, 1, two), commit(1, 1, one), commit(1, 2, one), commit(1, 2, two)}, 1)
	wantAuthors(t, []impl.Commit{commit(9, 4, one), commit(5, 4, two), commit(3, 4, one), commit(9, 4, two), commit(3, 4, one), commit(1, 4, one), commit(5, 4, one), commit(1, 4)}, 1, 5, 9)
	var all []impl.Commit
	for author := int64(9); author >= 1; author-- {
		all = append(all, commit(author, author, one), commit(author, 10, two), commit(author, 10))
	}
	wantAuthors(t, all, 1, 2, 3, 4, 5, 6, 7, 8, 9)
	wantAuthors(t, append(all, commit(1, 3), commit(1, 4), commit(1, 5)), 1, 2, 3, 4, 5, 6, 7, 8, 9)
}

func randomCommits(r *rand.Rand, ids []string) []impl.Commit {
	var l []impl.Commit
	for range r.Intn(13) {
		var heads []string
		for range r.Intn(3) {
			heads = append(heads, ids[r.Intn(len(ids))])
		}
		l = append(l, commit(int64(1+r.Intn(4)), int64(1+r.Intn(4)), rising(heads)...))
	}
	return l
}

// TestClashesAreTwoUnlikeHeads asks the middle of promise 9: every two commitments are held against each other.
func TestClashesAreTwoUnlikeHeads(t *testing.T) {
	r := rand.New(rand.NewSource(90))
	for range 500 {
		l := randomCommits(r, someIds(2))
		var want []int64
		for author := int64(1); author <= 9; author++ {
			for i, a := range l {
				clashes := slices.ContainsFunc(l[i:], func(b impl.Commit) bool {
					return a.Author == author && b.Author == author && a.Count == b.Count && !slices.Equal(a.Heads, b.Heads)
				})
				if clashes && !slices.Contains(want, author) {
					want = append(want, author)
				}
			}
		}
		wantAuthors(t, l, want...)
		slices.Reverse(l)
		wantAuthors(t, l, want...)
	}
}

// TestWhatIsLeftOut asks the end of promise 9.
func TestWhatIsLeftOut(t *testing.T) {
	r := rand.New(rand.NewSource(91))
	for range 200 {
		d := randomDag(r, 12)
		l := randomCommits(r, append(idsAsTold(d), someIds(6)...))
		var want []string
		for _, c := range l {
			want = append(want, slices.DeleteFunc(slices.Clone(c.Heads), func(id string) bool { return slices.Contains(idsAsTold(d), id) })...)
		}
		wantTexts(t, "omitted", impl.Omitted(d, l), rising(want)...)
	}
	row := chain(3)
	ids := idsAsTold(row)
	l := []impl.Commit{commit(1, 1, ids[2]), commit(2, 1, rising(ids)...), commit(2, 1, ids[2]), commit(3, impl.MaxSeq)}
	wantTexts(t, "of nothing", impl.Omitted(nil, l), rising(ids)...)
	wantTexts(t, "of one", impl.Omitted(row[:1], l), rising(ids[1:])...)
	wantTexts(t, "of all", impl.Omitted(byId(row...), l))
	wantTexts(t, "no commitments", impl.Omitted(byId(row...), nil))
	var most []impl.Commit
	var all []string
	for i := range impl.MaxNodes {
		heads := idsAsTold(waitingFor(someId("0"), 150)[i*5 : i*5+5])
		most, all = append(most, commit(1, int64(i+1), heads...)), append(all, heads...)
	}
	wantTexts(t, "as many as there can be", impl.Omitted(nil, most), rising(all)...)
	for _, d := range wrongDags() {
		wantTexts(t, "a wrong dag", impl.Omitted(d, l))
		wantHonest(t, d, 1, 0)
		wantHonest(t, d, 1, 1)
	}
}

func wantHonest(t *testing.T, d []impl.Node, author, counts int64, want ...impl.Commit) {
	t.Helper()
	if got := impl.Honest(d, author, counts); !slices.EqualFunc(got, want, sameCommit) {
		t.Fatalf("%v, %d, %d: got %v, want %v", d, author, counts, got, want)
	}
}

// honestAsTold asks of each part of the order which of its ids none of its nodes names.
func honestAsTold(d []impl.Node, author int64, counts int) []impl.Commit {
	var l []impl.Commit
	for count := 1; count <= counts; count++ {
		part := nodesInOrder(d)[:count]
		heads := slices.DeleteFunc(idsAsTold(part), func(id string) bool {
			return slices.ContainsFunc(part, func(n impl.Node) bool { return slices.Contains(n.Ups, id) })
		})
		heads = rising(heads)
		l = append(l, commit(author, int64(count), heads[:min(5, len(heads))]...))
	}
	return l
}

// TestHonestOnes asks the beginning of promise 9, and what shows of who tells something else.
func TestHonestOnes(t *testing.T) {
	r := rand.New(rand.NewSource(92))
	for range 60 {
		d := randomDag(r, 20)
		author, counts := int64(1+r.Intn(9)), r.Intn(len(d)+1)
		l := impl.Honest(d, author, int64(counts))
		wantHonest(t, d, author, int64(counts), honestAsTold(d, author, counts)...)
		if !impl.CommitsOk(l) {
			t.Fatalf("%v is not right", l)
		}
		wantAuthors(t, l)
		wantTexts(t, "all heads are there", impl.Omitted(d, l))
		wantLeftOut(t, d, l)
		if counts > 0 {
			at := r.Intn(counts)
			wantAuthors(t, append(slices.Clone(l), commit(author, l[at].Count, someId("0"))), author)
			wantAuthors(t, append(slices.Clone(l), l[at], commit(author%9+1, l[at].Count, someId("0"))))
		}
	}
}

// wantLeftOut asks of each earlier part of d what is left out there of what an honest one tells of d.
func wantLeftOut(t *testing.T, d []impl.Node, l []impl.Commit) {
	t.Helper()
	for i := range l {
		part := nodesInOrder(d)[:i]
		var want []string
		for _, c := range l {
			for _, id := range c.Heads {
				if !slices.Contains(idsAsTold(part), id) {
					want = append(want, id)
				}
			}
		}
		wantTexts(t, "left out", impl.Omitted(byId(part...), l), rising(want)...)
	}
}

func TestHonestAtItsLimits(t *testing.T) {
	row := chain(30)
	d := byId(row...)
	var want []impl.Commit
	for i, n := range row {
		want = append(want, commit(9, int64(i+1), idAsTold(n)))
	}
	wantHonest(t, d, 9, 30, want...)
	wantHonest(t, d, 9, 29, want[:29]...)
	wantHonest(t, d, 9, 1, want[0])
	wantHonest(t, d, 9, 0)
	wantHonest(t, nil, 1, 0)
	wantHonest(t, byId(row[:29]...), 9, 29, want[:29]...)
	for _, counts := range []int64{math.MinInt64, -1, 31, math.MaxInt64} {
		wantHonest(t, d, 9, counts)
	}
	wantHonest(t, nil, 1, 1)
	wantHonest(t, byId(row[:29]...), 9, 30)
	for _, author := range []int64{math.MinInt64, -1, 0, 10, math.MaxInt64} {
		wantHonest(t, d, author, 30)
		wantHonest(t, d, author, 0)
	}
	// The ids of loose nodes come in rising, so the first MaxUps of them stay the ones that are told.
	ids := idsAsTold(loose(30))
	want = nil
	for i := range ids {
		want = append(want, commit(1, int64(i+1), ids[:min(5, i+1)]...))
	}
	wantHonest(t, loose(30), 1, 30, want...)
}

func TestCommitsLeaveTheirArguments(t *testing.T) {
	row := chain(2)
	ups, upsAsTheyWere := roomy(row[1].Ups, "mark", sameText)
	row[1].Ups = ups
	d, asItWas := roomy(byId(row...), adding(7, 7, "mark"), sameNode)
	heads, headsAsTheyWere := roomy(someIds(2), "mark", sameText)
	l, listAsItWas := roomy([]impl.Commit{commit(2, 1, heads...), commit(2, 1), commit(1, 1, idAsTold(row[0]))}, commit(7, 7), sameCommit)
	for range 2 {
		wantAuthors(t, l, 2)
		clear(impl.Clashes(l))
		wantTexts(t, "omitted", impl.Omitted(d, l), someIds(2)...)
		clear(impl.Omitted(d, l))
		honest := impl.Honest(d, 3, 2)
		_ = append(honest[0].Heads, "spoilt")
		clear(honest[0].Heads)
		if !sameCommit(honest[1], commit(3, 2, idAsTold(row[1]))) {
			t.Error("two lists of one answer:", honest)
		}
		clear(honest[1].Heads)
		wantHonest(t, d, 3, 2, commit(3, 1, idAsTold(row[0])), commit(3, 2, idAsTold(row[1])))
		if !asItWas() || !upsAsTheyWere() || !headsAsTheyWere() || !listAsItWas() {
			t.Fatal("an argument was changed")
		}
	}
}
