package tests

import (
	"fmt"
	"math/rand"
	"slices"
	"strings"
	"testing"

	"loop.example/g00318/impl"
)

// dagTextAsTold is a dag's text, made apart from the program, whether the dag is right or not.
func dagTextAsTold(d []impl.Node) string {
	s := fmt.Sprintf("dag %d\n", len(d))
	for _, n := range d {
		s += textAsTold(n) + "\n"
	}
	return s
}

func wantDag(t *testing.T, s string, want []impl.Node) {
	t.Helper()
	d, ok := impl.ReadDag(s)
	if !ok || !impl.DagOk(d) {
		t.Fatalf("ReadDag(%.300q): got %v, %v", s, d, ok)
	}
	wantNodes(t, "read", d, want)
}

func wantNoDag(t *testing.T, s string) {
	t.Helper()
	if d, ok := impl.ReadDag(s); ok || len(d) != 0 {
		t.Errorf("ReadDag(%.300q): got %v, %v", s, d, ok)
	}
}

// wantDagOrNone asks that s is read just when it is the text of what is read.
func wantDagOrNone(t *testing.T, s string) {
	t.Helper()
	d, ok := impl.ReadDag(s)
	if !ok {
		wantNoDag(t, s)
		return
	}
	if !impl.DagOk(d) || dagTextAsTold(d) != s {
		t.Errorf("ReadDag(%.300q): got %v", s, d)
	}
}

func partOf(t *testing.T, d []impl.Node, ids ...string) []impl.Node {
	t.Helper()
	p, ok := impl.Part(d, ids)
	if !ok || !impl.DagOk(p) {
		t.Fatalf("%v, %q: got %v, %v", d, ids, p, ok)
	}
	return p
}

func wantNoPart(t *testing.T, d []impl.Node, ids ...string) {
	t.Helper()
	if p, ok := impl.Part(d, ids); ok || len(p) != 0 {
		t.Errorf("%v, %q: got %v, %v", d, ids, p, ok)
	}
}

// greatestDag has as many nodes as there can be, each as long as it can be.
func greatestDag() []impl.Node {
	var ids []string
	var l []impl.Node
	for i := range int64(impl.MaxNodes) {
		n := setting(9, impl.MaxSeq-i%2, longest, longest, ids[max(0, len(ids)-5):]...)
		l, ids = append(l, n), append(ids, idAsTold(n))
	}
	return byId(l...)
}

// TestDagsComeBack asks the beginning of promise 13.
func TestDagsComeBack(t *testing.T) {
	r := rand.New(rand.NewSource(130))
	dags := [][]impl.Node{nil, {}, loose(1), loose(29), loose(30), byId(chain(30)...), greatestDag()}
	for _, n := range rightNodes() {
		if len(n.Ups) == 0 {
			dags = append(dags, []impl.Node{n})
		}
	}
	for range 200 {
		dags = append(dags, randomDag(r, 30))
	}
	for _, d := range dags {
		s := impl.DagText(d)
		if s != dagTextAsTold(d) {
			t.Fatalf("%v has the text %q", d, s)
		}
		wantDag(t, s, d)
	}
}

func TestTextsOfKnownDags(t *testing.T) {
	one := setting(2, 10, "k", "")
	two := adding(9, 1000000, "a b", idAsTold(one))
	texts := map[string]string{
		idAsTold(one): "author 2\nseq 10\nkind 3\nkey k\ntext \n\n",
		idAsTold(two): "author 9\nseq 1000000\nkind 1\nkey \ntext a b\nup " + idAsTold(one) + "\n\n",
	}
	s := "dag 2\n"
	for _, id := range rising([]string{idAsTold(one), idAsTold(two)}) {
		s += texts[id]
	}
	for _, c := range []struct {
		d    []impl.Node
		text string
	}{
		{nil, "dag 0\n"}, {[]impl.Node{one}, "dag 1\nauthor 2\nseq 10\nkind 3\nkey k\ntext \n\n"}, {byId(one, two), s},
	} {
		if got := impl.DagText(c.d); got != c.text {
			t.Errorf("%v: got %q, want %q", c.d, got, c.text)
		}
		wantDag(t, c.text, c.d)
	}
}

func TestWrongDagsHaveNoText(t *testing.T) {
	for _, d := range wrongDags() {
		if s := impl.DagText(d); s != "" {
			t.Errorf("%v has the text %q", d, s)
		}
		wantNoDag(t, dagTextAsTold(d))
		wantNoPart(t, d)
		wantTexts(t, "a wrong dag", impl.Lacking(d, []string{"none"}))
		for _, n := range d[:min(len(d), 3)] {
			wantNoPart(t, d, idAsTold(n))
			wantTexts(t, "a wrong dag", impl.Lacking(d, []string{idAsTold(n), someId("e")}))
		}
	}
}

// TestTextsThatAreNoDags changes a right text at each place.
func TestTextsThatAreNoDags(t *testing.T) {
	a := adding(1, 12, "x")
	right := dagTextAsTold(byId(a, setting(2, 1, "k", "", idAsTold(a)), dropping(3, 1, "x", idAsTold(a))))
	wantDag(t, right, byId(a, setting(2, 1, "k", "", idAsTold(a)), dropping(3, 1, "x", idAsTold(a))))
	for i := range len(right) {
		wantNoDag(t, right[:i])
		wantNoDag(t, right[i+1:])
		wantDagOrNone(t, right[:i]+right[i+1:])
		for _, sign := range []string{" ", "\n", "\n\n", "0", "1", "f", "\x00", "\xff", "\r"} {
			wantDagOrNone(t, right[:i]+sign+right[i:])
			wantDagOrNone(t, right[:i]+sign+right[i+1:])
		}
	}
	_, nodes, _ := strings.Cut(right, "\n")
	for _, head := range []string{"dag 0", "dag 1", "dag 2", "dag 4", "dag 03", "dag +3", "dag -3", "dag  3", "dag 3 ", " dag 3", "dag3", "dag", "dag ", "Dag 3", "3", "", "dag 3\r", "dag 3\n", "\ndag 3", "dag 3.0", "dag 31", "dag 4294967299", "dag 9999999999", "dag 18446744073709551619", "dag 99999999999999999999999", "node 3"} {
		wantNoDag(t, head+"\n"+nodes)
	}
	for _, s := range []string{"", "\n", "\n\n", right + "\n", right + right, right + nodes, right + "x", right + "\x00", "\n" + right, strings.TrimSuffix(right, "\n"), strings.TrimSuffix(right, "\n\n"), strings.ReplaceAll(right, "\n", "\r\n"), strings.ReplaceAll(right, "\n\n", "\n"), strings.ReplaceAll(right, "\n\n", "\n\n\n")} {
		wantNoDag(t, s)
	}
}

func TestTextsOfNoNodes(t *testing.T) {
	wantDag(t, "dag 0\n", nil)
	for _, s := range []string{"dag 0", "dag 00\n", "dag 0\n\n", "dag 0\nx\n", "dag 0\n ", "dag 0 \n", "dag -0\n", "dag \n", "dag\n", "dag 1\n", "dag 1\n\n", "dag 1\n\n\n", "dag 30\n", "dag 31\n", "dag 0\ndag 0\n"} {
		wantNoDag(t, s)
	}
}

// TestDagTextsAtTheirLimits has a text of thirty nodes and of one more, and texts around the most bytes.
func TestDagTextsAtTheirLimits(t *testing.T) {
	wantDag(t, dagTextAsTold(loose(30)), loose(30))
	wantNoDag(t, dagTextAsTold(loose(31)))
	wantNoDag(t, strings.Replace(dagTextAsTold(loose(31)), "dag 31\n", "dag 30\n", 1))
	wantNoDag(t, strings.Replace(dagTextAsTold(loose(30)), "dag 30\n", "dag 29\n", 1))
	wantNoDag(t, strings.Replace(dagTextAsTold(loose(29)), "dag 29\n", "dag 30\n", 1))
	s := dagTextAsTold(greatestDag())
	if len(s) > 30000 {
		t.Fatal("the longest text has", len(s), "bytes")
	}
	for _, fill := range []string{"\n", " ", "\x00", "0"} {
		for _, size := range []int{29999, 30000, 30001, 5000000} {
			wantNoDag(t, s+strings.Repeat(fill, size-len(s)))
			wantNoDag(t, "dag 0\n"+strings.Repeat(fill, size-6))
			wantNoDag(t, strings.Repeat(fill, size))
		}
	}
}

// TestPartsAreWhatIsBehind asks the end of promise 13: what is asked for, all that is behind it, no more.
func TestPartsAreWhatIsBehind(t *testing.T) {
	r := rand.New(rand.NewSource(131))
	for range 300 {
		d := randomDag(r, 30)
		var ids []string
		for _, id := range idsAsTold(d) {
			if r.Intn(6) == 0 {
				ids = append(ids, id)
			}
		}
		r.Shuffle(len(ids), func(i, j int) { ids[i], ids[j] = ids[j], ids[i] })
		behind := behindAsTold(d, ids)
		want := slices.DeleteFunc(slices.Clone(d), func(n impl.Node) bool { return !slices.Contains(behind, idAsTold(n)) })
		part := partOf(t, d, ids...)
		wantNodes(t, "a part", part, want)
		wantNodes(t, "its own part", partOf(t, part, ids...), want)
		wantNodes(t, "of the same ids again", partOf(t, d, append(ids, ids...)[:min(2*len(ids), 30)]...), want)
		wantNodes(t, "of the heads", partOf(t, d, impl.HeadsOf(d)...), d)
		wantTexts(t, "of a part", impl.Lacking(part, ids))
		if joined, ok := impl.Joined(d, part); !ok || !sameNodes(joined, d) {
			t.Fatalf("%v has not the part %v", d, part)
		}
		wantDag(t, impl.DagText(part), part)
	}
}

func TestPartsAtTheirLimits(t *testing.T) {
	row := chain(30)
	d, ids := byId(row...), idsAsTold(row)
	for i, id := range ids {
		wantNodes(t, "one", partOf(t, d, id), byId(row[:i+1]...))
	}
	wantNodes(t, "no ids", partOf(t, d), nil)
	wantNodes(t, "no ids, no nodes", partOf(t, nil), nil)
	wantNodes(t, "thirty ids", partOf(t, d, ids...), d)
	wantNodes(t, "one id thirty times", partOf(t, d, slices.Repeat(ids[4:5], 30)...), byId(row[:5]...))
	wantNoPart(t, d, slices.Repeat(ids[4:5], 31)...)
	wantNoPart(t, d, append(slices.Clone(ids), ids[0])...)
	wantNoPart(t, nil, ids[0])
	wantNoPart(t, byId(row[:29]...), ids[29])
	wantNodes(t, "loose ones", partOf(t, loose(30), idsAsTold(loose(30))[7], idsAsTold(loose(30))[3]), []impl.Node{loose(30)[3], loose(30)[7]})
	for _, none := range []string{"", "x", someId("e"), ids[0][1:], ids[0] + "0", strings.ToUpper(ids[0]), " " + ids[0]} {
		wantNoPart(t, d, none)
		wantNoPart(t, d, ids[0], none, ids[1])
		wantNoPart(t, d, append(slices.Clone(ids[:29]), none)...)
	}
}

func TestLackingIds(t *testing.T) {
	r := rand.New(rand.NewSource(132))
	for range 300 {
		all := randomGrowth(r, 30)
		d := byId(all[:r.Intn(len(all)+1)]...)
		var ids, want []string
		for range r.Intn(31) {
			id := append(idsAsTold(all), "", "x", someId("e"))[r.Intn(len(all)+3)]
			ids = append(ids, id)
			if !slices.Contains(idsAsTold(d), id) {
				want = append(want, id)
			}
		}
		wantTexts(t, "lacking", impl.Lacking(d, ids), rising(want)...)
		if len(want) > 0 {
			wantNoPart(t, d, ids...)
		} else {
			partOf(t, d, ids...)
		}
	}
}

func TestLackingAtItsLimits(t *testing.T) {
	row := chain(30)
	d, ids := byId(row...), idsAsTold(row)
	others := idsAsTold(waitingFor(someId("0"), 31))
	wantTexts(t, "no ids", impl.Lacking(d, nil))
	wantTexts(t, "all there", impl.Lacking(d, ids))
	wantTexts(t, "of nothing", impl.Lacking(nil, ids), rising(ids)...)
	wantTexts(t, "thirty ids", impl.Lacking(d, others[:30]), rising(others[:30])...)
	wantTexts(t, "thirty-one ids", impl.Lacking(d, others))
	wantTexts(t, "one id thirty times", impl.Lacking(d, slices.Repeat([]string{"x"}, 30)), "x")
	wantTexts(t, "one id thirty-one times", impl.Lacking(d, slices.Repeat([]string{"x"}, 31)))
	wantTexts(t, "thirty-one ids, one of them lacking", impl.Lacking(d, append(slices.Clone(ids), "x")))
	wantTexts(t, "by bytes", impl.Lacking(d, []string{"b", "a", "", "ab", "\xff", "B", ids[3], "a"}), "", "B", "a", "ab", "b", "\xff")
	wantTexts(t, "an up that is no node's", impl.Lacking(byId(row[:29]...), []string{ids[29], ids[28]}), ids[29])
}

// TestTextsLeaveTheirArguments asks promise 19 of texts and parts.
func TestTextsLeaveTheirArguments(t *testing.T) {
	a := adding(1, 1, "x")
	ups, upsAsTheyWere := roomy([]string{idAsTold(a)}, "mark", sameText)
	b := impl.Node{Author: 2, Seq: 1, Kind: impl.OpSet, Key: "k", Ups: ups}
	c := impl.Node{Author: 3, Seq: 1, Kind: impl.OpDrop, Text: "x", Ups: ups}
	d, asItWas := roomy(byId(a, b, c), adding(7, 7, "mark"), sameNode)
	ids, idsAsTheyWere := roomy([]string{idAsTold(c), idAsTold(b), idAsTold(c)}, "mark", sameText)
	more, moreAsTheyWere := roomy([]string{"none", idAsTold(a), "else", "none"}, "mark", sameText)
	for range 2 {
		part := partOf(t, d, ids...)
		wantNodes(t, "a part", part, byId(a, b, c))
		wantApart(t, part)
		spoil(part)
		s := impl.DagText(d)
		read, ok := impl.ReadDag(s)
		if !ok || s != dagTextAsTold(byId(a, b, c)) {
			t.Fatal(s)
		}
		wantApart(t, read)
		spoil(read)
		lacking := impl.Lacking(d, more)
		wantTexts(t, "lacking", lacking, "else", "none")
		clear(lacking[:cap(lacking)])
		if !asItWas() || !upsAsTheyWere() || !idsAsTheyWere() || !moreAsTheyWere() {
			t.Fatal("an argument was changed")
		}
	}
}

// wantApart writes into the Ups of each node in turn, and looks at those of the ones behind it.
func wantApart(t *testing.T, l []impl.Node) {
	t.Helper()
	for i := range l {
		clear(l[i].Ups)
		for _, other := range l[i+1:] {
			if slices.Contains(other.Ups, "") {
				t.Fatal("two nodes of one answer share their Ups")
			}
		}
	}
}
