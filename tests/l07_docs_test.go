package tests

import (
	"fmt"
	"math"
	"math/rand"
	"reflect"
	"slices"
	"strings"
	"testing"

	"loop.example/g00318/impl"
)

// elemsAsTold works the elements out by asking of every adding each dropping, apart from the program.
func elemsAsTold(d []impl.Node) []string {
	var elems []string
	for _, add := range d {
		knows := func(drop impl.Node) bool {
			return drop.Kind == impl.OpDrop && drop.Text == add.Text && slices.Contains(behindAsTold(d, drop.Ups), idAsTold(add))
		}
		if add.Kind == impl.OpAdd && !slices.ContainsFunc(d, knows) {
			elems = append(elems, add.Text)
		}
	}
	return rising(elems)
}

// regsAsTold works the registers out by writing all settings in order, the later over the earlier.
func regsAsTold(d []impl.Node) map[string]string {
	regs := map[string]string{}
	for _, id := range orderAsTold(d) {
		if n := d[slices.Index(idsAsTold(d), id)]; n.Kind == impl.OpSet {
			regs[n.Key] = n.Text
		}
	}
	return regs
}

func wantReg(t *testing.T, d []impl.Node, key, want string) {
	t.Helper()
	if got, ok := impl.RegOf(d, key); !ok || got != want {
		t.Errorf("RegOf %q: got %q, %v, want %q", key, got, ok, want)
	}
}

func wantNoReg(t *testing.T, d []impl.Node, key string) {
	t.Helper()
	if got, ok := impl.RegOf(d, key); ok || got != "" {
		t.Errorf("RegOf %q: got %q, %v", key, got, ok)
	}
}

// write answers d with what is written, and fails when it is refused.
func write(t *testing.T, d []impl.Node, author, kind int64, key, text string) ([]impl.Node, impl.Node) {
	t.Helper()
	with, n, ok := impl.Written(d, author, kind, key, text)
	if !ok {
		t.Fatalf("author %d, kind %d, %q, %q: refused", author, kind, key, text)
	}
	return with, n
}

func wantNotWritten(t *testing.T, d []impl.Node, author, kind int64, key, text string) {
	t.Helper()
	with, n, ok := impl.Written(d, author, kind, key, text)
	if ok || len(with) != 0 || !reflect.DeepEqual(n, impl.Node{}) {
		t.Errorf("author %d, kind %d, %.50q, %.50q is written: %v, %v", author, kind, key, text, n, ok)
	}
}

func TestElements(t *testing.T) {
	x, y := adding(1, 1, "x"), adding(2, 1, "y")
	between := setting(3, 1, "k", "x", idAsTold(x))
	far := adding(3, 2, "z", idAsTold(between))
	drop := dropping(4, 1, "x", idAsTold(x))
	again := adding(5, 1, "x", idAsTold(drop))
	twin := adding(6, 1, "x")
	for _, c := range []struct {
		what string
		d    []impl.Node
		want []string
	}{
		{"nothing", nil, nil},
		{"one", byId(x), []string{"x"}},
		{"two", byId(y, x), []string{"x", "y"}},
		{"the same twice is there once", byId(x, twin), []string{"x"}},
		{"dropped", byId(x, drop), nil},
		{"dropped, and another one", byId(x, y, drop), []string{"y"}},
		{"a dropping of another text", byId(x, dropping(4, 1, "y", idAsTold(x))), []string{"x"}},
		{"a dropping of what is longer", byId(x, dropping(4, 1, "xx", idAsTold(x))), []string{"x"}},
		{"a dropping that knows of nothing", byId(x, dropping(4, 1, "x")), []string{"x"}},
		{"a dropping that knows of another adding", byId(x, y, dropping(4, 1, "x", idAsTold(y))), []string{"x", "y"}},
		{"a dropping of what never was", byId(dropping(4, 1, "x")), nil},
		{"a dropping far behind", byId(x, between, far, dropping(4, 1, "x", idAsTold(far))), []string{"z"}},
		{"a dropping that knows of it by the second of its Ups", byId(x, y, dropping(4, 1, "x", idAsTold(x), idAsTold(y))), []string{"y"}},
		{"one of two addings is known", byId(x, twin, drop), []string{"x"}},
		{"both addings are known", byId(x, twin, dropping(4, 1, "x", idAsTold(x), idAsTold(twin))), nil},
		{"each adding is known by a dropping of its own", byId(x, twin, drop, dropping(4, 1, "x", idAsTold(twin))), nil},
		{"added again behind the dropping", byId(x, drop, again), []string{"x"}},
		{"and dropped again", byId(x, drop, again, dropping(7, 1, "x", idAsTold(again))), nil},
		{"two droppings that do not know of each other", byId(x, drop, dropping(5, 1, "x", idAsTold(x))), nil},
		{"a setting adds nothing and drops nothing", byId(x, between, setting(5, 1, "x", "y", idAsTold(x))), []string{"x"}},
		{"texts are compared byte by byte", byId(adding(1, 1, "b"), adding(1, 2, "ab"), adding(1, 3, "a"), adding(1, 4, "B"), adding(1, 5, " "), adding(1, 6, "~"), adding(1, 7, "a ")), []string{" ", "B", "a", "a ", "ab", "b", "~"}},
	} {
		if !impl.DagOk(c.d) {
			t.Fatal(c.what, "is no dag")
		}
		wantTexts(t, c.what, impl.ElemsOf(c.d), c.want...)
	}
}

// TestTheAddingWins asks the middle of promise 7, of each that writes first and in whatever order both meet.
func TestTheAddingWins(t *testing.T) {
	start, _ := write(t, nil, 1, impl.OpAdd, "", "x")
	for _, d := range [][]impl.Node{nil, start} {
		for author := int64(1); author <= 9; author++ {
			adds, _ := write(t, d, author, impl.OpAdd, "", "x")
			drops, _ := write(t, d, 10-author, impl.OpDrop, "", "x")
			wantTexts(t, "who dropped sees", impl.ElemsOf(drops))
			one, ok := impl.Joined(adds, drops)
			two, also := impl.Joined(drops, adds)
			if !ok || !also {
				t.Fatal("refused")
			}
			wantTexts(t, "both see", impl.ElemsOf(one), "x")
			wantTexts(t, "both see, the other way", impl.ElemsOf(two), "x")
			after, _ := write(t, one, author, impl.OpDrop, "", "x")
			wantTexts(t, "a dropping that knows of it", impl.ElemsOf(after))
		}
	}
}

// TestDocumentsOfRandomDags holds all that is told against a second working-out.
func TestDocumentsOfRandomDags(t *testing.T) {
	r := rand.New(rand.NewSource(70))
	for range 250 {
		d := randomDag(r, 30)
		wantTexts(t, "elements", impl.ElemsOf(d), elemsAsTold(d)...)
		regs := regsAsTold(d)
		var keys []string
		for key, text := range regs {
			keys = append(keys, key)
			wantReg(t, d, key, text)
		}
		wantTexts(t, "keys", impl.KeysIn(d), rising(keys)...)
		for _, key := range []string{"", "q", "aa"} {
			wantNoReg(t, d, key)
		}
	}
}

func TestRegisters(t *testing.T) {
	wantTexts(t, "no nodes", impl.KeysIn(nil))
	wantNoReg(t, nil, "k")
	first := setting(1, 1, "k", "one")
	second := setting(1, 2, "k", "", idAsTold(first))
	other := setting(2, 1, "K", "k", idAsTold(first))
	d := byId(first, second, other, adding(3, 1, "q"), dropping(3, 2, "r"))
	wantTexts(t, "keys", impl.KeysIn(d), "K", "k")
	wantReg(t, d, "k", "")
	wantReg(t, d, "K", "k")
	for _, key := range []string{"", "q", "r", "kk", "k ", "one", strings.Repeat("k", 1000)} {
		wantNoReg(t, d, key)
	}
	wantTexts(t, "addings and droppings have no Key", impl.KeysIn(byId(adding(3, 1, "q"), dropping(3, 2, "r"))))
	wantNoReg(t, byId(adding(3, 1, "q"), dropping(3, 2, "r")), "")
	sorted := byId(setting(1, 1, "b", ""), setting(1, 2, "ab", ""), setting(1, 3, "a", ""), setting(1, 4, "a", "x"), setting(1, 5, "~", ""), setting(1, 6, " ", ""))
	wantTexts(t, "keys that rise", impl.KeysIn(sorted), " ", "a", "ab", "b", "~")
}

// TestTheLastSettingIsByOrder asks that height counts first, then the id, and never Seq, Author or the place in the list.
func TestTheLastSettingIsByOrder(t *testing.T) {
	for seq := int64(1); seq <= 30; seq++ {
		low := setting(9, 1000-seq, "k", "low")
		top := setting(1, 1, "k", "top", idAsTold(low))
		wantReg(t, byId(low, top), "k", "top")
		one, two := setting(1, 100-seq, "k", "one"), setting(2, seq, "k", "two")
		want := "one"
		if idAsTold(two) > idAsTold(one) {
			want = "two"
		}
		wantReg(t, byId(one, two), "k", want)
		higher := adding(3, seq, "x", idAsTold(one))
		wantReg(t, byId(one, two, higher), "k", want)
		raised := setting(3, seq, "k", "raised", idAsTold(adding(3, seq, "x")))
		wantReg(t, byId(one, two, adding(3, seq, "x"), raised), "k", "raised")
	}
}

// TestWhatIsWritten asks the beginning of promise 7 of documents that many write, who meet now and then.
func TestWhatIsWritten(t *testing.T) {
	r := rand.New(rand.NewSource(71))
	for range 40 {
		var docs [3][]impl.Node
		for range 22 {
			at := r.Intn(3)
			if joined, ok := impl.Joined(docs[at], docs[r.Intn(3)]); ok && r.Intn(3) == 0 {
				docs[at] = joined
			}
			author, word := int64(1+at), string(rune('a'+r.Intn(3)))
			kind, key := int64(1+r.Intn(3)), ""
			if kind == impl.OpSet {
				key = string(rune('a' + r.Intn(3)))
			}
			docs[at] = wantWritten(t, docs[at], author, kind, key, word)
		}
	}
}

// wantWritten writes, and asks all that is promised of what is written.
func wantWritten(t *testing.T, d []impl.Node, author, kind int64, key, text string) []impl.Node {
	t.Helper()
	with, n := write(t, d, author, kind, key, text)
	want := impl.Node{Author: author, Seq: 1, Kind: kind, Key: key, Text: text, Ups: impl.HeadsOf(d)}
	for _, other := range d {
		if other.Author == author {
			want.Seq = max(want.Seq, other.Seq+1)
		}
	}
	if !sameNode(n, want) {
		t.Fatalf("%v: written is %v, want %v", d, n, want)
	}
	wantNodes(t, "with what is written", with, byId(append(slices.Clone(d), want)...))
	wantTexts(t, "the one head", impl.HeadsOf(with), idAsTold(n))
	before := impl.ElemsOf(d)
	switch kind {
	case impl.OpAdd:
		wantTexts(t, "added", impl.ElemsOf(with), rising(append(before, text))...)
	case impl.OpDrop:
		wantTexts(t, "dropped", impl.ElemsOf(with), slices.DeleteFunc(before, func(s string) bool { return s == text })...)
	default:
		wantTexts(t, "set", impl.ElemsOf(with), before...)
		wantTexts(t, "keys", impl.KeysIn(with), rising(append(impl.KeysIn(d), key))...)
		wantReg(t, with, key, text)
	}
	return with
}

func TestWrittenCountsBySeq(t *testing.T) {
	d := byId(adding(1, 7, "x"), adding(1, 3, "y"), adding(2, 900, "x"), adding(9, 1, "x"))
	for author, want := range map[int64]int64{1: 8, 2: 901, 3: 1, 9: 2} {
		if _, n := write(t, d, author, impl.OpAdd, "", "z"); n.Seq != want {
			t.Errorf("author %d: Seq %d, want %d", author, n.Seq, want)
		}
	}
	_, n := write(t, byId(adding(1, impl.MaxSeq-1, "x"), adding(2, impl.MaxSeq, "x")), 1, impl.OpAdd, "", "z")
	if n.Seq != impl.MaxSeq {
		t.Error("the greatest Seq:", n)
	}
	wantNotWritten(t, byId(adding(1, impl.MaxSeq, "x")), 1, impl.OpAdd, "", "z")
	write(t, byId(adding(1, impl.MaxSeq, "x")), 2, impl.OpAdd, "", "z")
}

func TestWrittenAtItsLimits(t *testing.T) {
	if _, n := write(t, loose(5), 2, impl.OpAdd, "", "z"); len(n.Ups) != 5 {
		t.Error("five heads:", n)
	}
	wantNotWritten(t, loose(6), 2, impl.OpAdd, "", "z")
	row := chain(30)
	with, n := write(t, byId(row[:29]...), 1, impl.OpAdd, "", "x")
	if len(with) != impl.MaxNodes || !sameNode(n, row[29]) {
		t.Error("the thirtieth:", n)
	}
	wantNotWritten(t, with, 1, impl.OpAdd, "", "x")
	wantNotWritten(t, byId(row...), 2, impl.OpSet, "k", "")
	for _, author := range []int64{1, 9} {
		write(t, nil, author, impl.OpAdd, "", longest)
		write(t, nil, author, impl.OpDrop, "", longest)
		write(t, nil, author, impl.OpSet, longest, longest)
		write(t, nil, author, impl.OpSet, " ", "")
	}
}

func TestWhatIsNotWritten(t *testing.T) {
	for _, d := range [][]impl.Node{nil, byId(chain(3)...)} {
		for _, author := range []int64{math.MinInt64, -1, 0, 10, math.MaxInt64} {
			wantNotWritten(t, d, author, impl.OpAdd, "", "x")
		}
		for _, kind := range []int64{math.MinInt64, -1, 0, 4, math.MaxInt64} {
			wantNotWritten(t, d, 1, kind, "", "x")
			wantNotWritten(t, d, 1, kind, "k", "x")
		}
		for _, kind := range []int64{impl.OpAdd, impl.OpDrop} {
			wantNotWritten(t, d, 1, kind, "", "")
			wantNotWritten(t, d, 1, kind, "k", "x")
			wantNotWritten(t, d, 1, kind, "", longest+"~")
		}
		wantNotWritten(t, d, 1, impl.OpSet, "", "x")
		wantNotWritten(t, d, 1, impl.OpSet, longest+"~", "x")
		wantNotWritten(t, d, 1, impl.OpSet, "k", longest+"~")
		for _, sign := range []string{"\x00", "\n", "\x1f", "\x7f", "\x80", "é"} {
			wantNotWritten(t, d, 1, impl.OpAdd, "", sign)
			wantNotWritten(t, d, 1, impl.OpSet, sign, "x")
			wantNotWritten(t, d, 1, impl.OpSet, "k", sign)
		}
	}
}

func TestDocumentsOfWrongDags(t *testing.T) {
	wrong := append(wrongDags(), byId(adding(1, 1, "x"), adding(1, math.MaxInt64, "y")), byId(setting(1, 1, "k", "v"), setting(0, 1, "k", "v")))
	for _, d := range wrong {
		wantTexts(t, "elements", impl.ElemsOf(d))
		wantTexts(t, "keys", impl.KeysIn(d))
		for _, key := range []string{"k", "", " "} {
			wantNoReg(t, d, key)
		}
		wantNotWritten(t, d, 1, impl.OpAdd, "", "new")
		wantNotWritten(t, d, 5, impl.OpSet, "k", "new")
	}
}

func TestFullDocuments(t *testing.T) {
	var l []impl.Node
	var want []string
	for i := range impl.MaxNodes {
		want = append(want, fmt.Sprintf("t%02d", i))
		l = append(l, adding(1, int64(i+1), want[i]))
	}
	wantTexts(t, "thirty elements", impl.ElemsOf(byId(l...)), want...)
	wantTexts(t, "thirty-one nodes", impl.ElemsOf(byId(append(l, adding(2, 1, "x"))...)))
	for i := range l {
		l[i] = setting(1, int64(i+1), want[i], "v")
	}
	wantTexts(t, "thirty keys", impl.KeysIn(byId(l...)), want...)
	wantReg(t, byId(l...), want[29], "v")
	over := byId(append(l, setting(2, 1, "x", "v"))...)
	wantTexts(t, "thirty-one nodes", impl.KeysIn(over))
	wantNoReg(t, over, "x")
}

// TestDocumentsAreQuick has droppings with more ways up than could be gone one by one.
func TestDocumentsAreQuick(t *testing.T) {
	l := []impl.Node{adding(1, 1, "x")}
	for i := 1; i < impl.MaxNodes; i++ {
		l = append(l, dropping(1, int64(i+1), "x", idsAsTold(l[max(0, i-5):])...))
	}
	for range 20 {
		wantTexts(t, "dropped", impl.ElemsOf(byId(l...)))
	}
}

func TestDocumentsLeaveTheirArguments(t *testing.T) {
	a := adding(1, 1, "x")
	ups, upsAsTheyWere := roomy([]string{idAsTold(a)}, "mark", sameText)
	b := impl.Node{Author: 2, Seq: 1, Kind: impl.OpSet, Key: "k", Text: "v", Ups: ups}
	d, asItWas := roomy(byId(a, b), adding(7, 7, "mark"), sameNode)
	for range 2 {
		with, n, ok := impl.Written(d, 3, impl.OpDrop, "", "x")
		c := dropping(3, 1, "x", idAsTold(b))
		if !ok || !sameNode(n, c) {
			t.Fatalf("written: %v, %v", n, ok)
		}
		spoil([]impl.Node{n})
		wantNodes(t, "the list, when the node beside it was written into", with, byId(a, b, c))
		spoil(with)
		for _, l := range [][]string{impl.ElemsOf(d), impl.KeysIn(d)} {
			if len(l) != 1 {
				t.Error("told:", l)
			}
			clear(l)
		}
		wantReg(t, d, "k", "v")
		if !asItWas() || !upsAsTheyWere() {
			t.Fatal("an argument was changed")
		}
	}
}
