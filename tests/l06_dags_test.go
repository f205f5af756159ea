package tests

import (
	"crypto/sha256"
	"encoding/hex"
	"fmt"
	"math"
	"math/rand"
	"reflect"
	"slices"
	"strings"
	"testing"

	"loop.example/g00318/impl"
)

func adding(author, seq int64, text string, ups ...string) impl.Node {
	return impl.Node{Author: author, Seq: seq, Kind: impl.OpAdd, Text: text, Ups: rising(ups)}
}

func dropping(author, seq int64, text string, ups ...string) impl.Node {
	return impl.Node{Author: author, Seq: seq, Kind: impl.OpDrop, Text: text, Ups: rising(ups)}
}

func setting(author, seq int64, key, text string, ups ...string) impl.Node {
	return impl.Node{Author: author, Seq: seq, Kind: impl.OpSet, Key: key, Text: text, Ups: rising(ups)}
}

// textAsTold is a node's text, made apart from the program.
func textAsTold(n impl.Node) string {
	s := fmt.Sprintf("author %d\nseq %d\nkind %d\nkey %s\ntext %s\n", n.Author, n.Seq, n.Kind, n.Key, n.Text)
	for _, up := range n.Ups {
		s += "up " + up + "\n"
	}
	return s
}

func idAsTold(n impl.Node) string {
	sum := sha256.Sum256([]byte(textAsTold(n)))
	return hex.EncodeToString(sum[:])
}

// byId answers these nodes by rising id, each once.
func byId(l ...impl.Node) []impl.Node {
	l = slices.Clone(l)
	slices.SortFunc(l, func(a, b impl.Node) int { return strings.Compare(idAsTold(a), idAsTold(b)) })
	return slices.CompactFunc(l, sameNode)
}

func idsAsTold(d []impl.Node) []string {
	var ids []string
	for _, n := range d {
		ids = append(ids, idAsTold(n))
	}
	return ids
}

func sameNode(a, b impl.Node) bool {
	return textAsTold(a) == textAsTold(b)
}

func sameNodes(a, b []impl.Node) bool {
	return slices.EqualFunc(a, b, sameNode)
}

func wantNodes(t *testing.T, what string, got, want []impl.Node) {
	t.Helper()
	if !sameNodes(got, want) {
		t.Fatalf("%s: got %v, want %v", what, got, want)
	}
}

// randomNode makes a right node of few words that stands behind some of these ids.
func randomNode(r *rand.Rand, ids []string) impl.Node {
	var ups []string
	for range r.Intn(4) {
		if len(ids) > 0 {
			ups = append(ups, ids[len(ids)-1-r.Intn(min(len(ids), 6))])
		}
	}
	author, seq, word := int64(1+r.Intn(9)), int64(1+r.Intn(50)), string(rune('a'+r.Intn(4)))
	switch r.Intn(3) {
	case 0:
		return adding(author, seq, word, ups...)
	case 1:
		return dropping(author, seq, word, ups...)
	}
	return setting(author, seq, word, strings.Repeat(word, r.Intn(3)), ups...)
}

// randomGrowth makes at most most nodes, each behind some of those ahead of it.
func randomGrowth(r *rand.Rand, most int) []impl.Node {
	var l []impl.Node
	var ids []string
	for range r.Intn(most + 1) {
		n := randomNode(r, ids)
		if id := idAsTold(n); !slices.Contains(ids, id) {
			l, ids = append(l, n), append(ids, id)
		}
	}
	return l
}

func randomDag(r *rand.Rand, most int) []impl.Node {
	return byId(randomGrowth(r, most)...)
}

// behindAsTold takes Ups in, again and again, until there are no more.
func behindAsTold(d []impl.Node, ids []string) []string {
	in := map[string]bool{}
	for _, id := range ids {
		in[id] = true
	}
	for range d {
		for _, n := range d {
			for _, up := range n.Ups {
				in[up] = in[up] || in[idAsTold(n)]
			}
		}
	}
	var found []string
	for _, id := range idsAsTold(d) {
		if in[id] {
			found = append(found, id)
		}
	}
	return found
}

// orderAsTold takes height by height: all whose Ups are all taken.
func orderAsTold(d []impl.Node) []string {
	var order []string
	for range d {
		var height []string
		for _, n := range d {
			ready := !slices.Contains(order, idAsTold(n))
			for _, up := range n.Ups {
				ready = ready && slices.Contains(order, up)
			}
			if ready {
				height = append(height, idAsTold(n))
			}
		}
		order = append(order, rising(height)...)
	}
	return order
}

// loose makes n nodes without Ups.
func loose(n int) []impl.Node {
	var l []impl.Node
	for i := range n {
		l = append(l, adding(1, int64(i+1), "x"))
	}
	return byId(l...)
}

// chain makes n nodes, each behind the one ahead of it.
func chain(n int) []impl.Node {
	l := []impl.Node{adding(1, 1, "x")}
	for len(l) < n {
		l = append(l, adding(1, int64(len(l)+1), "x", idAsTold(l[len(l)-1])))
	}
	return l
}

func someId(digit string) string { return strings.Repeat(digit, 64) }

func someIds(n int) []string {
	var l []string
	for i := range n {
		l = append(l, someId(string("0123456789abcdef"[i])))
	}
	return l
}

var longest = strings.Repeat("~", impl.MaxText)

func rightNodes() []impl.Node {
	l := []impl.Node{
		adding(1, 1, "x"), adding(9, impl.MaxSeq, longest), dropping(5, 999999, " "), setting(1, 1, " ", ""), setting(2, 3, "k", "v"),
		setting(9, impl.MaxSeq, longest, longest, someIds(5)...), setting(1, 10, "  ", "  a  "), setting(1, 1, "key k", "text v"),
		adding(1, 1, "author 1"), adding(1, 1, "\\n\"'~"), dropping(3, 7, "up "+"x", someIds(1)...),
		adding(1, 1, "x", someId("0"), someId("f"), strings.Repeat("0123456789abcdef", 4)),
	}
	for b := byte(32); b <= 126; b++ {
		l = append(l, adding(1, 1, string(rune(b))), setting(1, 1, string(rune(b)), string(rune(b))))
	}
	return l
}

func wrongNodes() []impl.Node {
	with := func(change func(n *impl.Node)) impl.Node {
		n := setting(1, 1, "k", "v", someIds(2)...)
		change(&n)
		return n
	}
	l := []impl.Node{
		{}, adding(1, 1, ""), dropping(1, 1, ""), setting(1, 1, "", "v"), setting(1, 1, "", ""),
		{Author: 1, Seq: 1, Kind: impl.OpAdd, Key: "k", Text: "x"}, {Author: 1, Seq: 1, Kind: impl.OpDrop, Key: "k", Text: "x"},
		adding(1, 1, longest+"~"), setting(1, 1, longest+"~", "v"), setting(1, 1, "k", longest+"~"), setting(1, 1, "k", "v", someIds(6)...),
		with(func(n *impl.Node) { n.Ups[0], n.Ups[1] = n.Ups[1], n.Ups[0] }),
		with(func(n *impl.Node) { n.Ups[1] = n.Ups[0] }),
	}
	for _, number := range []int64{math.MinInt64, -1, 0, math.MaxInt64} {
		l = append(l, with(func(n *impl.Node) { n.Author = number }), with(func(n *impl.Node) { n.Seq = number }), with(func(n *impl.Node) { n.Kind = number }))
	}
	l = append(l, with(func(n *impl.Node) { n.Author = 10 }), with(func(n *impl.Node) { n.Seq = impl.MaxSeq + 1 }))
	for _, kind := range []int64{-1, 0, 4, 5} {
		l = append(l, with(func(n *impl.Node) { n.Kind = kind }), with(func(n *impl.Node) { n.Kind, n.Key = kind, "" }))
	}
	for _, sign := range []string{"\x00", "\n", "\x1f", "\x7f", "\x80", "\xff", "é"} {
		l = append(l, with(func(n *impl.Node) { n.Key = sign }), with(func(n *impl.Node) { n.Text = "v" + sign }))
	}
	for _, id := range []string{"", "x", someId("0")[1:], someId("0") + "0", someId("g"), someId("F"), someId("/"), someId(":"), someId("`"), someId("0")[1:] + "\n", "é" + someId("0")[2:], someId("0")[:32] + " " + someId("0")[:31]} {
		l = append(l, with(func(n *impl.Node) { n.Ups = []string{id} }), with(func(n *impl.Node) { n.Ups = rising([]string{someId("1"), id}) }))
	}
	return l
}

// TestNodesComeBack asks the beginning of promise 6.
func TestNodesComeBack(t *testing.T) {
	r := rand.New(rand.NewSource(60))
	nodes := rightNodes()
	for range 300 {
		nodes = append(nodes, randomNode(r, someIds(9)))
	}
	for _, n := range nodes {
		if !impl.NodeOk(n) || impl.NodeText(n) != textAsTold(n) || impl.IdOf(n) != idAsTold(n) {
			t.Fatalf("%v: %v, %q, %q", n, impl.NodeOk(n), impl.NodeText(n), impl.IdOf(n))
		}
		back, ok := impl.ReadNode(textAsTold(n))
		if !ok || !sameNode(back, n) || len(back.Ups) != len(n.Ups) {
			t.Fatalf("%v comes back as %v, %v", n, back, ok)
		}
	}
}

func TestWrongNodes(t *testing.T) {
	for _, n := range wrongNodes() {
		if impl.NodeOk(n) || impl.NodeText(n) != "" || impl.IdOf(n) != "" {
			t.Errorf("%v is taken: %q, %q", n, impl.NodeText(n), impl.IdOf(n))
		}
		wantNoNode(t, textAsTold(n))
		if impl.DagOk([]impl.Node{n}) {
			t.Errorf("a dag with %v", n)
		}
		if d, ok := impl.Added(nil, n); ok || len(d) != 0 {
			t.Errorf("%v is added", n)
		}
	}
}

func wantNoNode(t *testing.T, s string) {
	t.Helper()
	if n, ok := impl.ReadNode(s); ok || !reflect.DeepEqual(n, impl.Node{}) {
		t.Errorf("ReadNode(%.200q): got %v, %v", s, n, ok)
	}
}

func TestTextsThatAreNoNodes(t *testing.T) {
	right := textAsTold(setting(1, 12, "k", "v", someIds(3)...))
	for i := range len(right) {
		wantOneOrNone(t, right[:i])
		wantOneOrNone(t, right[:i]+right[i+1:])
		for _, sign := range []string{" ", "\n", "0", "1", "f", "\x00", "\xff", "\r"} {
			wantOneOrNone(t, right[:i]+sign+right[i:])
			wantOneOrNone(t, right[:i]+sign+right[i+1:])
		}
	}
	for _, s := range []string{
		"", "\n", right + "\n", "\n" + right, right + right, right + "up \n", right + "up", right + "up" + someId("f"), right + "down " + someId("f") + "\n", right + "up  " + someId("f") + "\n",
		"author 01\nseq 1\nkind 1\nkey \ntext x\n", "author 1\nseq 00001\nkind 1\nkey \ntext x\n", "author +1\nseq 1\nkind 1\nkey \ntext x\n", "author 1\nseq -1\nkind 1\nkey \ntext x\n",
		"author \nseq 1\nkind 1\nkey \ntext x\n", "author 1\nseq 4294967297\nkind 1\nkey \ntext x\n", "author 1\nseq 18446744073709551617\nkind 1\nkey \ntext x\n",
		"author 1\nseq 1\nkind 1\nkey\ntext x\n", "author 1\nseq 1\nkind 3\nkey k\ntext\n", "author 1\nseq 1\nkind 1\ntext x\nkey \n", "Author 1\nseq 1\nkind 1\nkey \ntext x\n",
		"1\nseq 1\nkind 1\nkey \ntext x\n", "author 1\n1\nkind 1\nkey \ntext x\n", "author 1\nseq 1\n1\nkey \ntext x\n", "author 1\nseq 1\nkind 1\n\ntext x\n", "author 1\nseq 1\nkind 1\nkey \nx\n", right + someId("f") + "\n",
		"author 1\r\nseq 1\nkind 1\nkey \ntext x\n", "author 1\nseq 1\nkind 1\nkey \ntext x\n\n", "author 1 seq 1\nkind 1\nkey \ntext x\n", "author  1\nseq 1\nkind 1\nkey \ntext x\n", "author 1 \nseq 1\nkind 1\nkey \ntext x\n",
		right + strings.Repeat("up "+someId("f")+"\n", 3), strings.Repeat("\n", 1000), strings.Repeat("\n", 1001), strings.Repeat("author 1\n", 1000000),
	} {
		wantNoNode(t, s)
	}
}

// wantOneOrNone asks that s is read just when it is the text of what is read.
func wantOneOrNone(t *testing.T, s string) {
	t.Helper()
	n, ok := impl.ReadNode(s)
	if !ok {
		wantNoNode(t, s)
		return
	}
	if !impl.NodeOk(n) || textAsTold(n) != s {
		t.Errorf("ReadNode(%.200q): got %v", s, n)
	}
}

func TestDagLists(t *testing.T) {
	a := adding(1, 1, "x")
	b := setting(2, 1, "k", "", idAsTold(a))
	c := dropping(3, 1, "x", idAsTold(a), idAsTold(b))
	for _, d := range [][]impl.Node{nil, {}, {a}, byId(a, b), byId(a, b, c), loose(30), byId(chain(30)...)} {
		if !impl.DagOk(d) {
			t.Errorf("%v is refused", d)
		}
	}
	for _, d := range wrongDags() {
		if impl.DagOk(d) {
			t.Errorf("%v is taken", d)
		}
		if len(impl.HeadsOf(d)) != 0 || len(impl.Behind(d, idsAsTold(d))) != 0 || len(impl.Ordered(d)) != 0 {
			t.Errorf("%v: %q %q %q", d, impl.HeadsOf(d), impl.Behind(d, idsAsTold(d)), impl.Ordered(d))
		}
		for _, n := range []impl.Node{a, adding(4, 4, "z")} {
			if l, ok := impl.Added(d, n); ok || len(l) != 0 {
				t.Errorf("%v: added: %v", d, l)
			}
		}
		for _, other := range [][]impl.Node{nil, byId(a, b, c), d} {
			one, ok := impl.Joined(d, other)
			two, also := impl.Joined(other, d)
			if ok || also || len(one) != 0 || len(two) != 0 {
				t.Errorf("%v and %v: joined", d, other)
			}
		}
	}
}

func wrongDags() [][]impl.Node {
	a := adding(1, 1, "x")
	b := setting(2, 1, "k", "", idAsTold(a))
	c := dropping(3, 1, "x", idAsTold(a), idAsTold(b))
	turned := byId(a, b, c)
	slices.Reverse(turned)
	swapped := byId(a, b, c)
	swapped[1], swapped[2] = swapped[2], swapped[1]
	l := [][]impl.Node{
		{a, a}, turned, swapped, {b}, {c}, byId(a, c), byId(b, c), loose(31), byId(chain(31)...), loose(1000),
		byId(append(loose(29), adding(1, 2, "x", someId("a")))...),
	}
	for _, n := range wrongNodes() {
		l = append(l, byId(a, n))
	}
	return l
}

func TestWhatIsAdded(t *testing.T) {
	r := rand.New(rand.NewSource(61))
	for range 60 {
		growth := randomGrowth(r, 30)
		var d []impl.Node
		for i, n := range growth {
			next, ok := impl.Added(d, n)
			if !ok {
				t.Fatalf("%v: %v is refused", d, n)
			}
			wantNodes(t, "added", next, byId(growth[:i+1]...))
			if !impl.DagOk(next) {
				t.Fatalf("%v is no dag", next)
			}
			again, ok := impl.Added(next, growth[r.Intn(i+1)])
			if !ok {
				t.Fatalf("%v: refused the second time", next)
			}
			wantNodes(t, "twice", again, next)
			d = next
		}
	}
}

func TestWhatIsNotAdded(t *testing.T) {
	a := adding(1, 1, "x")
	b := adding(2, 1, "y", idAsTold(a))
	for _, c := range []struct {
		d []impl.Node
		n impl.Node
	}{
		{nil, b}, {loose(5), adding(2, 1, "y", someId("0"))}, {byId(a), adding(3, 1, "z", idAsTold(a), idAsTold(b))}, {byId(a, b), adding(3, 1, "z", idAsTold(a), strings.Replace(idAsTold(b), "a", "b", 1))},
		{loose(30), adding(2, 1, "y")}, {byId(chain(30)...), adding(2, 1, "y")},
	} {
		if d, ok := impl.Added(c.d, c.n); ok || len(d) != 0 {
			t.Errorf("%v is added to %v: %v", c.n, c.d, d)
		}
	}
	full := loose(30)
	if d, ok := impl.Added(full[1:], full[0]); !ok || !sameNodes(d, full) {
		t.Error("the thirtieth is refused")
	}
	if d, ok := impl.Added(full, full[7]); !ok || !sameNodes(d, full) {
		t.Error("one of thirty is refused")
	}
}

func TestHeads(t *testing.T) {
	wantTexts(t, "none", impl.HeadsOf(nil))
	row := chain(30)
	wantTexts(t, "a chain", impl.HeadsOf(byId(row...)), idAsTold(row[29]))
	wantTexts(t, "loose ones", impl.HeadsOf(loose(30)), idsAsTold(loose(30))...)
	r := rand.New(rand.NewSource(62))
	for range 200 {
		d := randomDag(r, 30)
		var want []string
		for _, id := range idsAsTold(d) {
			if !slices.ContainsFunc(d, func(n impl.Node) bool { return slices.Contains(n.Ups, id) }) {
				want = append(want, id)
			}
		}
		heads := impl.HeadsOf(d)
		wantTexts(t, "heads", heads, want...)
		wantTexts(t, "behind the heads", impl.Behind(d, heads), idsAsTold(d)...)
	}
}

func TestBehind(t *testing.T) {
	r := rand.New(rand.NewSource(63))
	for range 200 {
		d := randomDag(r, 30)
		var ids []string
		for _, id := range idsAsTold(d) {
			if r.Intn(6) == 0 {
				ids = append(ids, id)
			}
		}
		r.Shuffle(len(ids), func(i, j int) { ids[i], ids[j] = ids[j], ids[i] })
		want := behindAsTold(d, ids)
		wantTexts(t, "behind", impl.Behind(d, ids), want...)
		ids = append(ids, "", "none", someId("e"))
		ids = append(ids, ids...)
		wantTexts(t, "behind, and ids that are not there", impl.Behind(d, ids[:min(len(ids), 30)]), behindAsTold(d, ids[:min(len(ids), 30)])...)
	}
}

func TestBehindAtItsLimits(t *testing.T) {
	row := chain(30)
	last := idAsTold(row[29])
	wantTexts(t, "no ids", impl.Behind(byId(row...), nil))
	wantTexts(t, "no nodes", impl.Behind(nil, []string{last}))
	wantTexts(t, "the first one", impl.Behind(byId(row...), []string{idAsTold(row[0])}), idAsTold(row[0]))
	wantTexts(t, "the last one", impl.Behind(byId(row...), []string{last}), rising(idsAsTold(row))...)
	wantTexts(t, "thirty ids", impl.Behind(byId(row...), slices.Repeat([]string{last}, 30)), rising(idsAsTold(row))...)
	wantTexts(t, "thirty-one ids", impl.Behind(byId(row...), slices.Repeat([]string{last}, 31)))
	wantTexts(t, "thirty-one ids that are not there", impl.Behind(byId(row...), slices.Repeat([]string{"x"}, 31)))
	wantTexts(t, "an up that is no node", impl.Behind([]impl.Node{adding(1, 1, "x", someId("a"))}, []string{someId("a")}))
}

// TestBehindIsQuick has a dag with more ways up than could be gone one by one.
func TestBehindIsQuick(t *testing.T) {
	var l []impl.Node
	for i := range 30 {
		n := adding(1, int64(i+1), "x")
		for _, up := range l[max(0, i-5):] {
			n.Ups = append(n.Ups, idAsTold(up))
		}
		n.Ups = rising(n.Ups)
		l = append(l, n)
	}
	d := byId(l...)
	for range 20 {
		wantTexts(t, "behind", impl.Behind(d, []string{idAsTold(l[29])}), idsAsTold(d)...)
		wantTexts(t, "ordered", impl.Ordered(d), idsAsTold(l)...)
	}
}

func TestJoined(t *testing.T) {
	r := rand.New(rand.NewSource(64))
	for range 150 {
		shared := randomGrowth(r, 8)
		a, b, c := grown(r, shared, 7), grown(r, shared, 7), grown(r, shared, 7)
		one, ok := impl.Joined(a, b)
		two, also := impl.Joined(b, a)
		if !ok || !also {
			t.Fatalf("%v and %v are refused", a, b)
		}
		wantNodes(t, "joined", one, byId(append(slices.Clone(a), b...)...))
		wantNodes(t, "the other way", two, one)
		left, ok := impl.Joined(one, c)
		right, also := impl.Joined(b, c)
		right, too := impl.Joined(a, right)
		if !ok || !also || !too {
			t.Fatal("three are refused")
		}
		wantNodes(t, "three", left, right)
		if !impl.DagOk(left) {
			t.Fatalf("%v is no dag", left)
		}
		self, ok := impl.Joined(a, a)
		alone, also := impl.Joined(a, nil)
		if !ok || !also || !sameNodes(self, a) || !sameNodes(alone, a) {
			t.Fatalf("%v with itself: %v, with nothing: %v", a, self, alone)
		}
	}
}

// grown answers a dag of these nodes and at most most others.
func grown(r *rand.Rand, l []impl.Node, most int) []impl.Node {
	l = slices.Clone(l)
	for range r.Intn(most + 1) {
		l = append(l, randomNode(r, idsAsTold(l)))
	}
	return byId(l...)
}

func TestJoinedAtItsLimit(t *testing.T) {
	l := loose(31)
	if d, ok := impl.Joined(l[:20], l[15:30]); !ok || !sameNodes(d, l[:30]) {
		t.Error("thirty are refused")
	}
	if d, ok := impl.Joined(l[:20], l[15:31]); ok || len(d) != 0 {
		t.Error("thirty-one are taken")
	}
	if d, ok := impl.Joined(l[:30], l[:30]); !ok || !sameNodes(d, l[:30]) {
		t.Error("the same thirty are refused")
	}
	if d, ok := impl.Joined(nil, nil); !ok || len(d) != 0 {
		t.Error("nothing and nothing")
	}
}

func TestOrder(t *testing.T) {
	wantTexts(t, "none", impl.Ordered(nil))
	wantTexts(t, "a chain", impl.Ordered(byId(chain(30)...)), idsAsTold(chain(30))...)
	wantTexts(t, "loose ones", impl.Ordered(loose(30)), idsAsTold(loose(30))...)
	r := rand.New(rand.NewSource(65))
	for range 200 {
		d := randomDag(r, 30)
		order := impl.Ordered(d)
		wantTexts(t, "in order", order, orderAsTold(d)...)
		for i, id := range order {
			for _, ahead := range impl.Behind(d, []string{id}) {
				if slices.Index(order, ahead) > i {
					t.Fatalf("%v: %q stands ahead of %q", d, id, ahead)
				}
			}
		}
	}
}

// TestHeightsAreTheGreatest has a node that stands behind one near and one far up.
func TestHeightsAreTheGreatest(t *testing.T) {
	row := chain(5)
	for seq := range int64(20) {
		far := adding(2, seq+1, "far", idAsTold(row[0]), idAsTold(row[3]))
		d := byId(append(slices.Clone(row), far)...)
		wantTexts(t, "in order", impl.Ordered(d), append(idsAsTold(row[:4]), rising([]string{idAsTold(row[4]), idAsTold(far)})...)...)
	}
}

func TestDagsLeaveTheirArguments(t *testing.T) {
	a := adding(1, 1, "x")
	ups, upsAsTheyWere := roomy([]string{idAsTold(a)}, "mark", sameText)
	b := impl.Node{Author: 2, Seq: 1, Kind: impl.OpSet, Key: "k", Ups: ups}
	c := dropping(3, 1, "x", idAsTold(a), idAsTold(b))
	d, asItWas := roomy(byId(a, b), adding(7, 7, "mark"), sameNode)
	e, otherAsItWas := roomy(byId(a, c, b), adding(7, 7, "mark"), sameNode)
	ids, idsAsTheyWere := roomy([]string{idAsTold(c), "none", idAsTold(a)}, "mark", sameText)
	for range 2 {
		added, ok := impl.Added(d, c)
		again, also := impl.Added(e, b)
		joined, too := impl.Joined(d, e)
		if !ok || !also || !too {
			t.Fatal("refused")
		}
		for _, l := range [][]impl.Node{added, again, joined} {
			wantNodes(t, "all", l, byId(a, b, c))
			spoil(l)
		}
		for _, l := range [][]string{impl.HeadsOf(e), impl.Behind(e, ids), impl.Ordered(e)} {
			if len(l) == 0 {
				t.Error("nothing is told")
			}
			clear(l)
		}
		if !asItWas() || !otherAsItWas() || !upsAsTheyWere() || !idsAsTheyWere() {
			t.Fatal("an argument was changed")
		}
	}
}

// spoil writes into all that an answer's nodes have, and asks nothing more of them.
func spoil(l []impl.Node) {
	for i := range l {
		_ = append(l[i].Ups, "spoilt")
		clear(l[i].Ups)
		l[i] = impl.Node{}
	}
}

// TestOneAnswersListsAreApart writes into the Ups of one node, and looks at those of the others.
func TestOneAnswersListsAreApart(t *testing.T) {
	a := adding(1, 1, "x")
	ups := []string{idAsTold(a)}
	b, c := adding(2, 1, "y"), adding(3, 1, "z")
	b.Ups, c.Ups = ups, ups
	d, ok := impl.Added(byId(a, b), c)
	joined, also := impl.Joined(byId(a, b), byId(a, c))
	if !ok || !also {
		t.Fatal("refused")
	}
	for _, l := range [][]impl.Node{d, joined} {
		for i := range l {
			clear(l[i].Ups)
			for _, other := range l[i+1:] {
				if len(other.Ups) > 0 && other.Ups[0] == "" {
					t.Fatal("two nodes of one answer share their Ups")
				}
			}
		}
	}
	if ups[0] != idAsTold(a) {
		t.Fatal("an argument's Ups were handed out")
	}
}
