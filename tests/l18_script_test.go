package tests

import (
	"fmt"
	"math/rand"
	"regexp"
	"slices"
	"strconv"
	"strings"
	"sync"
	"testing"

	"loop.example/g00318/impl"
)

// script ends each line.
func script(lines ...string) string {
	return strings.Join(append(slices.Clone(lines), ""), "\n")
}

// wantSaid takes lines and what each of them says in turn; one that says nothing has "" behind it.
func wantSaid(t *testing.T, lines ...string) {
	t.Helper()
	var asked, want []string
	for i := 0; i < len(lines); i += 2 {
		asked = append(asked, lines[i])
		if lines[i+1] != "" {
			want = append(want, lines[i+1])
		}
	}
	if got := impl.RunScript(script(asked...)); got != script(want...) {
		t.Errorf("%.2000q:\n got %.2000q\nwant %.2000q", asked, got, script(want...))
	}
}

func short(n impl.Node) string { return idAsTold(n)[:8] }

// A told scene works the lines out by the words of the chapter, apart from the program.
type toldScene struct {
	peers map[string]impl.Peer
	known []string
}

func newToldScene() *toldScene { return &toldScene{peers: map[string]impl.Peer{}} }

var (
	wroteLine  = regexp.MustCompile(`^ *(add|drop) +([123]) +([^ ]+) *$`)
	setLine    = regexp.MustCompile(`^ *set +([123]) +([^ ]+) +([^ ]+) *$`)
	handLine   = regexp.MustCompile(`^ *(send|last) +([123]) +([123]) *$`)
	syncLine   = regexp.MustCompile(`^ *sync +([123]) +([123]) +([^ ]+) *$`)
	lookLine   = regexp.MustCompile(`^ *(doc|heads) +([123]) *$`)
	knowLine   = regexp.MustCompile(`^ *(learn|make) +([^ ]+) *$`)
	mostNumber = regexp.MustCompile(`^([1-9]|[12][0-9]|30)$`)
	rightWord  = regexp.MustCompile(`^[!-~]{1,20}$`)
)

func (s *toldScene) say(line string) string {
	if m := wroteLine.FindStringSubmatch(line); m != nil {
		kind := map[string]int64{"add": impl.OpAdd, "drop": impl.OpDrop}[m[1]]
		return s.write(m[2], impl.Node{Kind: kind, Text: m[3]})
	}
	if m := setLine.FindStringSubmatch(line); m != nil {
		return s.write(m[1], impl.Node{Kind: impl.OpSet, Key: m[2], Text: m[3]})
	}
	if m := handLine.FindStringSubmatch(line); m != nil && m[2] != m[3] {
		list := nodesInOrder(s.peers[m[2]].Dag)
		if m[1] == "last" && len(list) > 0 {
			list = list[len(list)-1:]
		}
		return s.receive(m[3], list)
	}
	if m := syncLine.FindStringSubmatch(line); m != nil && m[1] != m[2] {
		return s.sync(m[1], m[2], m[3])
	}
	if m := lookLine.FindStringSubmatch(line); m != nil {
		return s.look(m[1], s.peers[m[2]])
	}
	if m := knowLine.FindStringSubmatch(line); m != nil {
		return s.know(m[1], m[2])
	}
	if strings.Trim(line, " ") == "" {
		return ""
	}
	return "what"
}

func (s *toldScene) write(name string, n impl.Node) string {
	d := s.peers[name].Dag
	n.Author = int64(name[0] - '0')
	n.Seq = 1
	named := map[string]bool{}
	for _, other := range d {
		if other.Author == n.Author {
			n.Seq = max(n.Seq, other.Seq+1)
		}
		for _, up := range other.Ups {
			named[up] = true
		}
	}
	n.Ups = slices.DeleteFunc(idsAsTold(d), func(id string) bool { return named[id] })
	wordsRight := rightWord.MatchString(n.Text) && (n.Kind != impl.OpSet || rightWord.MatchString(n.Key))
	if !wordsRight || len(n.Ups) > 5 || s.receive(name, []impl.Node{n}) == "no" {
		return "no"
	}
	return "ok " + short(n)
}

func (s *toldScene) receive(name string, list []impl.Node) string {
	p := s.peers[name]
	for _, n := range list {
		p = peerAsTold(slices.Concat(p.Dag, p.Waiting, []impl.Node{n}))
		if len(p.Dag) > 30 || len(p.Waiting) > 30 {
			return "no"
		}
	}
	s.peers[name] = p
	return "ok"
}

func (s *toldScene) sync(from, to, number string) string {
	if !mostNumber.MatchString(number) {
		return "no"
	}
	most, _ := strconv.Atoi(number)
	p, rounds := syncedAsTold(s.peers[to], s.peers[from].Dag, most)
	if len(p.Dag) > 30 || len(p.Waiting) > 30 {
		return "no"
	}
	s.peers[to] = p
	return fmt.Sprintf("ok %d", rounds)
}

func (s *toldScene) look(verb string, p impl.Peer) string {
	if verb == "heads" {
		said := "heads"
		for _, id := range impl.HeadsOf(p.Dag) {
			said += " " + id[:8]
		}
		return said
	}
	said := fmt.Sprintf("doc %d %d", len(p.Dag), len(p.Waiting))
	for _, elem := range elemsAsTold(p.Dag) {
		said += " " + elem
	}
	regs := regsAsTold(p.Dag)
	var keys []string
	for key := range regs {
		keys = append(keys, key)
	}
	for _, key := range rising(keys) {
		said += " " + key + "=" + regs[key]
	}
	return said
}

func (s *toldScene) know(verb, word string) string {
	if verb == "make" {
		if madeAnew(openedAnew(s.known), word) {
			return "yes"
		}
		return "not"
	}
	with := rising(append(slices.Clone(s.known), word))
	if _, ok := impl.ReadTerm(word); !ok || len(with) > 30 {
		return "no"
	}
	s.known = with
	return "ok"
}

// saidAsTold is what each line says.
func saidAsTold(lines []string) []string {
	s := newToldScene()
	var said []string
	for _, line := range lines {
		said = append(said, s.say(line))
	}
	return said
}

func joinedSaid(said []string) string {
	return script(slices.DeleteFunc(slices.Clone(said), func(s string) bool { return s == "" })...)
}

// randomAsking makes a line that asks, or one that is none.
func randomAsking(r *rand.Rand) string {
	p := 1 + r.Intn(3)
	switch r.Intn(9) {
	case 0, 1, 2:
		return fmt.Sprintf("doc %d", p)
	case 3, 4:
		return fmt.Sprintf("heads %d", p)
	case 5, 6:
		s, _ := randomTerm(r, 6, 4)
		return "make " + s
	case 7:
		return strings.Repeat(" ", r.Intn(3))
	}
	return []string{"fly", "add", "add 1", "add 0 x", "add 4 x", "add 1 x y", "set 1 k", "send 1", "send 2 2", "last 3 3", "sync 1 1 5", "sync 2 2 x", "doc", "doc 4", "heads 1 2", "make", "Doc 1", "learn", "doc\t1"}[r.Intn(19)]
}

func randomLine(r *rand.Rand) string {
	p, q := 1+r.Intn(3), 1+r.Intn(3)
	word := func() string { return []string{"a", "a", "b", "b", "c", "c", longest, longest + "~"}[r.Intn(8)] }
	switch r.Intn(15) {
	case 0, 1, 2:
		return fmt.Sprintf("add %d %s", p, word())
	case 3:
		return fmt.Sprintf("drop %d %s", p, word())
	case 4, 5:
		return fmt.Sprintf("set %d %s %s", p, word(), word())
	case 6:
		return fmt.Sprintf("send %d %d", p, q)
	case 7, 8:
		return fmt.Sprintf("last %d %d", p, q)
	case 9, 10:
		return fmt.Sprintf("sync %d %d %s", p, q, []string{"1", "2", "3", "30", "31", "0", "x", "01"}[r.Intn(8)])
	case 11, 12:
		s, _ := randomTerm(r, 6, 4)
		return "learn " + s
	}
	return randomAsking(r)
}

func randomLines(r *rand.Rand, most int) []string {
	var lines []string
	for range r.Intn(most + 1) {
		lines = append(lines, randomLine(r))
	}
	return lines
}

// fullLines writes 31 nodes in all, with two peers that have not met, and then lets them meet.
func fullLines(r *rand.Rand) []string {
	var lines []string
	own := 1 + r.Intn(30)
	for i := range 31 {
		lines = append(lines, fmt.Sprintf("add %d x%d", 1+min(i/own, 1), i))
	}
	for len(lines) < 40 {
		lines = append(lines, []string{"send 1 2", "send 2 1", "sync 1 2 1", "sync 2 1 30", "last 1 2", "last 2 1", "doc 1", "doc 2", "add 1 y", "add 2 y", "send 1 3", "sync 2 3 7"}[r.Intn(12)])
	}
	return lines
}

// TestScriptsAsTold holds random scripts against a second working-out.
func TestScriptsAsTold(t *testing.T) {
	r := rand.New(rand.NewSource(180))
	count := map[string]int{}
	for i := range 500 {
		lines := randomLines(r, 40)
		if i%10 == 0 {
			lines = fullLines(r)
		}
		said := saidAsTold(lines)
		if got := impl.RunScript(script(lines...)); got != joinedSaid(said) {
			t.Fatalf("%q:\n got %q\nwant %q", lines, got, joinedSaid(said))
		}
		for i, s := range said {
			verb, _, _ := strings.Cut(lines[i], " ")
			first, _, _ := strings.Cut(s, " ")
			count[verb+" "+first]++
		}
	}
	for _, kind := range []string{"add ok", "add no", "add what", "drop ok", "drop no", "set ok", "set no", "set what", "send ok", "send no", "send what", "last ok", "last what", "sync ok", "sync no", "sync what", "doc doc", "heads heads", "learn ok", "make yes", "make not"} {
		if count[kind] < 10 {
			t.Error("too few of a kind:", kind, count[kind])
		}
	}
}

// TestWhatWasSaidStaysSaid asks the beginning of promise 18: each script begins with what its beginning says.
func TestWhatWasSaidStaysSaid(t *testing.T) {
	r := rand.New(rand.NewSource(181))
	for i := range 150 {
		lines := randomLines(r, 40)
		if i%10 == 0 {
			lines = fullLines(r)
		}
		whole := impl.RunScript(script(lines...))
		before := ""
		for n := range len(lines) + 1 {
			said := impl.RunScript(script(lines[:n]...))
			more, stays := strings.CutPrefix(said, before)
			if !stays || !strings.HasPrefix(whole, said) {
				t.Fatalf("%q: said %q, with more lines %q", lines[:n], said, whole)
			}
			words := n > 0 && strings.Trim(lines[n-1], " ") != ""
			if words && (strings.Count(more, "\n") != 1 || !strings.HasSuffix(more, "\n")) || !words && more != "" {
				t.Fatalf("%q: the last line says %q", lines[:n], more)
			}
			before = said
		}
	}
}

// TestAskingChangesNothing asks the end of promise 18: with lines that ask between the others, these say what they said without.
func TestAskingChangesNothing(t *testing.T) {
	r := rand.New(rand.NewSource(182))
	for range 200 {
		lines := randomLines(r, 20)
		var with []string
		var own []bool
		for _, line := range append(lines, "") {
			for range r.Intn(3) {
				if len(with) < 19 {
					with, own = append(with, randomAsking(r)), append(own, false)
				}
			}
			with, own = append(with, line), append(own, true)
		}
		with, own = with[:len(with)-1], own[:len(own)-1]
		if got := impl.RunScript(script(with...)); keptLines(with, own, got) != impl.RunScript(script(lines...)) {
			t.Fatalf("%q: said %q, with what asks %q: %q", lines, impl.RunScript(script(lines...)), with, got)
		}
	}
}

// keptLines answers what those lines said that are marked.
func keptLines(lines []string, marked []bool, said string) string {
	rest := strings.SplitAfter(said, "\n")
	kept := ""
	for i, line := range lines {
		if strings.Trim(line, " ") == "" {
			continue
		}
		if marked[i] {
			kept += rest[0]
		}
		rest = rest[1:]
	}
	return kept
}

// TestRefusedLinesChangeNothing asks all peers and what is known behind each line that says no.
func TestRefusedLinesChangeNothing(t *testing.T) {
	ahead := []string{"add 1 x", "set 2 k v", "last 1 3", "add 3 y", "learn k1"}
	looks := []string{"doc 1", "doc 2", "doc 3", "heads 1", "heads 2", "heads 3", "make k1", "make k2", "make e(k1,a1)"}
	want := impl.RunScript(script(append(slices.Clone(ahead), looks...)...))
	for _, line := range []string{
		"add 1 " + longest + "~", "drop 2 \x7f", "set 3 k \x80", "set 3 \x00 v", "sync 1 2 0", "sync 1 2 31", "sync 1 2 x", "learn k1000", "learn x", "learn " + hashes(10, "k2"),
		"fly 1 2", "add 1", "add 1 x y", "add 4 x", "send 1 1", "last 2 2", "sync 3 3 1", "send 1 2 3", "sync 1 2", "learn", "learn k2 k3", "make k2 k3", "doc 0", "ADD 1 x",
	} {
		lines := append(append(slices.Clone(ahead), line), looks...)
		said := strings.SplitAfter(impl.RunScript(script(lines...)), "\n")
		if answer := said[len(ahead)]; answer != "no\n" && answer != "what\n" {
			t.Errorf("%q: %q", line, answer)
		}
		if got := strings.Join(slices.Delete(said, len(ahead), len(ahead)+1), ""); got != want {
			t.Errorf("%q: behind it %q, without it %q", line, got, want)
		}
	}
}

func TestLinesThatWrite(t *testing.T) {
	x := adding(1, 1, "x")
	drop := dropping(1, 2, "x", idAsTold(x))
	set := setting(1, 3, "k", "v", idAsTold(drop))
	other := adding(3, 1, "1")
	wantSaid(t, "add 1 x", "ok "+short(x), "doc 1", "doc 1 0 x", "doc 2", "doc 0 0", "heads 1", "heads "+short(x), "heads 2", "heads",
		"drop 1 x", "ok "+short(drop), "doc 1", "doc 2 0", "set 1 k v", "ok "+short(set), "doc 1", "doc 3 0 k=v", "heads 1", "heads "+short(set), "add 3 1", "ok "+short(other), "doc 3", "doc 1 0 1")
	// Words may be verbs, numbers, have = in them, and be as long as texts are.
	wantSaid(t, "add 2 add", "ok "+short(adding(2, 1, "add")))
	wantSaid(t, "drop 2 "+longest, "ok "+short(dropping(2, 1, longest)))
	wantSaid(t, "set 2 k=a v=b", "ok "+short(setting(2, 1, "k=a", "v=b")), "doc 2", "doc 1 0 k=a=v=b")
	wantSaid(t, "set 3 "+longest+" "+longest, "ok "+short(setting(3, 1, longest, longest)))
	for _, word := range []string{longest + "~", "\t", "x\t", "\r", "x\r", "\x00", "\x1f", "\x7f", "\x80", "\xff", "é", "\u00a0", "\u2003", strings.Repeat("x", 900)} {
		wantSaid(t, "add 1 "+word, "no", "drop 2 "+word, "no", "set 3 "+word+" v", "no", "set 3 k "+word, "no", "doc 1", "doc 0 0", "doc 2", "doc 0 0", "doc 3", "doc 0 0")
	}
	for b := byte(33); b <= 126; b++ {
		word := string(rune(b))
		wantSaid(t, "add 1 "+word, "ok "+short(adding(1, 1, word)), "doc 1", "doc 1 0 "+word)
	}
}

func TestDocumentsOfScripts(t *testing.T) {
	// Elements rise, each once, then the keys; the last setting by order counts.
	lines := []string{"add 1 b", "add 1 ab", "add 1 a", "add 1 B", "add 1 a", "set 1 z 1", "set 1 k 2", "set 1 k 3", "drop 1 ab", "doc 1"}
	said := strings.Split(impl.RunScript(script(lines...)), "\n")
	if got := said[len(said)-2]; got != "doc 9 0 B a b k=3 z=1" {
		t.Errorf("got %q", got)
	}
	// Of an adding and a dropping that do not know of each other the adding wins.
	x := adding(1, 1, "x")
	again, drop := adding(1, 2, "x", idAsTold(x)), dropping(2, 1, "x", idAsTold(x))
	heads := "heads"
	for _, n := range byId(again, drop) {
		heads += " " + short(n)
	}
	wantSaid(t, "add 1 x", "ok "+short(x), "send 1 2", "ok", "drop 2 x", "ok "+short(drop), "add 1 x", "ok "+short(again), "sync 1 2 30", "ok 1", "doc 2", "doc 3 0 x", "heads 2", heads, "send 2 1", "ok", "doc 1", "doc 3 0 x", "heads 1", heads)
}

func TestLinesBetweenPeers(t *testing.T) {
	row := chain(4)
	write := []string{"add 1 x", "ok " + short(row[0]), "add 1 x", "ok " + short(row[1]), "add 1 x", "ok " + short(row[2]), "add 1 x", "ok " + short(row[3])}
	then := func(lines ...string) {
		t.Helper()
		wantSaid(t, append(slices.Clone(write), lines...)...)
	}
	then("send 1 2", "ok", "doc 2", "doc 4 0 x", "send 1 2", "ok", "doc 2", "doc 4 0 x", "send 2 1", "ok", "doc 1", "doc 4 0 x", "doc 3", "doc 0 0")
	then("last 1 2", "ok", "doc 2", "doc 0 1", "heads 2", "heads", "last 1 2", "ok", "doc 2", "doc 0 1", "send 1 2", "ok", "doc 2", "doc 4 0 x")
	// What waits is told to nobody.
	then("last 1 2", "ok", "send 2 3", "ok", "last 2 3", "ok", "sync 2 3 1", "ok 0", "doc 3", "doc 0 0")
	for _, c := range []struct{ most, rounds, fewer string }{{"1", "4", "3"}, {"2", "2", "2"}, {"3", "2", "1"}, {"4", "1", "1"}, {"5", "1", "1"}, {"29", "1", "1"}, {"30", "1", "1"}} {
		then("sync 1 2 "+c.most, "ok "+c.rounds, "doc 2", "doc 4 0 x", "sync 1 2 "+c.most, "ok 0", "sync 2 1 "+c.most, "ok 0")
		// The one that waits comes in by itself, with the one ahead of it.
		then("last 1 2", "ok", "sync 1 2 "+c.most, "ok "+c.fewer, "doc 2", "doc 4 0 x")
	}
	// Who has nothing tells nothing.
	wantSaid(t, "send 1 2", "ok", "last 1 2", "ok", "sync 1 2 1", "ok 0", "doc 2", "doc 0 0")
	for _, number := range []string{"0", "31", "00", "01", "030", "-1", "+1", "1.0", "x", "1x", "4294967297", "9999999999", "10000000000", "18446744073709551617", "one", "\t1", "1\r", "٣"} {
		then("sync 1 2 "+number, "no", "doc 2", "doc 0 0")
		wantSaid(t, "sync 3 2 "+number, "no")
	}
}

// TestPeersThatAreTheSame asks for a peer with itself, and for peers that have the same.
func TestPeersThatAreTheSame(t *testing.T) {
	x := short(adding(1, 1, "x"))
	for _, p := range []string{"1", "2", "3"} {
		for _, line := range []string{"send P P", "last P P", "sync P P 1", "sync P P 30", "sync P P 0", "sync P P x", " send  P  P "} {
			line = strings.ReplaceAll(line, "P", p)
			wantSaid(t, line, "what", "doc "+p, "doc 0 0")
			wantSaid(t, "add 1 x", "ok "+x, "send 1 2", "ok", "send 1 3", "ok", line, "what", "doc "+p, "doc 1 0 x", "heads "+p, "heads "+x)
		}
	}
	// Three that have the same write the same: the nodes are unlike, by their authors.
	one, two, three := adding(1, 2, "y", idAsTold(adding(1, 1, "x"))), adding(2, 1, "y", idAsTold(adding(1, 1, "x"))), adding(3, 1, "y", idAsTold(adding(1, 1, "x")))
	heads := "heads"
	for _, n := range byId(one, two, three) {
		heads += " " + short(n)
	}
	wantSaid(t, "add 1 x", "ok "+x, "send 1 2", "ok", "sync 2 3 1", "ok 1", "add 1 y", "ok "+short(one), "add 2 y", "ok "+short(two), "add 3 y", "ok "+short(three),
		"send 1 2", "ok", "send 3 2", "ok", "sync 2 1 1", "ok 2", "sync 2 3 2", "ok 1", "heads 1", heads, "heads 2", heads, "heads 3", heads, "doc 1", "doc 4 0 x y", "doc 3", "doc 4 0 x y",
		"sync 1 2 1", "ok 0", "sync 3 1 30", "ok 0", "send 1 3", "ok", "last 1 3", "ok", "doc 3", "doc 4 0 x y")
}

// TestFullPeersOfScripts meets the limit of a dag, and passes it by one.
func TestFullPeersOfScripts(t *testing.T) {
	row := chain(31)
	var thirty []string
	for _, n := range row[:30] {
		thirty = append(thirty, "add 1 x", "ok "+short(n))
	}
	wantSaid(t, append(slices.Clone(thirty), "doc 1", "doc 30 0 x", "add 1 x", "no", "drop 1 x", "no", "set 1 k v", "no", "doc 1", "doc 30 0 x", "heads 1", "heads "+short(row[29]), "send 1 2", "ok", "doc 2", "doc 30 0 x", "add 2 x", "no", "last 1 3", "ok")...)
	y := adding(2, 1, "y")
	wantSaid(t, append(slices.Clone(thirty[:58]), "add 2 y", "ok "+short(y), "send 1 2", "ok", "doc 2", "doc 30 0 x y", "sync 2 1 1", "ok 1", "doc 1", "doc 30 0 x y", "add 1 z", "no")...)
	wantSaid(t, append(slices.Clone(thirty), "add 2 y", "ok "+short(y), "send 1 2", "no", "doc 2", "doc 1 0 y", "sync 1 2 1", "no", "sync 1 2 30", "no", "doc 2", "doc 1 0 y", "last 1 2", "ok", "doc 2", "doc 1 1 y", "last 2 1", "no", "send 2 1", "no")...)
}

func TestLinesOfWhatIsKnown(t *testing.T) {
	wantSaid(t, "make a1", "yes", "make v999", "yes", "make k1", "not", "make p(a1,v2)", "yes", "make e(k1,a1)", "not", "learn e(k1,p(k2,a5))", "ok", "make k2", "not", "learn k1", "ok", "make k2", "yes", "make s(k2,h(e(k1,k2)))", "yes", "make k3", "not")
	for _, word := range []string{"x", "k", "k1000", "k01", "(k1)", "h()", "p(a1)", "e(a1,a1)", "k1,", "k1\t", "\xff", hashes(10, "a1"), strings.Repeat("k", 1900), strings.Repeat("h(", 950)} {
		wantSaid(t, "learn "+word, "no", "make "+word, "not", "make k1", "not")
	}
	wantSaid(t, "learn "+hashes(9, "k1"), "ok", "make "+hashes(9, "k1"), "yes", "make "+hashes(8, "k1"), "not")
	var lines []string
	for i := range 30 {
		lines = append(lines, fmt.Sprintf("learn k%d", i), "ok")
	}
	wantSaid(t, append(lines, "learn k30", "no", "make k30", "not", "learn k7", "ok", "learn a0", "no", "make k29", "yes", "make e(k29,k0)", "yes")...)
}

func TestLinesThatAreNone(t *testing.T) {
	for _, line := range []string{
		"fly", "1", "ok", "add", "add 1", "add x", "add x 1", "add 1 x y", "add 1 x y z", "drop 1", "drop 1 x y", "set 1", "set 1 k", "set 1 k v w", "set k v 1",
		"send", "send 1", "send 1 2 3", "send 1 x", "send x 1", "last", "last 1", "last 1 2 3", "sync", "sync 1", "sync 1 2", "sync 1 2 3 4", "sync 1 x 1", "sync 4 1 1", "sync 1 4 x",
		"doc", "doc x", "doc 1 2", "doc 1 1", "heads", "heads x", "heads 1 1", "learn", "learn k1 k2", "make", "make a1 a2",
		"add 0 x", "add 4 x", "add 9 x", "add 10 x", "add 12 x", "add 123 x", "add 01 x", "add +1 x", "add -1 x", "add 1. x", "add ١ x", "add \x01 x", "doc 0", "doc 4", "doc 12", "doc 23", "doc 123", "heads 01", "send 1 4", "send 0 1", "last 2 23", "drop 1x x", "set 4 k v",
		"Add 1 x", "ADD 1 x", "adds 1 x", "ad 1 x", "add1 x", "add,1,x", "doc\t1", "\tdoc 1", "doc 1\t", "doc 1\r", "doc\u00a01", "\xffdoc 1", "\x00", "\r", "\t", "\v", "\f", "\u0085", "\u2003", "# doc 1", "doc 1;", "canMake a1", "verbs", "what", "too long",
	} {
		wantSaid(t, line, "what", "doc 1", "doc 0 0")
		wantSaid(t, "  "+line+"   ", "what", "doc 2", "doc 0 0")
	}
}

func TestBlanks(t *testing.T) {
	x := short(adding(1, 1, "x"))
	for _, line := range []string{"add 1 x", " add 1 x", "add 1 x ", "   add   1   x   ", "add 1  x", "add  1 x"} {
		wantSaid(t, line, "ok "+x, "", "", "  doc  1  ", "doc 1 0 x", "   ", "", " heads 1", "heads "+x)
	}
	for _, text := range []string{"", "\n", "\n\n", " \n", "   \n  \n\n", script(make([]string, 40)...), strings.Repeat(" ", 3999) + "\n"} {
		if got := impl.RunScript(text); got != "" {
			t.Errorf("%.50q: got %q", text, got)
		}
	}
}

func TestScriptsAtTheirLimits(t *testing.T) {
	lines := slices.Repeat([]string{"doc 1"}, 40)
	if got := impl.RunScript(script(lines...)); got != strings.Repeat("doc 0 0\n", 40) {
		t.Errorf("forty lines: %q", got)
	}
	bytes := func(n int) string { return "doc 1\nadd 1 " + strings.Repeat("x", n-13) + "\n" }
	for _, text := range []string{bytes(4000), bytes(3999)} {
		if got := impl.RunScript(text); got != "doc 0 0\nno\n" {
			t.Errorf("%d bytes: %q", len(text), got)
		}
	}
	blanks := "doc 1\n" + strings.Repeat(" ", 3993) + "\n"
	if got := impl.RunScript(blanks); len(blanks) != 4000 || got != "doc 0 0\n" {
		t.Errorf("%d bytes: %q", len(blanks), got)
	}
	long := []string{
		script(append(lines, "doc 1")...), script(append(lines, "")...), script(make([]string, 41)...), script(make([]string, 1000)...), script(slices.Repeat([]string{"add 1 x"}, 41)...),
		script(lines...) + "doc 1", script(lines...) + " ", bytes(4001), bytes(5000), bytes(1000000), " " + blanks, strings.Repeat(" ", 4000) + "\n", strings.Repeat("\n", 4001),
		"doc 1", " ", "x", "\x00", "doc 1\n ", "doc 1\ndoc 2", "\ndoc 1", "doc 1\r", "doc 1\n\r", bytes(3000) + "doc 1", strings.Repeat("x", 4000), strings.Repeat("x", 4001),
	}
	for _, text := range long {
		if got := impl.RunScript(text); got != "too long\n" {
			t.Errorf("%d bytes, %.50q: got %.100q", len(text), text, got)
		}
	}
}

// TestScriptsOfAnyBytes asks that each script of whatever bytes says a line for each line with words.
func TestScriptsOfAnyBytes(t *testing.T) {
	r := rand.New(rand.NewSource(183))
	signs := "   \n123aehkpsdocx(),=\t\r\x00\x80\xff"
	for range 3000 {
		text := ""
		for range r.Intn(60) {
			if r.Intn(4) == 0 {
				text += randomLine(r)
			} else {
				text += string(signs[r.Intn(len(signs))])
			}
		}
		lines := strings.Split(text, "\n")
		want := "too long\n"
		if lines[len(lines)-1] == "" && len(lines) <= 41 && len(text) <= 4000 {
			want = joinedSaid(saidAsTold(lines[:len(lines)-1]))
		}
		if got := impl.RunScript(text); got != want {
			t.Fatalf("%q:\n got %q\nwant %q", text, got, want)
		}
	}
}

// TestScriptsSideBySide asks promise 19 of scripts: the same text says the same, whatever else is run ahead of it or beside it.
func TestScriptsSideBySide(t *testing.T) {
	r := rand.New(rand.NewSource(184))
	var texts, want []string
	for range 20 {
		text := script(randomLines(r, 40)...)
		texts, want = append(texts, text), append(want, impl.RunScript(text))
	}
	var all sync.WaitGroup
	for range 8 {
		all.Go(func() {
			for i, text := range texts {
				if got := impl.RunScript(text); got != want[i] {
					t.Errorf("%q: got %q, then %q", text, want[i], got)
				}
			}
		})
	}
	all.Wait()
}
