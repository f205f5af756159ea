package tests

import (
	"math"
	"math/rand"
	"reflect"
	"runtime"
	"slices"
	"testing"

	"loop.example/g00318/impl"
)

func samePeer(a, b impl.Peer) bool {
	return sameNodes(a.Dag, b.Dag) && sameNodes(a.Waiting, b.Waiting)
}

func wantPeer(t *testing.T, what string, got, want impl.Peer) {
	t.Helper()
	if !samePeer(got, want) {
		t.Fatalf("%s: got %v, want %v", what, got, want)
	}
	if !impl.PeerOk(got) {
		t.Fatalf("%s: %v is not right", what, got)
	}
}

func receive(t *testing.T, p impl.Peer, n impl.Node) impl.Peer {
	t.Helper()
	q, ok := impl.Received(p, n)
	if !ok {
		t.Fatalf("%v: %v is refused", p, n)
	}
	return q
}

func receiveAll(t *testing.T, p impl.Peer, list ...impl.Node) impl.Peer {
	t.Helper()
	q, ok := impl.ReceivedAll(p, list)
	if !ok {
		t.Fatalf("%v: %v are refused", p, list)
	}
	return q
}

func wantNotReceived(t *testing.T, p impl.Peer, list ...impl.Node) {
	t.Helper()
	if q, ok := impl.ReceivedAll(p, list); ok || !reflect.DeepEqual(q, impl.Peer{}) {
		t.Errorf("%v: %v: got %v, %v", p, list, q, ok)
	}
	if len(list) != 1 {
		return
	}
	if q, ok := impl.Received(p, list[0]); ok || !reflect.DeepEqual(q, impl.Peer{}) {
		t.Errorf("%v: %v: got %v, %v", p, list[0], q, ok)
	}
}

func tell(t *testing.T, d []impl.Node, have []string, most int64) []impl.Node {
	t.Helper()
	l, ok := impl.Told(d, have, most)
	if !ok {
		t.Fatalf("%v, %q, %d: nothing is told", d, have, most)
	}
	return l
}

func wantNotTold(t *testing.T, d []impl.Node, have []string, most int64) {
	t.Helper()
	if l, ok := impl.Told(d, have, most); ok || len(l) != 0 {
		t.Errorf("%v, %q, %d: got %v, %v", d, have, most, l, ok)
	}
}

func wantNotSynced(t *testing.T, p impl.Peer, d []impl.Node, most int64) {
	t.Helper()
	if q, rounds, ok := impl.Synced(p, d, most); ok || rounds != 0 || !reflect.DeepEqual(q, impl.Peer{}) {
		t.Errorf("%v, %v, %d: got %v, %d, %v", p, d, most, q, rounds, ok)
	}
}

// peerAsTold parts nodes into those all of whose Ups are among them, and so on, and those that wait for another one.
func peerAsTold(nodes []impl.Node) impl.Peer {
	there := byId(nodes...)
	for left := -1; left != len(there); {
		left = len(there)
		ids := idsAsTold(there)
		there = slices.DeleteFunc(there, func(n impl.Node) bool {
			return slices.ContainsFunc(n.Ups, func(up string) bool { return !slices.Contains(ids, up) })
		})
	}
	waiting := slices.DeleteFunc(byId(nodes...), func(n impl.Node) bool {
		return slices.ContainsFunc(there, func(m impl.Node) bool { return sameNode(m, n) })
	})
	return impl.Peer{Dag: there, Waiting: waiting}
}

// mixed answers these nodes in another order, some of them more than once.
func mixed(r *rand.Rand, l []impl.Node, twice int) []impl.Node {
	l = slices.Clone(l)
	for range twice {
		if len(l) > 0 {
			l = append(l, l[r.Intn(len(l))])
		}
	}
	r.Shuffle(len(l), func(i, j int) { l[i], l[j] = l[j], l[i] })
	return l
}

func someOf(r *rand.Rand, l []impl.Node) []impl.Node {
	share := r.Intn(5)
	return slices.DeleteFunc(slices.Clone(l), func(impl.Node) bool { return r.Intn(5) < share })
}

// nodesInOrder answers the nodes of d by orderAsTold.
func nodesInOrder(d []impl.Node) []impl.Node {
	var l []impl.Node
	for _, id := range orderAsTold(d) {
		l = append(l, d[slices.Index(idsAsTold(d), id)])
	}
	return l
}

func toldAsTold(d []impl.Node, have []string, most int) []impl.Node {
	behind := behindAsTold(d, have)
	l := slices.DeleteFunc(nodesInOrder(d), func(n impl.Node) bool { return slices.Contains(behind, idAsTold(n)) })
	return l[:min(most, len(l))]
}

// waitingFor makes n nodes that stand behind that one.
func waitingFor(id string, n int) []impl.Node {
	var l []impl.Node
	for i := range n {
		l = append(l, adding(2, int64(i+1), "w", id))
	}
	return byId(l...)
}

// TestNodesInAnyOrder asks the beginning of promise 8: the same nodes lead to the same peer, whatever their order, and however often they come.
func TestNodesInAnyOrder(t *testing.T) {
	r := rand.New(rand.NewSource(80))
	for range 60 {
		nodes := someOf(r, randomGrowth(r, 30))
		want := peerAsTold(nodes)
		for range 3 {
			wantPeer(t, "received", receiveAll(t, impl.Peer{}, mixed(r, nodes, r.Intn(60-len(nodes)+1))...), want)
		}
	}
}

// TestNodesOneByOne asks for the peer behind each of the nodes.
func TestNodesOneByOne(t *testing.T) {
	r := rand.New(rand.NewSource(81))
	for range 40 {
		list := mixed(r, someOf(r, randomGrowth(r, 25)), 8)
		var p impl.Peer
		for i, n := range list {
			p = receive(t, p, n)
			wantPeer(t, "received", p, peerAsTold(list[:i+1]))
			wantPeer(t, "received twice", receive(t, p, list[r.Intn(i+1)]), p)
		}
		wantPeer(t, "all at once", receiveAll(t, impl.Peer{}, list...), p)
		half := receiveAll(t, impl.Peer{}, list[:len(list)/2]...)
		wantPeer(t, "the second half", receiveAll(t, half, list[len(list)/2:]...), p)
	}
}

func TestWaiting(t *testing.T) {
	row := chain(5)
	var p impl.Peer
	for i := 4; i > 0; i-- {
		p = receive(t, p, row[i])
		wantPeer(t, "backwards", p, impl.Peer{Waiting: byId(row[i:]...)})
	}
	wantPeer(t, "the first comes last", receive(t, p, row[0]), impl.Peer{Dag: byId(row...)})

	a, b := adding(1, 1, "a"), adding(2, 1, "b")
	both := setting(3, 1, "k", "v", idAsTold(a), idAsTold(b))
	above := dropping(3, 2, "a", idAsTold(both), someId("0"))
	p = receiveAll(t, impl.Peer{}, above, both)
	p = receive(t, p, a)
	wantPeer(t, "one of two", p, impl.Peer{Dag: byId(a), Waiting: byId(both, above)})
	wantPeer(t, "one that waits comes again", receive(t, p, both), p)
	wantPeer(t, "one that is there comes again", receive(t, p, a), p)
	p = receive(t, p, b)
	wantPeer(t, "both", p, impl.Peer{Dag: byId(a, b, both), Waiting: byId(above)})
	wantPeer(t, "none", receiveAll(t, p), p)
	wantPeer(t, "no peer and no node", receiveAll(t, impl.Peer{}), impl.Peer{})
}

func TestRoomForThoseThatWait(t *testing.T) {
	a := adding(1, 1, "a")
	full := impl.Peer{Waiting: waitingFor(someId("0"), impl.MaxWaiting)}
	wantPeer(t, "thirty wait", receiveAll(t, impl.Peer{}, full.Waiting...), full)
	wantPeer(t, "the thirtieth", receive(t, impl.Peer{Waiting: full.Waiting[:29]}, full.Waiting[29]), full)
	wantNotReceived(t, full, adding(3, 1, "x", someId("0")))
	wantNotReceived(t, full, adding(3, 1, "x", full.Waiting[0].Ups[0], idAsTold(full.Waiting[3])))
	wantPeer(t, "one that waits for nothing", receive(t, full, a), impl.Peer{Dag: byId(a), Waiting: full.Waiting})
	for _, n := range full.Waiting {
		wantPeer(t, "one that waits", receive(t, full, n), full)
	}
	wantNotReceived(t, impl.Peer{}, append(slices.Clone(full.Waiting), adding(3, 1, "x", someId("0")), a)...)

	freed := waitingFor(idAsTold(a), impl.MaxWaiting)
	wantPeer(t, "29 come in", receive(t, impl.Peer{Waiting: freed[:29]}, a), impl.Peer{Dag: byId(append(freed[:29:29], a)...)})
	wantNotReceived(t, impl.Peer{Waiting: freed}, a)
	other := adding(3, 1, "x", someId("0"))
	waiting := byId(append(freed[:29:29], other)...)
	wantPeer(t, "29 of 30 come in", receive(t, impl.Peer{Waiting: waiting}, a), impl.Peer{Dag: byId(append(freed[:29:29], a)...), Waiting: byId(other)})
}

// TestOrderOfFullPeers asks for the limits at each node: where there is room for all in one order, there may be none in another one.
func TestOrderOfFullPeers(t *testing.T) {
	a := adding(1, 1, "a")
	freed := waitingFor(idAsTold(a), 25)
	others := waitingFor(someId("0"), 20)
	list := append(append([]impl.Node{a}, freed...), others...)
	want := impl.Peer{Dag: byId(append(freed[:25:25], a)...), Waiting: others}
	wantPeer(t, "the one that they wait for comes first", receiveAll(t, impl.Peer{}, list...), want)
	slices.Reverse(list)
	wantNotReceived(t, impl.Peer{}, list...)
}

func TestRoomInTheDag(t *testing.T) {
	row := chain(31)
	full := impl.Peer{Dag: byId(row[:30]...)}
	wantPeer(t, "the thirtieth", receive(t, impl.Peer{Dag: byId(row[:29]...)}, row[29]), full)
	wantNotReceived(t, full, row[30])
	wantNotReceived(t, full, adding(9, 9, "x"))
	waits := adding(9, 9, "x", someId("0"), idAsTold(row[29]))
	wantPeer(t, "one that waits", receive(t, full, waits), impl.Peer{Dag: full.Dag, Waiting: byId(waits)})
	for _, n := range row[:30] {
		wantPeer(t, "one that is there", receive(t, full, n), full)
	}
	wantNotReceived(t, impl.Peer{Dag: byId(row[:29]...), Waiting: byId(row[30])}, row[29])
	wantPeer(t, "28 and 2", receive(t, impl.Peer{Dag: byId(row[:28]...), Waiting: byId(row[29])}, row[28]), full)
	wantNotReceived(t, impl.Peer{}, row...)
	wantPeer(t, "both are full", receiveAll(t, full, waitingFor(someId("0"), 30)...), impl.Peer{Dag: full.Dag, Waiting: waitingFor(someId("0"), 30)})
}

func TestHowManyAreReceived(t *testing.T) {
	row := chain(30)
	want := impl.Peer{Dag: byId(row...)}
	list := append(slices.Clone(row), row...)
	wantPeer(t, "sixty", receiveAll(t, impl.Peer{}, list...), want)
	wantNotReceived(t, impl.Peer{}, append(list, row[0])...)
	wantNotReceived(t, want, append(list, row[0])...)
	same := slices.Repeat(row[:1], 60)
	wantPeer(t, "one, sixty times", receiveAll(t, impl.Peer{}, same...), impl.Peer{Dag: row[:1]})
	wantNotReceived(t, impl.Peer{}, append(same, row[0])...)
	slices.Reverse(row)
	wantPeer(t, "backwards", receiveAll(t, impl.Peer{}, row...), want)
}

func TestWrongNodesAreNotReceived(t *testing.T) {
	row := chain(3)
	for _, p := range []impl.Peer{{}, {Dag: row[:1], Waiting: byId(row[2])}} {
		for _, n := range wrongNodes() {
			wantNotReceived(t, p, n)
			wantNotReceived(t, p, row[0], n)
			wantNotReceived(t, p, n, row[1], row[2])
		}
	}
}

func wrongPeers() []impl.Peer {
	row := chain(3)
	dag, waiting := byId(row...), waitingFor(someId("0"), 31)
	turned := slices.Clone(waiting[:3])
	slices.Reverse(turned)
	l := []impl.Peer{
		{Waiting: row[:1]}, {Dag: row[:1], Waiting: row[:1]}, {Dag: row[:1], Waiting: row[1:2]}, {Dag: dag, Waiting: row[2:]}, {Dag: dag, Waiting: byId(row[1:]...)},
		{Dag: dag, Waiting: waiting}, {Waiting: waiting}, {Waiting: turned}, {Waiting: []impl.Node{waiting[0], waiting[0]}}, {Waiting: []impl.Node{waiting[1], waiting[0]}},
		{Dag: dag, Waiting: byId(waiting[0], adding(3, 1, "x"))}, {Dag: dag, Waiting: byId(waiting[0], adding(3, 1, "x", idAsTold(row[0]), idAsTold(row[2])))},
		{Dag: dag, Waiting: byId(append(waiting[:29:29], row[0])...)}, {Waiting: loose(1000)},
	}
	for _, d := range wrongDags() {
		l = append(l, impl.Peer{Dag: d}, impl.Peer{Dag: d, Waiting: waiting[:1]})
	}
	for _, n := range wrongNodes() {
		l = append(l, impl.Peer{Waiting: []impl.Node{n}}, impl.Peer{Dag: dag, Waiting: byId(n, waiting[0])})
	}
	return l
}

func TestPeers(t *testing.T) {
	row := chain(30)
	waiting := waitingFor(someId("0"), 30)
	for _, p := range []impl.Peer{
		{}, {Dag: []impl.Node{}, Waiting: []impl.Node{}}, {Dag: byId(row...)}, {Waiting: waiting}, {Dag: byId(row...), Waiting: waiting}, {Waiting: byId(row[1:]...)},
		{Dag: row[:1], Waiting: byId(row[2:]...)}, {Dag: row[:1], Waiting: byId(adding(3, 1, "x", idAsTold(row[0]), someId("f")))}, {Waiting: byId(adding(3, 1, "x", someIds(5)...))},
	} {
		if !impl.PeerOk(p) {
			t.Errorf("%v is refused", p)
		}
	}
	for _, p := range wrongPeers() {
		if impl.PeerOk(p) {
			t.Errorf("%v is taken", p)
		}
		wantNotReceived(t, p)
		wantNotReceived(t, p, row[0])
		wantNotReceived(t, p, adding(8, 8, "new"))
		wantNotReceived(t, p, adding(8, 8, "new", someId("1")))
		wantNotSynced(t, p, nil, 1)
		wantNotSynced(t, p, byId(row[:3]...), 30)
	}
}

func TestWhatIsTold(t *testing.T) {
	r := rand.New(rand.NewSource(82))
	for range 60 {
		d := randomDag(r, 30)
		for range 4 {
			have := idsAsTold(someOf(r, mixed(r, d, r.Intn(3))))
			have = slices.Insert(have[:min(28, len(have))], r.Intn(min(28, len(have))+1), "none", someId("0"))
			most := 1 + r.Intn(30)
			wantNodes(t, "told", tell(t, d, have, int64(most)), toldAsTold(d, have, most))
		}
		wantNodes(t, "all", tell(t, d, nil, 30), nodesInOrder(d))
		wantNodes(t, "nothing", tell(t, d, idsAsTold(d), 30), nil)
		wantNodes(t, "nothing", tell(t, d, impl.HeadsOf(d), 1), nil)
	}
}

func TestToldAtItsLimits(t *testing.T) {
	row := chain(30)
	d := byId(row...)
	wantNodes(t, "no nodes", tell(t, nil, nil, 1), nil)
	for _, most := range []int64{1, 2, 29, 30} {
		wantNodes(t, "the first", tell(t, d, nil, most), row[:most])
		wantNodes(t, "behind the tenth", tell(t, d, []string{idAsTold(row[9])}, most), row[10:min(30, 10+most)])
	}
	for _, most := range []int64{math.MinInt64, -1, 0, 31, 60, math.MaxInt64} {
		wantNotTold(t, d, nil, most)
		wantNotTold(t, nil, nil, most)
		wantNotSynced(t, impl.Peer{}, d, most)
		wantNotSynced(t, impl.Peer{Dag: d}, nil, most)
	}
	thirty := slices.Repeat([]string{idAsTold(row[14])}, 30)
	wantNodes(t, "thirty ids", tell(t, d, thirty, 30), row[15:])
	wantNodes(t, "sixty texts", tell(t, d, slices.Repeat([]string{"none"}, 60), 30), row)
	// Behind answers none where there are more than MaxNodes ids.
	wantNodes(t, "more ids than Behind takes", tell(t, d, append(thirty, "none"), 30), row)
	wantNotTold(t, d, slices.Repeat([]string{"none"}, 61), 30)
	wantNotTold(t, nil, make([]string, 61), 1)
	for _, d := range wrongDags() {
		wantNotTold(t, d, nil, 30)
		wantNotTold(t, d, idsAsTold(d), 1)
		wantNotSynced(t, impl.Peer{}, d, 30)
		wantNotSynced(t, impl.Peer{Dag: byId(row[:3]...)}, d, 1)
	}
}

// syncedAsTold lets a peer take in what it is told, round by round, by the words of the chapter.
func syncedAsTold(p impl.Peer, d []impl.Node, most int) (impl.Peer, int64) {
	nodes := slices.Concat(p.Dag, p.Waiting)
	for rounds := int64(0); ; rounds++ {
		told := toldAsTold(d, idsAsTold(p.Dag), most)
		if len(told) == 0 {
			return p, rounds
		}
		nodes = append(nodes, told...)
		p = peerAsTold(nodes)
	}
}

// TestSyncings asks the end of promise 8, of peers that have some of the nodes, some that wait, and some of their own.
func TestSyncings(t *testing.T) {
	r := rand.New(rand.NewSource(83))
	done, full := 0, 0
	for range 150 {
		common := randomGrowth(r, 12)
		d, own := grown(r, common, 18), grown(r, common, 18)
		p := peerAsTold(slices.Concat(someOf(r, own), someOf(r, d)))
		if len(p.Dag) > impl.MaxNodes || len(p.Waiting) > impl.MaxWaiting {
			continue
		}
		most := 1 + r.Intn(30)
		want, rounds := syncedAsTold(p, d, most)
		if len(want.Dag) > impl.MaxNodes {
			wantNotSynced(t, p, d, int64(most))
			full++
			continue
		}
		got, gotRounds, ok := impl.Synced(p, d, int64(most))
		if !ok || gotRounds != rounds {
			t.Fatalf("%v, %v, %d: got %d rounds, %v, want %d", p, d, most, gotRounds, ok, rounds)
		}
		wantPeer(t, "synced", got, want)
		wantAllThatBothHad(t, p, d, got, rounds)
		done++
	}
	if done < 50 || full < 5 {
		t.Error("too few of a kind:", done, full)
	}
}

func wantAllThatBothHad(t *testing.T, p impl.Peer, d []impl.Node, got impl.Peer, rounds int64) {
	t.Helper()
	ids := idsAsTold(got.Dag)
	for _, id := range idsAsTold(slices.Concat(p.Dag, d)) {
		if !slices.Contains(ids, id) {
			t.Fatalf("%v, %v: %s is not there", p, d, id)
		}
	}
	lacked := slices.DeleteFunc(idsAsTold(d), func(id string) bool { return slices.Contains(idsAsTold(p.Dag), id) })
	if rounds > int64(len(lacked)) {
		t.Fatalf("%v, %v: %d rounds for %d nodes", p, d, rounds, len(lacked))
	}
	again, rounds, ok := impl.Synced(got, d, 1)
	if !ok || rounds != 0 {
		t.Fatalf("synced again: %d, %v", rounds, ok)
	}
	wantPeer(t, "synced again", again, got)
}

func TestRounds(t *testing.T) {
	row := chain(30)
	d := byId(row...)
	for most := int64(1); most <= 30; most++ {
		q, rounds, ok := impl.Synced(impl.Peer{}, d, most)
		if !ok || rounds != (29+most)/most {
			t.Errorf("most %d: %d, %v", most, rounds, ok)
		}
		wantPeer(t, "all", q, impl.Peer{Dag: d})
	}
	// With the second one the third to the fifth come in, which wait: they are not told any more.
	p := impl.Peer{Dag: row[:1], Waiting: byId(row[2:5]...)}
	q, rounds, ok := impl.Synced(p, byId(row[:6]...), 1)
	if !ok || rounds != 2 {
		t.Errorf("two rounds: %d, %v", rounds, ok)
	}
	wantPeer(t, "those that waited", q, impl.Peer{Dag: byId(row[:6]...)})
	q, rounds, ok = impl.Synced(p, nil, 1)
	if !ok || rounds != 0 {
		t.Errorf("no round: %d, %v", rounds, ok)
	}
	wantPeer(t, "nothing is told", q, p)
	own := impl.Peer{Dag: byId(row[:29]...)}
	q, rounds, ok = impl.Synced(own, byId(adding(5, 5, "x")), 30)
	if !ok || rounds != 1 || len(q.Dag) != impl.MaxNodes {
		t.Errorf("the thirtieth: %d, %v", rounds, ok)
	}
	wantNotSynced(t, own, byId(adding(5, 5, "x"), adding(5, 6, "x")), 1)
	wantNotSynced(t, impl.Peer{Dag: byId(row[:28]...), Waiting: byId(adding(6, 6, "y", idAsTold(adding(5, 5, "x")), idAsTold(adding(5, 6, "x"))))}, byId(adding(5, 5, "x"), adding(5, 6, "x")), 1)
}

// TestPeersEnd asks that no peer goes on running behind its call, whatever the call answered.
func TestPeersEnd(t *testing.T) {
	row := chain(3)
	before := runtime.NumGoroutine()
	for range 200 {
		receiveAll(t, impl.Peer{}, row...)
		wantNotReceived(t, impl.Peer{}, row[0], impl.Node{}, row[1])
		wantNotSynced(t, impl.Peer{Dag: loose(30)}, byId(row[0], adding(5, 5, "x")), 1)
		impl.Synced(impl.Peer{}, byId(row...), 1)
	}
	// One that has just answered may not be gone to the last step.
	if after := runtime.NumGoroutine(); after > before+20 {
		t.Errorf("%d go on running", after-before)
	}
}

func TestSyncingLeavesItsArguments(t *testing.T) {
	mark := adding(7, 7, "mark")
	a := adding(1, 1, "a")
	ups, upsAsTheyWere := roomy([]string{idAsTold(a)}, "mark", sameText)
	b := impl.Node{Author: 2, Seq: 1, Kind: impl.OpSet, Key: "k", Text: "v", Ups: ups}
	c := dropping(3, 1, "a", idAsTold(b))
	e := adding(4, 1, "e", idAsTold(c), someId("0"))
	dag, dagAsItWas := roomy(byId(a), mark, sameNode)
	waiting, waitingAsItWas := roomy(byId(c, e), mark, sameNode)
	list, listAsItWas := roomy([]impl.Node{c, b, a, b}, mark, sameNode)
	d, asItWas := roomy(byId(a, b, c), mark, sameNode)
	have, haveAsItWas := roomy([]string{"none", idAsTold(a)}, "mark", sameText)
	p := impl.Peer{Dag: dag, Waiting: waiting}
	for range 2 {
		synced, _, ok := impl.Synced(p, d, 1)
		told := tell(t, d, have, 30)
		if !ok || len(told) != 2 {
			t.Fatal("synced", synced, told)
		}
		want := impl.Peer{Dag: byId(a, b, c), Waiting: byId(e)}
		for _, q := range []impl.Peer{receive(t, p, b), receiveAll(t, p, list...), synced} {
			wantPeer(t, "all", q, want)
			spoil(q.Dag)
			wantNodes(t, "those that wait, when the others were written into", q.Waiting, want.Waiting)
			spoil(q.Waiting)
		}
		same := receive(t, p, a)
		wantPeer(t, "as it is", same, p)
		spoil(same.Dag)
		spoil(same.Waiting)
		none := receiveAll(t, p)
		spoil(none.Dag)
		spoil(none.Waiting)
		spoil(told)
		if !dagAsItWas() || !waitingAsItWas() || !listAsItWas() || !asItWas() || !haveAsItWas() || !upsAsTheyWere() {
			t.Fatal("an argument was changed")
		}
	}
}
