package tests

import (
	"encoding/binary"
	"fmt"
	"hash/crc32"
	"math"
	"math/rand"
	"slices"
	"strings"
	"testing"

	"loop.example/g00318/impl"
)

// frameAsTold is a frame, made apart from the program, however long its data is.
func frameAsTold(data string) string {
	b := binary.BigEndian.AppendUint32(nil, uint32(len(data)))
	b = binary.LittleEndian.AppendUint32(b, crc32.ChecksumIEEE([]byte(data)))
	return string(b) + data
}

// logAsTold is the frames of these nodes.
func logAsTold(nodes ...impl.Node) string {
	s := ""
	for _, n := range nodes {
		s += frameAsTold(textAsTold(n))
	}
	return s
}

// baseAsTold is the frame of the dag of these nodes.
func baseAsTold(nodes ...impl.Node) string { return frameAsTold(dagTextAsTold(byId(nodes...))) }

func wantFrames(t *testing.T, s string, end int, want ...string) {
	t.Helper()
	l, n := impl.TakeFrames(s)
	if n != int64(end) || !slices.Equal(l, want) {
		t.Fatalf("%.100q: got %d frames to %d, want %d to %d", s, len(l), n, len(want), end)
	}
}

func view(t *testing.T, d impl.Disk) []impl.Node {
	t.Helper()
	dag, code := impl.StoreView(d)
	if code != impl.StOk || !impl.DagOk(dag) {
		t.Fatalf("%s: got %d", shortly(d), code)
	}
	return dag
}

func wantView(t *testing.T, d impl.Disk, want ...impl.Node) {
	t.Helper()
	wantNodes(t, "seen", view(t, d), byId(want...))
}

func wantNoView(t *testing.T, d impl.Disk, want int64) {
	t.Helper()
	if dag, code := impl.StoreView(d); code != want || len(dag) != 0 {
		t.Fatalf("%s: got %v, %d, want %d", shortly(d), dag, code, want)
	}
}

// act does an act, and asks for its code.
func act(t *testing.T, d impl.Disk, a impl.Act, want int64) impl.Disk {
	t.Helper()
	e, code := impl.StoreDo(d, a)
	if code != want || !impl.DiskOk(e) {
		t.Fatalf("%s, %v: got %d, want %d", shortly(d), a, code, want)
	}
	return e
}

// wantNoAct asks for a refusal that leaves the disk as it was.
func wantNoAct(t *testing.T, d impl.Disk, a impl.Act, want int64) {
	t.Helper()
	wantDisk(t, fmt.Sprint("a refused act ", a), act(t, d, a, want), d)
}

func addAct(n impl.Node, sync bool) impl.Act {
	return impl.Act{Kind: impl.AcAdd, Node: n, Sync: sync, Power: -1}
}

func plain(kind int64) impl.Act { return impl.Act{Kind: kind, Power: -1} }

// storeOf is a new store to which these nodes were added, none of them synced.
func storeOf(t *testing.T, nodes ...impl.Node) impl.Disk {
	t.Helper()
	d := act(t, impl.Disk{}, plain(impl.AcNew), impl.StOk)
	for _, n := range nodes {
		d = act(t, d, addAct(n, false), impl.StOk)
	}
	return d
}

// framesOf takes frames apart from the program.
func framesOf(s string) (frames []string, end int) {
	for len(s)-end >= 8 {
		size := int(binary.BigEndian.Uint32([]byte(s[end:])))
		if size > 100000 || len(s)-end-8 < size || frameAsTold(s[end+8:end+8+size]) != s[end:end+8+size] {
			break
		}
		frames = append(frames, s[end+8:end+8+size])
		end += 8 + size
	}
	return frames, end
}

// viewAsTold answers the dag of a right disk, whether its log is good, and a code.
func viewAsTold(d impl.Disk) ([]impl.Node, bool, int64) {
	m := mapOfFiles(d.Live)
	base, there := m["base"]
	if !there {
		return nil, false, impl.StNone
	}
	if len(base) < 8 {
		return nil, false, impl.StBad
	}
	dag, ok := impl.ReadDag(base[8:])
	if !ok || base != baseAsTold(dag...) {
		return nil, false, impl.StBad
	}
	frames, end := framesOf(m["log"])
	for _, text := range frames {
		n, ok := impl.ReadNode(text)
		with := byId(append(slices.Clone(dag), n)...)
		for _, up := range n.Ups {
			ok = ok && slices.Contains(idsAsTold(dag), up)
		}
		if !ok || len(with) > 30 {
			return dag, false, impl.StOk
		}
		dag = with
	}
	return dag, end == len(m["log"]), impl.StOk
}

// A walk makes steps one by one, until power or the disk ends it.
type walk struct {
	now   impl.Disk
	power int64
	code  int64
}

func (w *walk) step(make func(d impl.Disk) (impl.Disk, int64)) {
	if w.code != impl.StOk {
		return
	}
	if w.power == 0 {
		w.code = impl.StPower
		return
	}
	w.power--
	next, code := make(w.now)
	if code != impl.DkOk {
		w.code = impl.StFull
		return
	}
	w.now = next
}

func (w *walk) do(op impl.DOp) {
	w.step(func(d impl.Disk) (impl.Disk, int64) { return doAsTold(d, op) })
}

func (w *walk) sync() {
	w.step(func(d impl.Disk) (impl.Disk, int64) { return synced(d.Live), impl.DkOk })
}

func (w *walk) gone(name string) {
	if _, there := mapOfFiles(w.now.Live)[name]; there {
		w.do(remove(name))
		w.sync()
	}
}

func (w *walk) save(dag []impl.Node) {
	w.sync()
	w.gone("base.new")
	w.do(appendTo("base.new", baseAsTold(dag...)))
	w.do(rename("base.new", "base"))
	w.sync()
	w.gone("log")
}

// actAsTold does an act apart from the program, to a right disk.
func actAsTold(d impl.Disk, a impl.Act) (impl.Disk, int64) {
	w := walk{now: d, power: a.Power}
	dag, good, code := viewAsTold(d)
	switch {
	case a.Kind == impl.AcCrash:
		left, ok := crashAsTold(d, a.Keep, a.Torn)
		if !ok {
			return d, impl.StForm
		}
		return actAsTold(left, impl.Act{Kind: impl.AcOpen, Power: a.Power})
	case a.Kind == impl.AcNew:
		if code != impl.StNone {
			return d, impl.StForm
		}
		for _, f := range d.Live {
			w.do(remove(f.Name))
		}
		w.save(nil)
	case a.Kind < 1 || a.Kind > 5:
		return d, impl.StForm
	case code != impl.StOk:
		return d, code
	case a.Kind == impl.AcAdd:
		if code := addCodeAsTold(dag, good, a.Node); code != impl.StOk {
			return d, code
		}
		w.do(appendTo("log", logAsTold(a.Node)))
		if a.Sync {
			w.sync()
		}
	case a.Kind == impl.AcSave && !good:
		return d, impl.StTorn
	case a.Kind == impl.AcSave, !good:
		w.save(dag)
	}
	if w.code == impl.StFull {
		return d, impl.StFull
	}
	return w.now, w.code
}

func addCodeAsTold(dag []impl.Node, good bool, n impl.Node) int64 {
	switch ids := idsAsTold(dag); {
	case !impl.NodeOk(n):
		return impl.StForm
	case !good:
		return impl.StTorn
	case slices.Contains(ids, idAsTold(n)):
		return impl.StThere
	case len(ids) >= 30 || slices.ContainsFunc(n.Ups, func(up string) bool { return !slices.Contains(ids, up) }):
		return impl.StForm
	}
	return impl.StOk
}

func TestFrames(t *testing.T) {
	r := rand.New(rand.NewSource(150))
	all, datas := "", []string{}
	for _, size := range []int{0, 1, 2, 3, 4, 7, 8, 9, 255, 256, 257, 65535, 65536, 99999, 100000} {
		b := make([]byte, size)
		r.Read(b)
		data := string(b)
		if impl.FrameOf(data) != frameAsTold(data) {
			t.Error("the frame of", size, "bytes")
		}
		all, datas = all+frameAsTold(data), append(datas, data)
		wantFrames(t, frameAsTold(data), 8+size, data)
		wantFrames(t, frameAsTold(data)+"\x00\x00\x00\x01", 8+size, data)
		wantFrames(t, all, len(all), datas...)
		wantFrames(t, all[:len(all)-1], len(all)-8-size, datas[:len(datas)-1]...)
	}
	for b := range 256 {
		if data := string([]byte{byte(b)}); impl.FrameOf(data) != frameAsTold(data) {
			t.Error("the frame of the byte", b)
		}
	}
	for _, size := range []int{100001, 100002, 1 << 20} {
		data := strings.Repeat("x", size)
		if impl.FrameOf(data) != "" {
			t.Error("a frame of", size, "bytes")
		}
		wantFrames(t, frameAsTold(data), 0)
		wantFrames(t, frameAsTold("a")+frameAsTold(data), 9, "a")
	}
	if f := impl.FrameOf("123456789"); f != "\x00\x00\x00\x09\x26\x39\xf4\xcb123456789" {
		t.Errorf("%q", f)
	}
}

// TestFramesCutAndChanged takes frames up to the first that is none.
func TestFramesCutAndChanged(t *testing.T) {
	datas := []string{"abc", "", "a longer one", "\x00"}
	all, ends := "", []int{0}
	for _, data := range datas {
		all += frameAsTold(data)
		ends = append(ends, len(all))
	}
	for i := range len(all) + 1 {
		whole := 0
		for whole < len(datas) && ends[whole+1] <= i {
			whole++
		}
		wantFrames(t, all[:i], ends[whole], datas[:whole]...)
		if i == len(all) {
			break
		}
		for _, change := range []byte{1, 128, 255} {
			b := []byte(all)
			b[i] ^= change
			wantFrames(t, string(b), ends[whole], datas[:whole]...)
		}
	}
	wantFrames(t, "", 0)
	wantFrames(t, "x", 0)
	wantFrames(t, strings.Repeat("\x00", 8), 8, "")
	wantFrames(t, strings.Repeat("\x00", 7), 0)
	wantFrames(t, strings.Repeat("\x00", 23), 16, "", "")
	wantFrames(t, strings.Repeat("\xff", 100), 0)
	wantFrames(t, "x"+frameAsTold("abc"), 0)
	wantFrames(t, "\x03\x00\x00\x00\xc2\x41\x24\x35abc", 0)
	wantFrames(t, "\x00\x00\x00\x03\x35\x24\x41\xc2abc", 0)
}

func TestStoresSeen(t *testing.T) {
	a := adding(1, 1, "a")
	b := dropping(2, 1, "a", idAsTold(a))
	c := adding(3, 1, "c")
	e := adding(3, 2, "e", idAsTold(b), idAsTold(c))
	good := func(d impl.Disk) bool { _, code := impl.StoreDo(d, plain(impl.AcSave)); return code == impl.StOk }
	for i, x := range []struct {
		base []impl.Node
		log  string
		want []impl.Node
		good bool
	}{
		{nil, "", nil, true}, {[]impl.Node{a, b}, "", []impl.Node{a, b}, true}, {nil, logAsTold(a, b, c, e), []impl.Node{a, b, c, e}, true}, {[]impl.Node{a}, logAsTold(c, b, e), []impl.Node{a, b, c, e}, true},
		// Nodes that are there are added once, and count.
		{[]impl.Node{a, b, c}, logAsTold(a, b, c, e), []impl.Node{a, b, c, e}, true}, {[]impl.Node{a}, logAsTold(a, a, c, c, a), []impl.Node{a, c}, true},
		// The frame of a was lost: b is refused, and nothing behind it counts.
		{nil, logAsTold(b), nil, false}, {nil, logAsTold(b, c), nil, false}, {nil, logAsTold(c, b, a, b), []impl.Node{c}, false}, {[]impl.Node{a}, logAsTold(c, e, b), []impl.Node{a, c}, false}, {nil, logAsTold(b, a), nil, false},
		{nil, logAsTold(a) + frameAsTold("") + logAsTold(c), []impl.Node{a}, false}, {nil, logAsTold(a) + frameAsTold("x") + logAsTold(c), []impl.Node{a}, false}, {nil, logAsTold(a) + baseAsTold(c), []impl.Node{a}, false}, {nil, frameAsTold(textAsTold(a)+"\n") + logAsTold(c), nil, false}, {nil, frameAsTold(textAsTold(a) + textAsTold(c)), nil, false},
		{nil, frameAsTold(textAsTold(adding(1, 1, ""))) + logAsTold(c), nil, false}, {nil, logAsTold(a) + "\x00", []impl.Node{a}, false}, {nil, "x" + logAsTold(a), nil, false}, {nil, logAsTold(a) + logAsTold(c)[:20], []impl.Node{a}, false}, {nil, logAsTold(a)[1:], nil, false},
		{loose(30), "", loose(30), true}, {loose(30), logAsTold(loose(30)[4]), loose(30), true}, {loose(30), logAsTold(c), loose(30), false}, {loose(29), logAsTold(c), append(loose(29), c), true}, {loose(29), logAsTold(c, a, c), append(loose(29), c), false}, {nil, logAsTold(chain(30)...), chain(30), true},
	} {
		d := synced(files("base", baseAsTold(x.base...), "log", x.log, "other", "x"))
		wantView(t, d, x.want...)
		if good(d) != x.good {
			t.Error(i, "the log is good:", !x.good)
		}
		if x.log == "" {
			wantView(t, synced(files("base", baseAsTold(x.base...))), x.want...)
		}
		after := act(t, d, plain(impl.AcOpen), impl.StOk)
		wantView(t, after, x.want...)
		if want := synced(files("base", baseAsTold(x.want...), "other", "x")); !x.good {
			wantDisk(t, "opened", after, want)
		} else {
			wantDisk(t, "opened", after, d)
		}
	}
}

func TestStoresNotSeen(t *testing.T) {
	for _, d := range wrongDisks() {
		wantNoView(t, d, impl.StDisk)
		for kind := int64(-1); kind <= 6; kind++ {
			e, code := impl.StoreDo(d, impl.Act{Kind: kind, Node: adding(1, 1, "a"), Power: 5, Torn: -1})
			if code != impl.StDisk || !sameDisk(e, impl.Disk{}) {
				t.Fatalf("%s, %d: got %d", shortly(d), kind, code)
			}
		}
		if e, codes := impl.StorePlay(d, []impl.Act{plain(impl.AcOpen)}); len(codes) != 0 || !sameDisk(e, impl.Disk{}) {
			t.Fatalf("%s: got %v", shortly(d), codes)
		}
	}
	wantNoView(t, impl.Disk{}, impl.StNone)
	wantNoView(t, synced(files("base.new", baseAsTold(), "log", "", "Base", baseAsTold())), impl.StNone)
	// A base counts as it is seen, not as it was synced.
	wantNoView(t, impl.Disk{Safe: files("base", baseAsTold()), Ops: []impl.DOp{remove("base")}}, impl.StNone)
	a := adding(1, 1, "a")
	right := baseAsTold(a)
	for _, base := range []string{"", "x", "dag 0\n", right + "\x00", right + right, "\x00" + right, right[1:], right[:len(right)-1], frameAsTold(""), frameAsTold("dag 1\n"), frameAsTold("dag 0"), frameAsTold(textAsTold(a)), right + logAsTold(a), strings.Repeat("\x00", 8) + right, right + strings.Repeat("\x00", 8), frameAsTold(dagTextAsTold(loose(31))), frameAsTold(dagTextAsTold([]impl.Node{adding(1, 1, "b", idAsTold(a))})), frameAsTold(strings.Repeat("x", 100001))} {
		d := synced(files("base", base, "log", logAsTold(a)))
		wantNoView(t, d, impl.StBad)
		wantNoAct(t, d, plain(impl.AcNew), impl.StForm)
		wantNoAct(t, d, addAct(a, true), impl.StBad)
		wantNoAct(t, d, addAct(impl.Node{}, true), impl.StBad)
		wantNoAct(t, d, plain(impl.AcSave), impl.StBad)
		wantNoAct(t, d, plain(impl.AcOpen), impl.StBad)
		wantNoAct(t, d, plain(impl.AcCrash), impl.StBad)
		wantNoAct(t, d, impl.Act{Kind: impl.AcCrash, Torn: -1}, impl.StForm)
	}
}

func TestNewStores(t *testing.T) {
	empty := synced(files("base", baseAsTold()))
	wantDisk(t, "new", act(t, impl.Disk{}, plain(impl.AcNew), impl.StOk), empty)
	old := do(t, synced(files("base.new", "x", "log", logAsTold(adding(1, 1, "a")), "other", "y")), appendTo("z", "z"))
	wantDisk(t, "new", act(t, old, plain(impl.AcNew), impl.StOk), empty)
	wantNoAct(t, empty, plain(impl.AcNew), impl.StForm)
	wantNoAct(t, synced(files("base", "")), plain(impl.AcNew), impl.StForm)
	full := synced(manyFiles(60, 3333))
	wantDisk(t, "new", act(t, full, plain(impl.AcNew), impl.StOk), empty)
	// Files go by name, one a step, ahead of the first Sync.
	for power, want := range []impl.Disk{
		old, do(t, old, remove("base.new")), do(t, old, remove("base.new"), remove("log")), do(t, old, remove("base.new"), remove("log"), remove("other")),
		do(t, old, remove("base.new"), remove("log"), remove("other"), remove("z")), {}, {Live: files("base.new", baseAsTold()), Ops: []impl.DOp{appendTo("base.new", baseAsTold())}},
		{Live: files("base", baseAsTold()), Ops: []impl.DOp{appendTo("base.new", baseAsTold()), rename("base.new", "base")}},
	} {
		wantDisk(t, fmt.Sprint("power ", power), act(t, old, impl.Act{Kind: impl.AcNew, Power: int64(power)}, impl.StPower), want)
	}
	wantDisk(t, "just enough power", act(t, old, impl.Act{Kind: impl.AcNew, Power: 8}, impl.StOk), empty)
	// There is room for as many removings as there are files, or for one too few.
	ops := slices.Repeat([]impl.DOp{appendTo("a", ""), remove("a")}, 98)
	d := do(t, impl.Disk{}, append(ops, appendTo("a", ""), appendTo("b", ""))...)
	wantDisk(t, "new", act(t, d, plain(impl.AcNew), impl.StOk), empty)
	d = do(t, d, appendTo("b", ""))
	wantNoAct(t, d, plain(impl.AcNew), impl.StFull)
	wantDisk(t, "power ends ahead of the refusal", act(t, d, impl.Act{Kind: impl.AcNew, Power: 1}, impl.StPower), do(t, d, remove("a")))
	wantNoAct(t, d, impl.Act{Kind: impl.AcNew, Power: 2}, impl.StFull)
}

func TestActsOfNoKind(t *testing.T) {
	for _, d := range []impl.Disk{{}, storeOf(t), storeOf(t, chain(3)...), synced(files("base", "x"))} {
		for _, kind := range []int64{0, 6, -1, math.MinInt64, math.MaxInt64, 1<<32 + 2} {
			wantNoAct(t, d, impl.Act{Kind: kind, Node: adding(1, 1, "a"), Torn: -1}, impl.StForm)
		}
	}
	for kind := int64(impl.AcAdd); kind <= impl.AcCrash; kind++ {
		wantNoAct(t, impl.Disk{}, plain(kind), impl.StNone)
		wantNoAct(t, synced(files("base.new", baseAsTold(), "log", "x")), plain(kind), impl.StNone)
	}
}

func TestNodesAddedToAStore(t *testing.T) {
	a := adding(1, 1, "a")
	b := dropping(2, 1, "a", idAsTold(a))
	d := storeOf(t)
	e := act(t, d, addAct(a, false), impl.StOk)
	op := appendTo("log", logAsTold(a))
	wantDisk(t, "added", e, impl.Disk{Live: files("base", baseAsTold(), "log", logAsTold(a)), Safe: d.Live, Ops: []impl.DOp{op}})
	wantDisk(t, "added and synced", act(t, d, addAct(a, true), impl.StOk), synced(e.Live))
	wantDisk(t, "power for all but the sync", act(t, d, impl.Act{Kind: impl.AcAdd, Node: a, Sync: true, Power: 1}, impl.StPower), e)
	wantDisk(t, "power for both", act(t, d, impl.Act{Kind: impl.AcAdd, Node: a, Sync: true, Power: 2}, impl.StOk), synced(e.Live))
	wantDisk(t, "power for the one", act(t, d, impl.Act{Kind: impl.AcAdd, Node: a, Power: 1}, impl.StOk), e)
	wantDisk(t, "no power", act(t, d, impl.Act{Kind: impl.AcAdd, Node: a, Power: 0}, impl.StPower), d)
	for _, n := range wrongNodes() {
		wantNoAct(t, d, addAct(n, true), impl.StForm)
	}
	wantNoAct(t, d, addAct(b, true), impl.StForm)
	wantNoAct(t, e, addAct(a, true), impl.StThere)
	wantNoAct(t, e, impl.Act{Kind: impl.AcAdd, Node: a, Power: 0}, impl.StThere)
	e = act(t, e, addAct(b, false), impl.StOk)
	wantView(t, e, a, b)
	wantNoAct(t, act(t, e, plain(impl.AcSave), impl.StOk), addAct(b, false), impl.StThere)
	full := storeOf(t, chain(30)...)
	wantNoAct(t, full, addAct(a, false), impl.StForm)
	wantNoAct(t, full, addAct(chain(30)[29], false), impl.StThere)
	wantView(t, act(t, storeOf(t, chain(29)...), addAct(a, false), impl.StOk), append(chain(29), a)...)
	// What is not right is told ahead of a torn log, that ahead of what is there.
	torn := synced(files("base", baseAsTold(a), "log", "x"))
	wantNoAct(t, torn, addAct(impl.Node{}, false), impl.StForm)
	wantNoAct(t, torn, addAct(a, false), impl.StTorn)
	wantNoAct(t, torn, addAct(b, false), impl.StTorn)
	wantNoAct(t, torn, addAct(adding(1, 1, "x", someId("e")), false), impl.StTorn)
	wantNoAct(t, torn, plain(impl.AcSave), impl.StTorn)
	wantNoAct(t, torn, impl.Act{Kind: impl.AcSave, Power: 0}, impl.StTorn)
}

// TestPowerOfSteps counts the steps of saving, with and without what is to be gone.
func TestPowerOfSteps(t *testing.T) {
	a := adding(1, 1, "a")
	d := do(t, synced(files("base", baseAsTold(), "base.new", "x")), appendTo("log", logAsTold(a)))
	base := baseAsTold(a)
	swap := []impl.DOp{appendTo("base.new", base), rename("base.new", "base")}
	noNew := synced(files("base", baseAsTold(), "log", logAsTold(a)))
	steps := []impl.Disk{
		d, synced(d.Live), do(t, synced(d.Live), remove("base.new")), noNew, do(t, noNew, swap[0]), do(t, noNew, swap...),
		synced(files("base", base, "log", logAsTold(a))), do(t, synced(files("base", base, "log", logAsTold(a))), remove("log")), synced(files("base", base)),
	}
	torn := do(t, d, appendTo("log", "x"))
	for power := range steps {
		want := int64(impl.StPower)
		if power == len(steps)-1 {
			want = impl.StOk
		}
		wantDisk(t, fmt.Sprint("saved with power ", power), act(t, d, impl.Act{Kind: impl.AcSave, Power: int64(power)}, want), steps[power])
		wantDisk(t, fmt.Sprint("opened with power ", power), act(t, d, impl.Act{Kind: impl.AcOpen, Power: int64(power)}, impl.StOk), d)
		act(t, torn, impl.Act{Kind: impl.AcOpen, Power: int64(power)}, want)
		act(t, torn, impl.Act{Kind: impl.AcCrash, Keep: []int64{0, 1}, Torn: 1, Power: int64(power)}, want)
	}
	for _, power := range []int64{math.MinInt64, -1, 9, math.MaxInt64} {
		wantDisk(t, "saved", act(t, d, impl.Act{Kind: impl.AcSave, Power: power}, impl.StOk), steps[len(steps)-1])
	}
	clean := synced(files("base", baseAsTold()))
	act(t, clean, impl.Act{Kind: impl.AcSave, Power: 3}, impl.StPower)
	wantDisk(t, "saved without a log", act(t, clean, impl.Act{Kind: impl.AcSave, Power: 4}, impl.StOk), clean)
	emptyLog := synced(files("base", baseAsTold(), "log", ""))
	act(t, emptyLog, impl.Act{Kind: impl.AcSave, Power: 5}, impl.StPower)
	wantDisk(t, "saved with an empty log", act(t, emptyLog, impl.Act{Kind: impl.AcSave, Power: 6}, impl.StOk), clean)
}

// TestFullStores has steps that the disk refuses: it is as it was ahead of the act.
func TestFullStores(t *testing.T) {
	a := adding(1, 1, "a")
	frame := len(logAsTold(a))
	fill := func(d impl.Disk, left int) impl.Disk {
		bytes := 0
		for _, f := range d.Live {
			bytes += len(f.Data)
		}
		return do(t, d, appendTo("fill", strings.Repeat("f", 200000-bytes-left)))
	}
	wantNoAct(t, fill(storeOf(t), frame-1), addAct(a, true), impl.StFull)
	act(t, fill(storeOf(t), frame), addAct(a, true), impl.StOk)
	d := fill(storeOf(t, a), len(baseAsTold(a))-1)
	wantNoAct(t, d, plain(impl.AcSave), impl.StFull)
	wantNoAct(t, d, impl.Act{Kind: impl.AcSave, Power: 2}, impl.StFull)
	wantDisk(t, "power ends ahead of the refusal", act(t, d, impl.Act{Kind: impl.AcSave, Power: 1}, impl.StPower), impl.Sync(d))
	act(t, fill(storeOf(t, a), len(baseAsTold(a))), plain(impl.AcSave), impl.StOk)
	crowd := append(files("base", baseAsTold(), "base.new", "x", "log", "x"), manyFiles(57, 0)...)
	slices.SortFunc(crowd, func(a, b impl.File) int { return strings.Compare(a.Name, b.Name) })
	act(t, synced(crowd), plain(impl.AcOpen), impl.StOk)
	crowd[1] = impl.File{Name: "base.old", Data: "x"}
	wantNoAct(t, synced(crowd), plain(impl.AcOpen), impl.StFull)
	ops := do(t, storeOf(t), slices.Repeat([]impl.DOp{appendTo("log", "")}, 199)...)
	ops = act(t, ops, addAct(a, false), impl.StOk)
	wantNoAct(t, ops, addAct(adding(1, 2, "b"), false), impl.StFull)
	wantNoAct(t, ops, addAct(adding(1, 2, "b"), true), impl.StFull)
	// AcCrash leaves the disk as it was behind Crash.
	e := do(t, impl.Sync(fill(storeOf(t), 20)), appendTo("log", "torn"), appendTo("log", "more"))
	wantDisk(t, "a crash, and no room to open", act(t, e, impl.Act{Kind: impl.AcCrash, Keep: []int64{0, 1}, Torn: 3, Power: -1}, impl.StFull), crash(t, e, []int64{0, 1}, 3))
}

func TestStoresThatCrash(t *testing.T) {
	a := adding(1, 1, "a")
	b := dropping(2, 1, "a", idAsTold(a))
	c := adding(3, 1, "c")
	d := storeOf(t, a, b, c)
	whole := int64(1000)
	for _, x := range []struct {
		keep []int64
		torn int64
		want []impl.Node
	}{
		{nil, whole, nil}, {[]int64{0}, whole, []impl.Node{a}}, {[]int64{1}, whole, nil}, {[]int64{2}, whole, []impl.Node{c}}, {[]int64{0, 1}, whole, []impl.Node{a, b}}, {[]int64{0, 2}, whole, []impl.Node{a, c}},
		// b stands behind a, whose frame ahead was lost; what is behind b does not count then.
		{[]int64{1, 2}, whole, nil}, {[]int64{0, 1, 2}, whole, []impl.Node{a, b, c}}, {[]int64{0, 1, 2}, 20, []impl.Node{a, b}}, {[]int64{0, 1}, 0, []impl.Node{a}}, {[]int64{0, 1}, 8, []impl.Node{a}}, {[]int64{0}, 1, nil},
	} {
		e := act(t, d, impl.Act{Kind: impl.AcCrash, Keep: x.keep, Torn: x.torn, Power: -1}, impl.StOk)
		wantView(t, e, x.want...)
		wantNodes(t, "left on the disk", view(t, crash(t, d, x.keep, x.torn)), byId(x.want...))
		for _, n := range []impl.Node{a, b, c} {
			if slices.ContainsFunc(x.want, func(m impl.Node) bool { return sameNode(m, n) }) {
				wantNoAct(t, e, addAct(n, false), impl.StThere)
			} else if len(n.Ups) == 0 {
				wantView(t, act(t, e, addAct(n, true), impl.StOk), append(x.want, n)...)
			}
		}
	}
	for _, keep := range [][]int64{{-1}, {3}, {0, 0}, {1, 0}} {
		wantNoAct(t, d, impl.Act{Kind: impl.AcCrash, Keep: keep, Power: -1}, impl.StForm)
	}
	wantNoAct(t, d, impl.Act{Kind: impl.AcCrash, Torn: -1, Power: -1}, impl.StForm)
	// Behind a crash the disk is that one, also when it has no store, or a broken one.
	e := do(t, impl.Disk{}, appendTo("base", baseAsTold()), appendTo("x", ""))
	wantDisk(t, "no base", act(t, e, impl.Act{Kind: impl.AcCrash, Keep: []int64{1}, Power: -1}, impl.StNone), synced(files("x", "")))
	wantDisk(t, "broken", act(t, e, impl.Act{Kind: impl.AcCrash, Keep: []int64{0}, Torn: 9, Power: -1}, impl.StBad), synced(files("base", baseAsTold()[:9])))
	wantDisk(t, "whole", act(t, e, impl.Act{Kind: impl.AcCrash, Keep: []int64{0}, Torn: 99, Power: 0}, impl.StOk), synced(files("base", baseAsTold())))
	bad := do(t, storeOf(t), appendTo("base", "x"))
	wantDisk(t, "mended by the crash", act(t, bad, impl.Act{Kind: impl.AcCrash, Power: 0}, impl.StOk), storeOf(t))
}

// randomAct makes an act on a store, with little power now and then.
func randomAct(r *rand.Rand, d impl.Disk, nodes []impl.Node) impl.Act {
	a := impl.Act{Kind: impl.AcAdd, Node: nodes[r.Intn(len(nodes))], Sync: r.Intn(4) == 0, Power: -1}
	switch r.Intn(12) {
	case 0, 1:
		a.Kind = impl.AcSave
	case 2, 3:
		a.Kind = impl.AcCrash
	case 4:
		a.Kind = impl.AcOpen
	case 5:
		a.Kind = int64(r.Intn(8))
	}
	for place := range int64(len(d.Ops)) {
		if r.Intn(4) > 0 {
			a.Keep = append(a.Keep, place)
		}
	}
	a.Torn = int64(r.Intn(120))
	if r.Intn(3) == 0 {
		a.Power = int64(r.Intn(9))
	}
	return a
}

// TestActsAsTold holds random acts, with spoilt files between them, against a second working-out.
func TestActsAsTold(t *testing.T) {
	r := rand.New(rand.NewSource(151))
	var codes [9]int
	for range 200 {
		nodes := append(randomGrowth(r, 12), adding(1, 1, "x"), impl.Node{})
		var d impl.Disk
		for range 40 {
			a := randomAct(r, d, nodes)
			if _, code := impl.StoreView(d); code == impl.StNone && r.Intn(2) == 0 {
				a.Kind = impl.AcNew
			}
			want, wantCode := actAsTold(d, a)
			e, code := impl.StoreDo(d, a)
			if code != wantCode {
				t.Fatalf("%s, %v: got %d, want %d", shortly(d), a, code, wantCode)
			}
			wantDisk(t, fmt.Sprint(a), e, want)
			codes[code]++
			dag, _, wantCode := viewAsTold(e)
			got, code := impl.StoreView(e)
			if code != wantCode {
				t.Fatalf("%s: got %d, want %d", shortly(e), code, wantCode)
			}
			wantNodes(t, "seen", got, dag)
			if d = e; r.Intn(20) == 0 {
				name := []string{"base", "log", "log", "log", "base.new", "other"}[r.Intn(6)]
				d, _ = impl.Do(d, []impl.DOp{appendTo(name, "x"), remove(name), appendTo("log", logAsTold(nodes[:len(nodes)-1]...))}[r.Intn(3)])
			}
		}
	}
	for _, code := range []int{impl.StOk, impl.StBad, impl.StForm, impl.StPower, impl.StTorn, impl.StNone, impl.StThere} {
		if codes[code] < 20 {
			t.Error("too few of the code", code, codes)
		}
	}
}

// A history is a store with what was added to it, and what of that was synced or saved.
type history struct {
	disk  impl.Disk
	added []impl.Node
	safe  []impl.Node
}

// then does an act, and tells from its steps alone what is safe behind it.
func (h history) then(t *testing.T, a impl.Act) history {
	t.Helper()
	before := view(t, h.disk)
	e, code := impl.StoreDo(h.disk, a)
	next := history{disk: e, added: h.added, safe: h.safe}
	switch {
	case code != impl.StOk && code != impl.StPower:
		wantDisk(t, "refused", e, h.disk)
	case a.Kind == impl.AcAdd && (code == impl.StOk || a.Power > 0):
		next.added = byId(append(slices.Clone(h.added), a.Node)...)
		if a.Sync && code == impl.StOk {
			next.safe = byId(append(before, a.Node)...)
		}
	case a.Kind == impl.AcSave && (code == impl.StOk || a.Power > 0):
		next.safe = before
	}
	return next
}

// wantKept asks promise 15 of a disk that came of a history.
func (h history) wantKept(t *testing.T, d impl.Disk) []impl.Node {
	t.Helper()
	dag := view(t, d)
	ids, added := idsAsTold(dag), idsAsTold(h.added)
	for _, id := range idsAsTold(h.safe) {
		if !slices.Contains(ids, id) {
			t.Fatalf("%s: %s was safe, and is lost", shortly(d), id)
		}
	}
	for _, id := range ids {
		if !slices.Contains(added, id) {
			t.Fatalf("%s: %s was not added", shortly(d), id)
		}
	}
	return dag
}

// loses loses power in each way there is, opens with power for so many steps, loses it again, and so on; each time promise 15 is asked.
func (h history) loses(t *testing.T, r *rand.Rand, deep int) {
	t.Helper()
	for _, keep := range someKeeps(r, len(h.disk.Ops)) {
		torn := []int64{0, int64(r.Intn(100)), 1000}[r.Intn(3)]
		left := crash(t, h.disk, keep, torn)
		// What a loss of power left is what was synced, for all that comes behind it.
		now := history{disk: left, added: h.added, safe: h.wantKept(t, left)}
		whole := act(t, h.disk, impl.Act{Kind: impl.AcCrash, Keep: keep, Torn: torn, Power: -1}, impl.StOk)
		wantNodes(t, "opened", now.wantKept(t, whole), now.safe)
		fresh := adding(9, impl.MaxSeq, "fresh")
		more := act(t, whole, addAct(fresh, true), impl.StOk)
		wantView(t, crash(t, more, nil, 0), append(now.safe, fresh)...)
		for power := range int64(9) {
			part, code := impl.StoreDo(h.disk, impl.Act{Kind: impl.AcCrash, Keep: keep, Torn: torn, Power: power})
			now.disk = part
			wantNodes(t, "opened in part", now.wantKept(t, part), now.safe)
			if code == impl.StOk {
				break
			}
			if deep > 0 {
				now.loses(t, r, deep-1)
			}
		}
	}
}

// someKeeps answers all lists of places where these are few, else some of them.
func someKeeps(r *rand.Rand, n int) [][]int64 {
	if n <= 3 {
		return everyKeep(n)
	}
	keeps := [][]int64{nil, places(n), places(n - 1), places(n)[1:]}
	for range 4 {
		keeps = append(keeps, slices.DeleteFunc(places(n), func(int64) bool { return r.Intn(3) == 0 }))
	}
	return keeps
}

// TestNothingSafeIsLost asks promise 15: between any two steps of each act power is lost, in many ways.
func TestNothingSafeIsLost(t *testing.T) {
	r := rand.New(rand.NewSource(152))
	for range 15 {
		h := history{disk: storeOf(t)}
		for _, n := range randomGrowth(r, 12) {
			acts := []impl.Act{addAct(n, r.Intn(4) == 0)}
			if r.Intn(4) == 0 {
				acts = append(acts, plain(impl.AcSave))
			}
			for _, a := range acts {
				for power := range int64(8) {
					a.Power = power
					h.then(t, a).loses(t, r, 1)
				}
				a.Power = -1
				h = h.then(t, a)
				h.wantKept(t, h.disk)
			}
			if r.Intn(5) == 0 {
				h = h.losesOnce(t, r)
			}
		}
	}
}

// losesOnce goes on with what one loss of power left.
func (h history) losesOnce(t *testing.T, r *rand.Rand) history {
	t.Helper()
	keeps := someKeeps(r, len(h.disk.Ops))
	a := impl.Act{Kind: impl.AcCrash, Keep: keeps[r.Intn(len(keeps))], Torn: int64(r.Intn(100)), Power: -1}
	e := act(t, h.disk, a, impl.StOk)
	return history{disk: e, added: h.added, safe: h.wantKept(t, e)}
}

// TestNewStoresThatCrash has a new store be there whole or not at all.
func TestNewStoresThatCrash(t *testing.T) {
	old := synced(files("base.new", baseAsTold(adding(1, 1, "left")), "log", logAsTold(adding(1, 1, "left")), "other", "x"))
	for power := range int64(9) {
		d, _ := impl.StoreDo(old, impl.Act{Kind: impl.AcNew, Power: power})
		for _, keep := range everyKeep(len(d.Ops)) {
			for _, torn := range []int64{0, 1, 8, 13, 14, 1000} {
				e := crash(t, d, keep, torn)
				dag, code := impl.StoreView(e)
				if code == impl.StNone {
					e = act(t, e, plain(impl.AcNew), impl.StOk)
					dag, code = impl.StoreView(e)
				}
				if code != impl.StOk || len(dag) != 0 {
					t.Fatal(power, keep, torn, dag, code)
				}
			}
		}
	}
}

func TestPlayedActs(t *testing.T) {
	r := rand.New(rand.NewSource(153))
	for range 60 {
		nodes := append(randomGrowth(r, 10), adding(1, 1, "x"))
		d := randomDisk(r, 5)
		list, want, wantCodes := []impl.Act{plain(impl.AcNew)}, d, []int64{}
		for range r.Intn(30) {
			list = append(list, randomAct(r, impl.Disk{Ops: make([]impl.DOp, r.Intn(3))}, nodes))
		}
		for _, a := range list {
			e, code := impl.StoreDo(want, a)
			want, wantCodes = e, append(wantCodes, code)
		}
		got, codes := impl.StorePlay(d, list)
		if !slices.Equal(codes, wantCodes) {
			t.Fatalf("%v: got %v, want %v", list, codes, wantCodes)
		}
		wantDisk(t, "played", got, want)
	}
	d := storeOf(t, chain(2)...)
	got, codes := impl.StorePlay(d, nil)
	if len(codes) != 0 {
		t.Error(codes)
	}
	wantDisk(t, "nothing played", got, d)
	a := adding(1, 1, "a")
	_, codes = impl.StorePlay(impl.Disk{}, []impl.Act{plain(impl.AcOpen), plain(impl.AcNew), addAct(a, false), addAct(a, false), {}, {Kind: impl.AcSave, Power: 2}, {Kind: impl.AcCrash, Keep: []int64{0}, Torn: 1, Power: -1}, plain(impl.AcNew), addAct(a, true)})
	if want := []int64{impl.StNone, impl.StOk, impl.StOk, impl.StThere, impl.StForm, impl.StPower, impl.StOk, impl.StForm, impl.StThere}; !slices.Equal(codes, want) {
		t.Errorf("got %v, want %v", codes, want)
	}
}

// TestJournalLeavesItsArguments asks promise 19 of the journal.
func TestJournalLeavesItsArguments(t *testing.T) {
	x := adding(1, 1, "x")
	ups, upsAsTheyWere := roomy([]string{idAsTold(x)}, "mark", sameText)
	n := impl.Node{Author: 2, Seq: 1, Kind: impl.OpDrop, Text: "x", Ups: ups}
	d, asItWas := roomyDisk(do(t, storeOf(t, x), appendTo("base.new", "left")))
	torn, tornAsItWas := roomyDisk(do(t, storeOf(t, x), appendTo("log", "torn")))
	keep, keepAsItWas := roomy([]int64{0, 1}, 77, func(a, b int64) bool { return a == b })
	list := []impl.Act{{Kind: impl.AcAdd, Node: n, Sync: true, Power: -1}, {Kind: impl.AcAdd, Node: n, Power: -1}, plain(impl.AcSave), {Kind: impl.AcSave, Power: 3}, plain(impl.AcOpen), plain(impl.AcNew), {}, {Kind: impl.AcCrash, Keep: keep, Torn: 2, Power: -1}, {Kind: impl.AcCrash, Keep: keep, Torn: 2, Power: 2}, {Kind: impl.AcCrash, Torn: -1}, {Kind: impl.AcAdd, Node: n, Power: 0}}
	for range 2 {
		for _, disk := range []impl.Disk{d, torn} {
			for _, a := range list {
				want, wantCode := actAsTold(disk, a)
				if a.Torn < 0 {
					want, wantCode = disk, impl.StForm
				}
				e, code := impl.StoreDo(disk, a)
				if code != wantCode {
					t.Fatal(a, code)
				}
				wantOwnDisk(t, fmt.Sprint(a), e, want)
				played, codes := impl.StorePlay(disk, []impl.Act{a})
				wantOwnDisk(t, "played", played, want)
				clear(codes[:cap(codes)])
			}
			nothing, _ := impl.StorePlay(disk, nil)
			wantOwnDisk(t, "nothing played", nothing, disk)
			impl.StorePlay(disk, list)
			dag := view(t, disk)
			wantNodes(t, "seen", dag, []impl.Node{x})
			spoil(dag)
		}
		dag := view(t, act(t, d, list[0], impl.StOk))
		wantNodes(t, "seen", dag, byId(x, n))
		wantApart(t, dag)
		spoil(dag)
		frames, _ := impl.TakeFrames(frameAsTold("a") + frameAsTold("b"))
		clear(frames[:cap(frames)])
		wantFrames(t, frameAsTold("a")+frameAsTold("b"), 18, "a", "b")
		if !asItWas() || !tornAsItWas() || !keepAsItWas() || !upsAsTheyWere() {
			t.Fatal("an argument was changed")
		}
	}
}
