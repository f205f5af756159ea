package tests

import (
	"go/ast"
	"go/parser"
	"go/token"
	"math"
	"math/rand"
	"path/filepath"
	"reflect"
	"slices"
	"strconv"
	"strings"
	"testing"

	"loop.example/g00318/impl"
)

// everyFunction has all functions of all chapters.
func everyFunction() map[string]any {
	return map[string]any{
		"TermOk": impl.TermOk, "TermText": impl.TermText, "ReadTerm": impl.ReadTerm, "PartsOf": impl.PartsOf,
		"KnownOk": impl.KnownOk, "Learned": impl.Learned, "Opened": impl.Opened, "CanMake": impl.CanMake,
		"EpochsOk": impl.EpochsOk, "WrapsOf": impl.WrapsOf, "HasKey": impl.HasKey, "KeysOf": impl.KeysOf,
		"SizeFor": impl.SizeFor, "Padded": impl.Padded, "Unpadded": impl.Unpadded,
		"Sum": impl.Sum, "SumText": impl.SumText,
		"NodeOk": impl.NodeOk, "NodeText": impl.NodeText, "ReadNode": impl.ReadNode, "IdOf": impl.IdOf, "DagOk": impl.DagOk, "Added": impl.Added, "HeadsOf": impl.HeadsOf, "Behind": impl.Behind, "Joined": impl.Joined, "Ordered": impl.Ordered,
		"ElemsOf": impl.ElemsOf, "KeysIn": impl.KeysIn, "RegOf": impl.RegOf, "Written": impl.Written,
		"PeerOk": impl.PeerOk, "Received": impl.Received, "ReceivedAll": impl.ReceivedAll, "Told": impl.Told, "Synced": impl.Synced,
		"CommitsOk": impl.CommitsOk, "Clashes": impl.Clashes, "Omitted": impl.Omitted, "Honest": impl.Honest,
		"SeqOk": impl.SeqOk, "SeqIds": impl.SeqIds, "SeqText": impl.SeqText, "SeqMerged": impl.SeqMerged, "SeqInserted": impl.SeqInserted, "SeqDeleted": impl.SeqDeleted, "SeqTurned": impl.SeqTurned,
		"ChainOk": impl.ChainOk, "RosterAt": impl.RosterAt, "CanWrite": impl.CanWrite, "ChainMerged": impl.ChainMerged, "ChainWith": impl.ChainWith,
		"BoxOk": impl.BoxOk, "BoxOf": impl.BoxOf, "OpenBox": impl.OpenBox, "ReadersOf": impl.ReadersOf,
		"DagText": impl.DagText, "ReadDag": impl.ReadDag, "Part": impl.Part, "Lacking": impl.Lacking,
		"DiskOk": impl.DiskOk, "Do": impl.Do, "Sync": impl.Sync, "Crash": impl.Crash, "ReadFile": impl.ReadFile, "Replace": impl.Replace,
		"FrameOf": impl.FrameOf, "TakeFrames": impl.TakeFrames, "StoreView": impl.StoreView, "StoreDo": impl.StoreDo, "StorePlay": impl.StorePlay,
		"BeatsOk": impl.BeatsOk, "Beaten": impl.Beaten, "BeatsMerged": impl.BeatsMerged, "AliveAt": impl.AliveAt, "BeatsPruned": impl.BeatsPruned,
		"RowsOk": impl.RowsOk, "CountsOf": impl.CountsOf, "RowsMerged": impl.RowsMerged, "StableOf": impl.StableOf, "Settled": impl.Settled,
		"RunScript": impl.RunScript,
	}
}

// exportedNames reads the names of the program's functions out of its text.
func exportedNames(t *testing.T) []string {
	t.Helper()
	files, err := filepath.Glob("../impl/*.go")
	if err != nil {
		t.Fatal(err)
	}
	var names []string
	for _, name := range files {
		file, err := parser.ParseFile(token.NewFileSet(), name, nil, parser.SkipObjectResolution)
		if err != nil {
			t.Fatal(err)
		}
		for _, d := range file.Decls {
			if f, ok := d.(*ast.FuncDecl); ok && f.Recv == nil && f.Name.IsExported() {
				names = append(names, f.Name.Name)
			}
		}
	}
	return rising(names)
}

// oneOf answers the right one, or now and then one of the wrong ones.
func oneOf[T any](r *rand.Rand, right T, wrong []T) T {
	if r.Intn(6) == 0 {
		return wrong[r.Intn(len(wrong))]
	}
	return right
}

// shortOnes leaves out the lists that are long, which take long to tell.
func shortOnes[T any](lists [][]T) [][]T {
	return slices.DeleteFunc(lists, func(l []T) bool { return len(l) > 50 })
}

// A maker makes arguments. What one call is given hangs together, as far as its one dag, its nodes and its ids go.
type maker struct {
	r          *rand.Rand
	growth     []impl.Node
	stores     []impl.Disk
	wrongDags  [][]impl.Node
	wrongPeers []impl.Peer
}

func newMaker(t *testing.T) *maker {
	return &maker{
		r:          rand.New(rand.NewSource(190)),
		stores:     []impl.Disk{{}, storeOf(t), storeOf(t, adding(1, 1, "x")), storeOf(t, chain(3)...)},
		wrongDags:  shortOnes(wrongDags()),
		wrongPeers: wrongPeers()[:10],
	}
}

// arguments makes those of one call.
func (m *maker) arguments(f reflect.Type) []reflect.Value {
	m.growth = append(randomGrowth(m.r, 8), adding(1, 1, "x"))
	var l []reflect.Value
	for i := range f.NumIn() {
		l = append(l, reflect.ValueOf(m.of(f.In(i))))
	}
	return l
}

func (m *maker) dag() []impl.Node {
	if m.r.Intn(2) == 0 {
		return byId(m.growth...)
	}
	return peerAsTold(someOf(m.r, m.growth)).Dag
}

func (m *maker) node() impl.Node {
	return m.growth[m.r.Intn(len(m.growth))]
}

func (m *maker) ids() []string {
	if m.r.Intn(3) == 0 {
		return randomKnown(m.r, 8)
	}
	ids := idsAsTold(someOf(m.r, m.growth))
	m.r.Shuffle(len(ids), func(i, j int) { ids[i], ids[j] = ids[j], ids[i] })
	return ids
}

func (m *maker) text() string {
	dag := byId(m.growth...)
	if m.r.Intn(2) == 0 {
		return []string{"", "", "x", "k", "a", "b", "base", "log"}[m.r.Intn(8)]
	}
	padded, _ := impl.Padded(strings.Repeat("p", m.r.Intn(210)))
	term, _ := randomTerm(m.r, 12, 5)
	log := logAsTold(m.growth...)
	texts := []string{"some text", term, term, textAsTold(m.node()), dagTextAsTold(dag), padded, log, log[:m.r.Intn(len(log)+1)], script(randomLines(m.r, 12)...)}
	return texts[m.r.Intn(len(texts))]
}

func (m *maker) number() int64 {
	switch m.r.Intn(4) {
	case 0:
		return int64(100 + m.r.Intn(8))
	case 1:
		few := []int64{-1, 0, 9, 10, 30, 31, 60, 61, 99, 199, 200, 201, 1000000, 1000001, math.MinInt64, math.MaxInt64}
		return few[m.r.Intn(len(few))]
	}
	return int64(m.r.Intn(6))
}

// numberList makes the numbers of a row, places that rise, or any few.
func (m *maker) numberList() []int64 {
	switch m.r.Intn(3) {
	case 0:
		return randomNumbers(m.r, 50)
	case 1:
		return places(m.r.Intn(4))
	}
	return []int64{m.number(), m.number()}
}

func (m *maker) disk() impl.Disk {
	if m.r.Intn(2) == 0 {
		return randomDisk(m.r, 8)
	}
	d := m.stores[m.r.Intn(len(m.stores))]
	for range m.r.Intn(4) {
		d, _ = actAsTold(d, randomAct(m.r, d, m.growth))
	}
	return d
}

func (m *maker) acts() []impl.Act {
	var l []impl.Act
	for range m.r.Intn(5) {
		l = append(l, randomAct(m.r, impl.Disk{}, m.growth))
	}
	return l
}

// of makes an argument of that type: mostly a right one, now and then a wrong one.
func (m *maker) of(kind reflect.Type) any {
	r := m.r
	switch kind {
	case reflect.TypeFor[string]():
		return m.text()
	case reflect.TypeFor[int64]():
		return m.number()
	case reflect.TypeFor[[]int64]():
		return m.numberList()
	case reflect.TypeFor[[]string]():
		return m.ids()
	case reflect.TypeFor[[]impl.TNode]():
		s, _ := randomTerm(r, 12, 5)
		l, _ := impl.ReadTerm(s)
		return oneOf(r, l, [][]impl.TNode{nil, {{}}, l[1:]})
	case reflect.TypeFor[[]impl.Epoch]():
		return oneOf(r, randomEpochs(r), wrongEpochs())
	case reflect.TypeFor[impl.Node]():
		return oneOf(r, m.node(), wrongNodes())
	case reflect.TypeFor[[]impl.Node]():
		return oneOf(r, m.dag(), m.wrongDags)
	case reflect.TypeFor[impl.Peer]():
		return oneOf(r, peerAsTold(someOf(r, m.growth)), m.wrongPeers)
	case reflect.TypeFor[[]impl.Commit]():
		return oneOf(r, randomCommits(r, append(someIds(2), idsAsTold(m.growth)...)), shortOnes(wrongCommits()))
	case reflect.TypeFor[[]impl.SOp]():
		return oneOf(r, randomSeq(r, 12), shortOnes(wrongSeqs()))
	case reflect.TypeFor[impl.MEvent]():
		return oneOf(r, member(int64(1+r.Intn(6)), impl.Founder, int64(1+r.Intn(3)), int64(1+r.Intn(5))), wrongEvents())
	case reflect.TypeFor[[]impl.MEvent]():
		return oneOf(r, randomChain(r, 8), shortOnes(wrongChains()))
	case reflect.TypeFor[impl.Box]():
		return oneOf(r, boxAsTold(int64(100+r.Intn(8)), int64(r.Intn(61))), wrongBoxes())
	}
	return m.more(kind)
}

func (m *maker) more(kind reflect.Type) any {
	r := m.r
	switch kind {
	case reflect.TypeFor[impl.Disk]():
		return oneOf(r, m.disk(), wrongDisks()[:6])
	case reflect.TypeFor[impl.DOp]():
		return randomOp(r)
	case reflect.TypeFor[impl.Act]():
		return randomAct(r, impl.Disk{Ops: make([]impl.DOp, r.Intn(3))}, m.growth)
	case reflect.TypeFor[[]impl.Act]():
		return m.acts()
	case reflect.TypeFor[[]impl.Beat]():
		return oneOf(r, randomBeats(r, 12), shortOnes(wrongBeatLists()))
	case reflect.TypeFor[[]impl.Row]():
		return oneOf(r, randomRows(r), shortOnes(wrongRows()))
	}
	panic("no argument of the type " + kind.String())
}

// roomyCopy copies a value, each list of it with spare room behind it in which something stands.
func roomyCopy(v reflect.Value) reflect.Value {
	own := reflect.New(v.Type()).Elem()
	own.Set(v)
	switch v.Kind() {
	case reflect.Struct:
		for i := range v.NumField() {
			own.Field(i).Set(roomyCopy(v.Field(i)))
		}
	case reflect.Slice:
		whole := reflect.MakeSlice(v.Type(), v.Len()+3, v.Len()+3)
		for i := range v.Len() {
			whole.Index(i).Set(roomyCopy(v.Index(i)))
		}
		for i := v.Len(); i < whole.Len(); i++ {
			spoilValue(whole.Index(i))
		}
		own.Set(whole.Slice(0, v.Len()))
	}
	return own
}

// spoilValue writes into a value, and into all lists of it, their spare room too.
func spoilValue(v reflect.Value) {
	switch v.Kind() {
	case reflect.Struct:
		for i := range v.NumField() {
			spoilValue(v.Field(i))
		}
	case reflect.Slice:
		for i := range v.Cap() {
			spoilValue(v.Slice3(0, v.Cap(), v.Cap()).Index(i))
		}
	case reflect.String:
		v.SetString("spoilt")
	case reflect.Int64:
		v.SetInt(-77)
	case reflect.Bool:
		v.SetBool(!v.Bool())
	}
}

// tellWhole tells a value with what stands in the spare room of its lists, or without that.
func tellWhole(text *strings.Builder, v reflect.Value, spare bool) {
	switch v.Kind() {
	case reflect.Struct:
		for i := range v.NumField() {
			tellWhole(text, v.Field(i), spare)
		}
	case reflect.Slice:
		if spare {
			v = v.Slice3(0, v.Cap(), v.Cap())
		}
		text.WriteString("[ ")
		for i := range v.Len() {
			tellWhole(text, v.Index(i), spare)
		}
		text.WriteString("] ")
	case reflect.String:
		text.WriteString(strconv.Quote(v.String()) + " ")
	case reflect.Int64:
		text.WriteString(strconv.FormatInt(v.Int(), 10) + " ")
	case reflect.Bool:
		text.WriteString(strconv.FormatBool(v.Bool()) + " ")
	default:
		panic("no way to tell a " + v.Kind().String())
	}
}

func wholeOf(values []reflect.Value, spare bool) string {
	var text strings.Builder
	for _, v := range values {
		tellWhole(&text, v, spare)
	}
	return text.String()
}

// A stretch is the memory of a list, its spare room too.
type stretch struct {
	begin, end uintptr
}

func stretchesOf(values ...reflect.Value) []stretch {
	var l []stretch
	for _, v := range values {
		switch v.Kind() {
		case reflect.Struct:
			for i := range v.NumField() {
				l = append(l, stretchesOf(v.Field(i))...)
			}
		case reflect.Slice:
			if v.Cap() > 0 {
				l = append(l, stretch{v.Pointer(), v.Pointer() + uintptr(v.Cap())*v.Type().Elem().Size()})
			}
			for i := range v.Len() {
				l = append(l, stretchesOf(v.Index(i))...)
			}
		}
	}
	return l
}

// anyShared tells whether two of these have memory in common.
func anyShared(l []stretch) bool {
	l = slices.Clone(l)
	slices.SortFunc(l, func(a, b stretch) int { return int(a.begin) - int(b.begin) })
	for i := 1; i < len(l); i++ {
		if l[i-1].end > l[i].begin {
			return true
		}
	}
	return false
}

// tellsSome tells whether answers are more than zero values.
func tellsSome(answers []reflect.Value) bool {
	return slices.ContainsFunc(answers, func(v reflect.Value) bool {
		return !v.IsZero() && (v.Kind() != reflect.Slice || v.Len() > 0)
	})
}

// called answers copies that can be written into; their lists are those of the answers.
func called(f reflect.Value, args []reflect.Value) []reflect.Value {
	answers := f.Call(args)
	for i, v := range answers {
		answers[i] = reflect.New(v.Type()).Elem()
		answers[i].Set(v)
	}
	return answers
}

// wantLeftAlone calls a function again and again with the same arguments, and writes into each answer. It tells whether there was one to speak of.
func wantLeftAlone(t *testing.T, name string, f reflect.Value, args []reflect.Value) bool {
	t.Helper()
	before := wholeOf(args, true)
	answers := called(f, args)
	said, some := wholeOf(answers, false), tellsSome(answers)
	for range 2 {
		if anyShared(append(stretchesOf(answers...), stretchesOf(args...)...)) {
			t.Fatalf("%s: %.2000s: an answer shares memory with an argument, or two lists of it do", name, before)
		}
		for _, v := range answers {
			spoilValue(v)
		}
		answers = called(f, args)
		if again := wholeOf(answers, false); again != said {
			t.Fatalf("%s: %.2000s: first %.2000s, then %.2000s", name, before, said, again)
		}
		if wholeOf(args, true) != before {
			t.Fatalf("%s: %.2000s: an argument was changed", name, before)
		}
	}
	return some
}

// TestEveryFunctionLeavesItsArguments asks promise 19 of the functions of all chapters: arguments with something in their spare room are as they were, answers are new memory, and the same arguments, in other memory too, have the same answer.
func TestEveryFunctionLeavesItsArguments(t *testing.T) {
	functions := everyFunction()
	var names []string
	for name := range functions {
		names = append(names, name)
	}
	names = rising(names)
	wantTexts(t, "all functions", names, exportedNames(t)...)
	m := newMaker(t)
	for _, name := range names {
		f := reflect.ValueOf(functions[name])
		some := 0
		for tries := 0; tries < 60 || some < 10 && tries < 2000; tries++ {
			args := m.arguments(f.Type())
			var others []reflect.Value
			for i, v := range args {
				args[i], others = roomyCopy(v), append(others, roomyCopy(v))
			}
			if wantLeftAlone(t, name, f, args) {
				some++
			}
			if wholeOf(f.Call(others), false) != wholeOf(f.Call(args), false) {
				t.Fatalf("%s: %.2000s: another answer in other memory", name, wholeOf(args, false))
			}
		}
		if some < 10 {
			t.Errorf("%s: only %d calls answered more than nothing", name, some)
		}
	}
}
