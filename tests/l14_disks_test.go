package tests

import (
	"fmt"
	"maps"
	"math"
	"math/rand"
	"slices"
	"strings"
	"testing"

	"loop.example/g00318/impl"
)

func appendTo(name, data string) impl.DOp {
	return impl.DOp{Kind: impl.DkAppend, Name: name, Data: data}
}

func rename(name, to string) impl.DOp {
	return impl.DOp{Kind: impl.DkRename, Name: name, To: to}
}

func remove(name string) impl.DOp { return impl.DOp{Kind: impl.DkRemove, Name: name} }

// files makes a list of files of names and datas in turn, by rising name.
func files(words ...string) []impl.File {
	m := map[string]string{}
	for i := 0; i < len(words); i += 2 {
		m[words[i]] = words[i+1]
	}
	return filesAsTold(m)
}

// synced is a disk on which both are these files.
func synced(l []impl.File) impl.Disk {
	return impl.Disk{Live: slices.Clone(l), Safe: slices.Clone(l)}
}

// manyFiles makes n files with that much data each.
func manyFiles(n, each int) []impl.File {
	var l []impl.File
	for i := range n {
		l = append(l, impl.File{Name: fmt.Sprintf("f%04d", i), Data: strings.Repeat("d", each)})
	}
	return l
}

func filesAsTold(m map[string]string) []impl.File {
	var l []impl.File
	for _, name := range slices.Sorted(maps.Keys(m)) {
		l = append(l, impl.File{Name: name, Data: m[name]})
	}
	return l
}

func mapOfFiles(l []impl.File) map[string]string {
	m := map[string]string{}
	for _, f := range l {
		m[f.Name] = f.Data
	}
	return m
}

func filesOkAsTold(l []impl.File) bool {
	bytes := 0
	for i, f := range l {
		if f.Name == "" || len(f.Name) > 100 || i > 0 && f.Name <= l[i-1].Name {
			return false
		}
		bytes += len(f.Data)
	}
	return len(l) <= 60 && bytes <= 200000
}

func opFormAsTold(op impl.DOp) bool {
	named := op.Name != "" && len(op.Name) <= 100
	switch op.Kind {
	case 1:
		return named && op.To == ""
	case 2:
		return named && op.To != "" && len(op.To) <= 100 && op.Data == ""
	case 3:
		return named && op.To == "" && op.Data == ""
	}
	return false
}

// opDone does an op on files; false when it finds none.
func opDone(m map[string]string, op impl.DOp) bool {
	old, there := m[op.Name]
	switch op.Kind {
	case 1:
		m[op.Name] = old + op.Data
		return true
	case 2:
		if there && op.To != op.Name {
			m[op.To] = old
			delete(m, op.Name)
		}
	case 3:
		delete(m, op.Name)
	}
	return there
}

func diskOkAsTold(d impl.Disk) bool {
	if !filesOkAsTold(d.Live) || !filesOkAsTold(d.Safe) || len(d.Ops) > 200 {
		return false
	}
	m := mapOfFiles(d.Safe)
	for _, op := range d.Ops {
		if !opFormAsTold(op) || !opDone(m, op) || !filesOkAsTold(filesAsTold(m)) {
			return false
		}
	}
	return slices.Equal(filesAsTold(m), d.Live)
}

func doAsTold(d impl.Disk, op impl.DOp) (impl.Disk, int64) {
	if !diskOkAsTold(d) {
		return impl.Disk{}, impl.DkDisk
	}
	if !opFormAsTold(op) {
		return d, impl.DkForm
	}
	m := mapOfFiles(d.Live)
	if !opDone(m, op) {
		return d, impl.DkNone
	}
	if len(d.Ops) >= 200 || !filesOkAsTold(filesAsTold(m)) {
		return d, impl.DkFull
	}
	return impl.Disk{Live: filesAsTold(m), Safe: d.Safe, Ops: append(slices.Clone(d.Ops), op)}, impl.DkOk
}

// crashAsTold takes a right disk, and places of its Ops that rise.
func crashAsTold(d impl.Disk, keep []int64, torn int64) (impl.Disk, bool) {
	m := mapOfFiles(d.Safe)
	for i, place := range keep {
		op := d.Ops[place]
		if i == len(keep)-1 && op.Kind == impl.DkAppend && int64(len(op.Data)) > torn {
			op.Data = op.Data[:torn]
		}
		opDone(m, op)
	}
	l := filesAsTold(m)
	if !filesOkAsTold(l) {
		return impl.Disk{}, false
	}
	return impl.Disk{Live: l, Safe: l}, true
}

func sameDisk(a, b impl.Disk) bool {
	return slices.Equal(a.Live, b.Live) && slices.Equal(a.Safe, b.Safe) && slices.Equal(a.Ops, b.Ops)
}

func wantDisk(t *testing.T, what string, got, want impl.Disk) {
	t.Helper()
	if !sameDisk(got, want) {
		t.Fatalf("%s: got %s, want %s", what, shortly(got), shortly(want))
	}
}

// do does ops that all are taken.
func do(t *testing.T, d impl.Disk, ops ...impl.DOp) impl.Disk {
	t.Helper()
	for _, op := range ops {
		e, code := impl.Do(d, op)
		if code != impl.DkOk || !impl.DiskOk(e) {
			t.Fatalf("%s: got %d", shortly(op), code)
		}
		d = e
	}
	return d
}

func wantNotDone(t *testing.T, d impl.Disk, op impl.DOp, want int64) {
	t.Helper()
	e, code := impl.Do(d, op)
	if code != want {
		t.Fatalf("%s: got %d, want %d", shortly(op), code, want)
	}
	if want == impl.DkDisk {
		d = impl.Disk{}
	}
	wantDisk(t, "a refused op", e, d)
}

func wantFile(t *testing.T, d impl.Disk, name, want string) {
	t.Helper()
	if data, ok := impl.ReadFile(d, name); !ok || data != want {
		t.Fatalf("%s: file %q: got %.100q, %v, want %.100q", shortly(d), name, data, ok, want)
	}
}

func wantNoFile(t *testing.T, d impl.Disk, name string) {
	t.Helper()
	if data, ok := impl.ReadFile(d, name); ok || data != "" {
		t.Fatalf("%s: file %q: got %.100q, %v", shortly(d), name, data, ok)
	}
}

func crash(t *testing.T, d impl.Disk, keep []int64, torn int64) impl.Disk {
	t.Helper()
	e, ok := impl.Crash(d, keep, torn)
	if !ok || !impl.DiskOk(e) || len(e.Ops) != 0 || !slices.Equal(e.Live, e.Safe) {
		t.Fatalf("%s, %v, %d: got %s, %v", shortly(d), keep, torn, shortly(e), ok)
	}
	return e
}

func wantNoCrash(t *testing.T, d impl.Disk, keep []int64, torn int64) {
	t.Helper()
	if e, ok := impl.Crash(d, keep, torn); ok || !sameDisk(e, impl.Disk{}) {
		t.Fatalf("%s, %v, %d: got %s, %v", shortly(d), keep, torn, shortly(e), ok)
	}
}

func wantReplaced(t *testing.T, d impl.Disk, name, data string, want impl.Disk) {
	t.Helper()
	e, code := impl.Replace(d, name, data)
	if code != impl.DkOk || !impl.DiskOk(e) {
		t.Fatalf("%s, %q: got %d", shortly(d), name, code)
	}
	wantDisk(t, "replaced", e, want)
}

func wantNotReplaced(t *testing.T, d impl.Disk, name, data string, want int64) {
	t.Helper()
	e, code := impl.Replace(d, name, data)
	if code != want {
		t.Fatalf("%s, %q: got %d, want %d", shortly(d), name, code, want)
	}
	if want == impl.DkDisk {
		d = impl.Disk{}
	}
	wantDisk(t, "not replaced", e, d)
}

// everyKeep answers all lists of places below n that rise.
func everyKeep(n int) [][]int64 {
	keeps := [][]int64{nil}
	for place := range int64(n) {
		for _, keep := range slices.Clone(keeps) {
			keeps = append(keeps, append(slices.Clone(keep), place))
		}
	}
	return keeps
}

func places(n int) []int64 {
	var l []int64
	for place := range int64(n) {
		l = append(l, place)
	}
	return l
}

func randomOp(r *rand.Rand) impl.DOp {
	name := func() string { return strings.Fields("a a a b b b c c a.new log ")[r.Intn(10)] }
	switch r.Intn(8) {
	case 0, 1:
		return rename(name(), name())
	case 2:
		return remove(name())
	case 3:
		return impl.DOp{Kind: int64(r.Intn(5)), Name: strings.Repeat("a", r.Intn(2)), To: strings.Repeat("b", r.Intn(2)), Data: strings.Repeat("x", r.Intn(2))}
	}
	return appendTo(name(), strings.Repeat(string(rune('p'+r.Intn(9))), r.Intn(4)))
}

// randomDisk does ops, those that are taken, and syncs now and then.
func randomDisk(r *rand.Rand, ops int) impl.Disk {
	d := synced(files("a", "old", "c", ""))
	for range r.Intn(ops + 1) {
		if e, code := doAsTold(d, randomOp(r)); code == impl.DkOk {
			d = e
		}
		if r.Intn(12) == 0 {
			d = synced(d.Live)
		}
	}
	return d
}

func wrongDisks() []impl.Disk {
	one := files("a", "x")
	long := strings.Repeat("n", 101)
	l := []impl.Disk{
		{Live: one}, {Safe: one}, {Live: one, Safe: files("a", "y")}, {Live: one, Safe: files("b", "x")},
		synced([]impl.File{{Name: "", Data: "x"}}), synced(files(long, "x")), synced(files("a", "", long, "")),
		synced([]impl.File{{Name: "b"}, {Name: "a"}}), synced([]impl.File{{Name: "a"}, {Name: "a"}}), synced([]impl.File{{Name: "a"}, {Name: "c"}, {Name: "b"}}), synced([]impl.File{{Name: "ab"}, {Name: "a"}}), synced([]impl.File{{Name: "\xff"}, {Name: "a"}}),
		synced(manyFiles(61, 0)), synced(files("a", strings.Repeat("x", 200001))), synced(files("a", strings.Repeat("x", 100000), "b", strings.Repeat("x", 100001))),
		{Live: one, Safe: nil, Ops: []impl.DOp{appendTo("a", "y")}},
		{Live: one, Safe: nil, Ops: []impl.DOp{appendTo("a", "x"), appendTo("a", "x")}},
		{Live: one, Safe: one, Ops: []impl.DOp{appendTo("a", "x")}},
		{Live: one, Safe: one, Ops: []impl.DOp{appendTo("b", "")}},
		{Live: one, Safe: one, Ops: []impl.DOp{remove("b")}},
		{Live: one, Safe: one, Ops: []impl.DOp{rename("b", "c")}},
		{Live: one, Safe: one, Ops: []impl.DOp{rename("b", "b")}},
		{Live: one, Safe: files("b", "x"), Ops: []impl.DOp{rename("b", "a"), remove("b")}},
		{Live: one, Safe: one, Ops: []impl.DOp{{}}},
		{Live: one, Safe: one, Ops: []impl.DOp{{Kind: 4, Name: "a"}}},
		{Live: one, Safe: one, Ops: []impl.DOp{{Kind: impl.DkAppend, Name: "a", To: "b"}}},
		{Live: one, Safe: files("b", "x"), Ops: []impl.DOp{{Kind: impl.DkRename, Name: "b", To: "a", Data: "y"}}},
		{Live: one, Safe: files("a", "x", "b", ""), Ops: []impl.DOp{{Kind: impl.DkRemove, Name: "b", To: "c"}}},
		{Live: one, Safe: files("a", "x", "b", ""), Ops: []impl.DOp{{Kind: impl.DkRemove, Name: "b", Data: "c"}}},
		{Live: one, Safe: one, Ops: []impl.DOp{appendTo(long, ""), remove(long)}},
		{Live: one, Safe: one, Ops: []impl.DOp{appendTo("", ""), remove("")}},
		{Live: one, Safe: one, Ops: []impl.DOp{rename("a", long), rename(long, "a")}},
		{Live: one, Safe: one, Ops: slices.Repeat([]impl.DOp{appendTo("a", "")}, 201)},
		// Between two ops there is too much, at the end there is not.
		{Live: one, Safe: one, Ops: []impl.DOp{appendTo("b", strings.Repeat("x", 200000)), remove("b")}},
		{Live: manyFiles(60, 0), Safe: manyFiles(60, 0), Ops: []impl.DOp{appendTo("g", ""), remove("g")}},
	}
	return l
}

func TestDisksThatAreRight(t *testing.T) {
	name := strings.Repeat("n", 100)
	one := files("a", "x")
	right := []impl.Disk{
		{}, {Live: []impl.File{}, Safe: []impl.File{}, Ops: []impl.DOp{}}, synced(one), synced(files("a", "", "aa", "", "b", "")), synced(files("\x00", "\x00", "\xff", "\xff", " ", "\n")), synced(files(name, "x")),
		synced(manyFiles(60, 0)), synced(manyFiles(60, 3333)), synced(files("a", strings.Repeat("x", 200000))), synced(files("a", strings.Repeat("x", 100000), "b", strings.Repeat("x", 100000))),
		{Live: one, Ops: []impl.DOp{appendTo("a", "x")}}, {Live: one, Ops: []impl.DOp{appendTo("a", ""), appendTo("a", "x"), appendTo("a", "")}},
		{Safe: one, Ops: []impl.DOp{remove("a")}}, {Live: one, Safe: one, Ops: []impl.DOp{rename("a", "a")}}, {Live: one, Safe: files("b", "x"), Ops: []impl.DOp{rename("b", "a")}},
		{Live: one, Safe: files("a", "y", "b", "x"), Ops: []impl.DOp{rename("b", "a")}},
		{Live: one, Safe: one, Ops: []impl.DOp{rename("a", name), rename(name, "a")}},
		{Live: one, Safe: one, Ops: slices.Repeat([]impl.DOp{appendTo("a", "")}, 200)},
		{Live: one, Safe: one, Ops: []impl.DOp{appendTo("b", strings.Repeat("x", 199999)), remove("b")}},
		{Live: manyFiles(59, 0), Safe: manyFiles(59, 0), Ops: []impl.DOp{appendTo("g", ""), remove("g")}},
	}
	for i, d := range right {
		if !impl.DiskOk(d) || !diskOkAsTold(d) {
			t.Errorf("%d: %s is not taken", i, shortly(d))
		}
	}
}

func TestWrongDisks(t *testing.T) {
	for i, d := range wrongDisks() {
		if impl.DiskOk(d) || diskOkAsTold(d) {
			t.Errorf("%d: %s is taken", i, shortly(d))
		}
		wantNotDone(t, d, appendTo("a", "x"), impl.DkDisk)
		wantNotDone(t, d, impl.DOp{}, impl.DkDisk)
		wantNotDone(t, d, remove("none"), impl.DkDisk)
		wantDisk(t, "a wrong disk synced", impl.Sync(d), impl.Disk{})
		wantNoCrash(t, d, nil, 0)
		wantNoCrash(t, d, places(len(d.Ops)), 9)
		wantNoFile(t, d, "a")
		wantNotReplaced(t, d, "a", "y", impl.DkDisk)
		wantNotReplaced(t, d, "", "y", impl.DkDisk)
	}
}

// TestDisksChangedAnywhere takes random disks, changes something, and holds DiskOk against a second working-out.
func TestDisksChangedAnywhere(t *testing.T) {
	r := rand.New(rand.NewSource(140))
	wrong := 0
	for range 3000 {
		d := randomDisk(r, 8)
		if !impl.DiskOk(d) {
			t.Fatalf("%v is not taken", d)
		}
		switch l := [][]impl.File{d.Live, d.Safe}[r.Intn(2)]; {
		case len(d.Ops) > 0 && r.Intn(3) == 0:
			d.Ops[r.Intn(len(d.Ops))] = randomOp(r)
		case len(d.Ops) > 0 && r.Intn(2) == 0:
			i := r.Intn(len(d.Ops))
			d.Ops = slices.Delete(d.Ops, i, i+1)
		case len(l) > 0:
			l[r.Intn(len(l))] = impl.File{Name: []string{"a", "b", "c"}[r.Intn(3)], Data: strings.Repeat("p", r.Intn(3))}
		}
		want := diskOkAsTold(d)
		if impl.DiskOk(d) != want {
			t.Fatalf("%v: right is %v", d, want)
		}
		if !want {
			wrong++
		}
	}
	if wrong < 500 {
		t.Error("only", wrong, "wrong ones")
	}
}

// TestWhatIsDoneIsSeen asks a part of promise 14, and all of Do and Sync on random ops.
func TestWhatIsDoneIsSeen(t *testing.T) {
	r := rand.New(rand.NewSource(141))
	var codes [5]int
	for range 300 {
		var d impl.Disk
		for range 40 {
			op := randomOp(r)
			want, wantCode := doAsTold(d, op)
			e, code := impl.Do(d, op)
			if code != wantCode {
				t.Fatalf("%v, %v: got %d, want %d", d, op, code, wantCode)
			}
			codes[code]++
			wantDisk(t, "done", e, want)
			seen := mapOfFiles(want.Live)
			for _, name := range []string{"a", "b", "c", "a.new", "log", "", "none"} {
				if data, there := seen[name]; there {
					wantFile(t, e, name, data)
				} else {
					wantNoFile(t, e, name)
				}
			}
			if d = e; r.Intn(15) == 0 {
				d = impl.Sync(e)
				wantDisk(t, "synced", d, synced(want.Live))
			}
		}
	}
	if codes[impl.DkOk] < 1000 || codes[impl.DkForm] < 100 || codes[impl.DkNone] < 100 {
		t.Error("too few of a code", codes)
	}
}

func TestEachKindOfOp(t *testing.T) {
	d := synced(files("a", "1", "b", "2"))
	for _, c := range []struct {
		op   impl.DOp
		want []impl.File
	}{
		{appendTo("a", "3"), files("a", "13", "b", "2")}, {appendTo("c", "3"), files("a", "1", "b", "2", "c", "3")}, {appendTo("c", ""), files("a", "1", "b", "2", "c", "")}, {appendTo("a", ""), files("a", "1", "b", "2")},
		{rename("a", "b"), files("b", "1")}, {rename("b", "a"), files("a", "2")}, {rename("a", "c"), files("b", "2", "c", "1")}, {rename("a", "a"), files("a", "1", "b", "2")},
		{remove("a"), files("b", "2")}, {remove("b"), files("a", "1")},
	} {
		wantDisk(t, "done", do(t, d, c.op), impl.Disk{Live: c.want, Safe: d.Safe, Ops: []impl.DOp{c.op}})
		wantDisk(t, "synced", impl.Sync(do(t, d, c.op)), synced(c.want))
	}
}

func TestOpsOfNoForm(t *testing.T) {
	long := strings.Repeat("n", 101)
	full := synced(manyFiles(60, 3333))
	ofOps := impl.Disk{Ops: slices.Repeat([]impl.DOp{appendTo("a", ""), remove("a")}, 100)}
	for _, op := range []impl.DOp{
		{}, {Name: "a"}, {Kind: 4, Name: "a"}, {Kind: -1, Name: "a"}, {Kind: math.MaxInt64, Name: "a"}, {Kind: math.MinInt64, Name: "a"}, {Kind: 1<<32 + 1, Name: "a"},
		appendTo("", "x"), appendTo(long, "x"), {Kind: impl.DkAppend, Name: "a", To: "b", Data: "x"}, {Kind: impl.DkAppend, Name: "a", To: "a"},
		rename("", "b"), rename(long, "b"), rename("a", ""), rename("a", long), {Kind: impl.DkRename, Name: "a", To: "b", Data: "x"}, {Kind: impl.DkRename, Name: "a", Data: "x"},
		remove(""), remove(long), {Kind: impl.DkRemove, Name: "a", To: "b"}, {Kind: impl.DkRemove, Name: "a", Data: "x"}, {Kind: impl.DkRemove, Name: "a", To: long},
	} {
		for _, d := range []impl.Disk{{}, synced(files("a", "x", "b", "y")), full, ofOps} {
			wantNotDone(t, d, op, impl.DkForm)
		}
	}
	for _, d := range []impl.Disk{{}, synced(files("a", "x", "b", "y")), full, ofOps} {
		for _, op := range []impl.DOp{remove("c"), remove("aa"), rename("c", "b"), rename("c", "c"), rename(long[1:], "b"), remove("A"), remove("a\x00")} {
			wantNotDone(t, d, op, impl.DkNone)
		}
	}
}

// TestFullDisks meets each limit, and passes it by one.
func TestFullDisks(t *testing.T) {
	name := strings.Repeat("n", 100)
	do(t, impl.Disk{}, appendTo(name, "x"), rename(name, name[1:]+"m"), remove(name[1:]+"m"))
	d := do(t, synced(manyFiles(59, 0)), appendTo("g", ""))
	wantNotDone(t, d, appendTo("h", ""), impl.DkFull)
	wantNotDone(t, impl.Sync(d), appendTo("h", "x"), impl.DkFull)
	do(t, d, appendTo("g", "x"), rename("g", "h"), remove("h"), appendTo("i", ""))
	d = do(t, synced(manyFiles(20, 9999)), appendTo("f0007", strings.Repeat("x", 20)))
	wantNotDone(t, d, appendTo("f0007", "x"), impl.DkFull)
	wantNotDone(t, d, appendTo("f0000", "x"), impl.DkFull)
	wantNotDone(t, d, appendTo("g", "x"), impl.DkFull)
	do(t, d, appendTo("g", ""), appendTo("f0003", ""), rename("f0001", "f0002"), appendTo("h", strings.Repeat("x", 9999)))
	wantNotDone(t, do(t, d, remove("f0001")), appendTo("h", strings.Repeat("x", 10000)), impl.DkFull)
	wantNotDone(t, impl.Disk{}, appendTo("a", strings.Repeat("x", 200001)), impl.DkFull)
	d = do(t, impl.Disk{}, slices.Repeat([]impl.DOp{appendTo("a", "x")}, 199)...)
	for _, op := range []impl.DOp{appendTo("a", ""), rename("a", "a"), remove("a")} {
		e := do(t, d, op)
		wantNotDone(t, e, appendTo("a", ""), impl.DkFull)
		do(t, impl.Sync(e), appendTo("a", ""))
	}
	wantNotDone(t, do(t, d, appendTo("a", "")), rename("a", "a"), impl.DkFull)
	wantNotDone(t, do(t, d, appendTo("a", "")), remove("a"), impl.DkFull)
	wantFile(t, d, "a", strings.Repeat("x", 199))
}

// TestAllOrNothingKept asks the beginning of promise 14.
func TestAllOrNothingKept(t *testing.T) {
	r := rand.New(rand.NewSource(142))
	for range 2000 {
		d := randomDisk(r, 60)
		wantDisk(t, "all kept", crash(t, d, places(len(d.Ops)), int64(4+r.Intn(100))), synced(d.Live))
		wantDisk(t, "none kept", crash(t, d, nil, int64(r.Intn(5))), synced(d.Safe))
	}
	d := do(t, impl.Disk{}, appendTo("a", strings.Repeat("x", 200000)))
	wantDisk(t, "all kept", crash(t, d, []int64{0}, 200000), synced(d.Live))
	wantDisk(t, "all kept", crash(t, d, []int64{0}, math.MaxInt64), synced(d.Live))
	wantDisk(t, "but one byte", crash(t, d, []int64{0}, 199999), synced(files("a", strings.Repeat("x", 199999))))
}

// TestWhateverIsKept holds losses of power against a second working-out.
func TestWhateverIsKept(t *testing.T) {
	r := rand.New(rand.NewSource(143))
	for range 150 {
		d := randomDisk(r, 12)
		for _, keep := range everyKeep(len(d.Ops)) {
			for torn := range int64(5) {
				want, ok := crashAsTold(d, keep, torn)
				if !ok {
					t.Fatal("small disks are never full")
				}
				wantDisk(t, "kept", crash(t, d, keep, torn), want)
			}
		}
	}
}

func TestLossesOfPower(t *testing.T) {
	d := do(t, synced(files("a", "1")), appendTo("b", "23"), rename("b", "c"), remove("a"), appendTo("c", "45"), rename("c", "a"))
	for _, c := range []struct {
		keep []int64
		torn int64
		want []impl.File
	}{
		{nil, 0, files("a", "1")}, {[]int64{0}, 0, files("a", "1", "b", "")}, {[]int64{0}, 1, files("a", "1", "b", "2")}, {[]int64{0}, 2, files("a", "1", "b", "23")}, {[]int64{0}, math.MaxInt64, files("a", "1", "b", "23")},
		{[]int64{1}, 0, files("a", "1")}, {[]int64{4}, 0, files("a", "1")}, {[]int64{2}, 0, nil}, {[]int64{0, 1}, 0, files("a", "1", "c", "23")}, {[]int64{0, 3}, 1, files("a", "1", "b", "23", "c", "4")},
		{[]int64{3, 4}, 0, files("a", "45")}, {[]int64{2, 3}, 0, files("c", "")}, {[]int64{0, 1, 3}, 1, files("a", "1", "c", "234")}, {[]int64{0, 1, 2, 3, 4}, 0, files("a", "2345")},
	} {
		wantDisk(t, fmt.Sprint("kept ", c.keep, c.torn), crash(t, d, c.keep, c.torn), synced(c.want))
	}
	for _, keep := range [][]int64{{-1}, {5}, {0, 5}, {0, 0}, {1, 0}, {0, 2, 1}, {4, 4}, {-1, 0}, {math.MinInt64, 0}, {0, math.MaxInt64}, {1 << 32}, {0, 1, 2, 3, 4, 5}, {0, 1, 2, 3, 4, 4}} {
		wantNoCrash(t, d, keep, 9)
	}
	for _, torn := range []int64{-1, math.MinInt64} {
		wantNoCrash(t, d, nil, torn)
		wantNoCrash(t, d, []int64{0}, torn)
		wantNoCrash(t, d, []int64{1}, torn)
		wantNoCrash(t, impl.Disk{}, nil, torn)
	}
	wantNoCrash(t, impl.Disk{}, []int64{0}, 0)
	wantDisk(t, "nothing", crash(t, impl.Disk{}, nil, 0), impl.Disk{})
}

// TestTooMuchIsKept loses what took files away: the limits are asked at the end alone.
func TestTooMuchIsKept(t *testing.T) {
	whole, half := strings.Repeat("x", 200000), strings.Repeat("x", 100000)
	d := do(t, impl.Disk{}, appendTo("a", half), remove("a"), appendTo("b", half), appendTo("c", half), remove("b"), remove("c"), appendTo("d", "y"))
	wantDisk(t, "met", crash(t, d, []int64{0, 2}, 100000), synced(files("a", half, "b", half)))
	wantNoCrash(t, d, []int64{0, 2, 3}, 100000)
	wantNoCrash(t, d, []int64{0, 2, 3}, 1)
	wantDisk(t, "torn", crash(t, d, []int64{0, 2, 3}, 0), synced(files("a", half, "b", half, "c", "")))
	wantDisk(t, "too much between", crash(t, d, []int64{0, 2, 3, 4}, 0), synced(files("a", half, "c", half)))
	wantNoCrash(t, d, []int64{0, 2, 6}, 1)
	d = do(t, synced(manyFiles(59, 0)), appendTo("g", ""), remove("g"), appendTo("h", ""), remove("h"))
	crash(t, d, []int64{0}, 0)
	wantNoCrash(t, d, []int64{0, 2}, 0)
	crash(t, d, []int64{0, 2, 3}, 0)
	ops := []impl.DOp{}
	for range 100 {
		ops = append(ops, appendTo("a", whole), remove("a"))
	}
	var appends []int64
	for place := int64(0); place < 200; place += 2 {
		appends = append(appends, place)
	}
	d = impl.Disk{Ops: ops}
	wantNoCrash(t, d, appends, 0)
	wantDisk(t, "taken away at last", crash(t, d, append(appends, 199), 0), impl.Disk{})
}

// TestReplacedIsOldOrNew asks the end of promise 14, whichever ops are kept.
func TestReplacedIsOldOrNew(t *testing.T) {
	for _, old := range [][]impl.File{nil, files("f", "old"), files("f", ""), files("e", "1", "f", "old", "g", "2"), files("f.ne", "", "f.new2", "")} {
		for _, data := range []string{"", "n", "new", strings.Repeat("n", 1000)} {
			d := synced(old)
			e, code := impl.Replace(d, "f", data)
			if code != impl.DkOk || !slices.Equal(e.Ops, []impl.DOp{appendTo("f.new", data), rename("f.new", "f")}) {
				t.Fatal(e, code)
			}
			wantFile(t, e, "f", data)
			wantNoFile(t, e, "f.new")
			with := mapOfFiles(old)
			with["f"] = data
			wantDisk(t, "synced", impl.Sync(e), synced(filesAsTold(with)))
			for _, keep := range everyKeep(2) {
				for _, torn := range []int64{0, 1, 2, 3, 4, 999, 1000, math.MaxInt64} {
					left := mapOfFiles(crash(t, e, keep, torn).Live)
					delete(left, "f.new")
					if l := filesAsTold(left); !slices.Equal(l, old) && !slices.Equal(l, filesAsTold(with)) {
						t.Fatalf("%v, %q, %v, %d: got %v", old, data, keep, torn, l)
					}
				}
			}
			wantDisk(t, "both kept", crash(t, e, places(2), 0), synced(filesAsTold(with)))
		}
	}
}

func TestReplaceAmongOthers(t *testing.T) {
	wantReplaced(t, impl.Disk{}, "f", "x", impl.Disk{Live: files("f", "x"), Ops: []impl.DOp{appendTo("f.new", "x"), rename("f.new", "f")}})
	d := synced(files("f", "old", "f.new", "left", "g", "y"))
	ops := []impl.DOp{remove("f.new"), appendTo("f.new", "x"), rename("f.new", "f")}
	wantReplaced(t, d, "f", "x", impl.Disk{Live: files("f", "x", "g", "y"), Safe: d.Safe, Ops: ops})
	e := do(t, d, remove("f.new"))
	wantReplaced(t, e, "f", "x", impl.Disk{Live: files("f", "x", "g", "y"), Safe: d.Safe, Ops: ops})
	e = do(t, impl.Disk{}, appendTo("f.new", "left"))
	wantReplaced(t, e, "f", "", impl.Disk{Live: files("f", ""), Ops: append([]impl.DOp{appendTo("f.new", "left"), remove("f.new")}, appendTo("f.new", ""), rename("f.new", "f"))})
	r := rand.New(rand.NewSource(144))
	for range 500 {
		d, name, data := randomDisk(r, 20), []string{"a", "b", "log", "a.new"}[r.Intn(4)], strings.Repeat("z", r.Intn(3))
		want := d
		for _, op := range []impl.DOp{remove(name + ".new"), appendTo(name+".new", data), rename(name+".new", name)} {
			if with, code := doAsTold(want, op); code == impl.DkOk {
				want = with
			}
		}
		wantReplaced(t, d, name, data, want)
	}
}

func TestReplaceRefused(t *testing.T) {
	d := synced(files("a", "x", ".new", "y"))
	wantNotReplaced(t, d, "", "z", impl.DkForm)
	wantNotReplaced(t, impl.Disk{}, "", "z", impl.DkForm)
	for _, size := range []int{97, 98, 100, 101, 1000} {
		wantNotReplaced(t, d, strings.Repeat("n", size), "z", impl.DkForm)
	}
	name := strings.Repeat("n", 96)
	wantReplaced(t, impl.Disk{}, name, "z", impl.Disk{Live: files(name, "z"), Ops: []impl.DOp{appendTo(name+".new", "z"), rename(name+".new", name)}})
	// The first of the three that is refused is told.
	full := synced(manyFiles(60, 0))
	wantNotReplaced(t, full, "", "z", impl.DkFull)
	wantNotReplaced(t, full, "f0000", "z", impl.DkFull)
	wantNotReplaced(t, full, strings.Repeat("n", 97), "z", impl.DkForm)
	if _, code := impl.Replace(synced(manyFiles(59, 0)), "f0000", "z"); code != impl.DkOk {
		t.Error("room for one more:", code)
	}
	half := strings.Repeat("x", 100000)
	if _, code := impl.Replace(synced(files("a", half)), "a", half); code != impl.DkOk {
		t.Error("the old and the new one have just room:", code)
	}
	wantNotReplaced(t, synced(files("a", half)), "a", half+"x", impl.DkFull)
	if _, code := impl.Replace(synced(files("a", half, "a.new", half)), "a", half); code != impl.DkOk {
		t.Error("what was left makes room:", code)
	}
	for _, left := range []int{0, 1, 2, 3} {
		d := do(t, impl.Disk{}, slices.Repeat([]impl.DOp{appendTo("a", "x")}, 200-left)...)
		if _, code := impl.Replace(d, "a", "z"); (code == impl.DkOk) != (left >= 2) {
			t.Error(left, code)
		}
		e := do(t, impl.Disk{}, slices.Repeat([]impl.DOp{appendTo("a.new", "x")}, 200-left)...)
		if _, code := impl.Replace(e, "a", "z"); (code == impl.DkOk) != (left >= 3) {
			t.Error(left, code)
		}
		if left < 2 {
			wantNotReplaced(t, d, "a", "z", impl.DkFull)
			wantNotReplaced(t, e, "a", "z", impl.DkFull)
		}
	}
}

// TestDisksLeaveTheirArguments asks promise 19 of disks.
func TestDisksLeaveTheirArguments(t *testing.T) {
	d, asItWas := roomyDisk(do(t, synced(files("a", "1", "f.new", "2")), appendTo("b", "3"), rename("a", "c"), appendTo("b", "4")))
	keep, keepAsItWas := roomy([]int64{0, 2}, 77, func(a, b int64) bool { return a == b })
	for range 2 {
		for _, op := range []impl.DOp{appendTo("b", "x"), appendTo("d", "x"), rename("b", "a"), remove("b"), {}, remove("none"), appendTo("b", strings.Repeat("x", 200001))} {
			want, wantCode := doAsTold(d, op)
			e, code := impl.Do(d, op)
			if code != wantCode {
				t.Fatal(op, code)
			}
			wantOwnDisk(t, "done", e, want)
		}
		wantOwnDisk(t, "synced", impl.Sync(d), synced(d.Live))
		left := crash(t, d, keep, 0)
		wantOwnDisk(t, "kept", left, synced(files("a", "1", "b", "3", "f.new", "2")))
		for _, name := range []string{"f", "", "b"} {
			e, code := impl.Replace(d, name, "x")
			if again, codeAgain := impl.Replace(d, name, "x"); code != codeAgain || !sameDisk(e, again) {
				t.Fatal("the same arguments, unlike answers")
			}
			wantOwnDisk(t, "replaced", e, impl.Disk{Live: slices.Clone(e.Live), Safe: d.Safe, Ops: slices.Clone(e.Ops)})
		}
		impl.DiskOk(d)
		impl.ReadFile(d, "b")
		if !asItWas() || !keepAsItWas() {
			t.Fatal("an argument was changed")
		}
	}
}

// roomyDisk answers a copy of d whose lists have spare room, and a look whether all of it is as it was.
func roomyDisk(d impl.Disk) (impl.Disk, func() bool) {
	mark := impl.File{Name: "mark", Data: "mark"}
	sameFile := func(a, b impl.File) bool { return a == b }
	live, liveAsItWas := roomy(d.Live, mark, sameFile)
	safe, safeAsItWas := roomy(d.Safe, mark, sameFile)
	ops, opsAsTheyWere := roomy(d.Ops, remove("mark"), func(a, b impl.DOp) bool { return a == b })
	return impl.Disk{Live: live, Safe: safe, Ops: ops}, func() bool { return liveAsItWas() && safeAsItWas() && opsAsTheyWere() }
}

// wantOwnDisk asks for the disk, and writes into each of its lists and the room behind it, with a look at the others.
func wantOwnDisk(t *testing.T, what string, got, want impl.Disk) {
	t.Helper()
	wantDisk(t, what, got, want)
	clear(got.Live[:cap(got.Live)])
	if !slices.Equal(got.Safe, want.Safe) {
		t.Fatal(what, "Live and Safe share memory")
	}
	clear(got.Safe[:cap(got.Safe)])
	clear(got.Ops[:cap(got.Ops)])
}
