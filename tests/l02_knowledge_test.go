package tests

import (
	"fmt"
	"math/rand"
	"slices"
	"testing"

	"loop.example/g00318/impl"
)

// ownTexts answers the whole node of a term and the texts of its own ones, cut out of its text.
func ownTexts(s string) (impl.TNode, []string) {
	l, _ := impl.ReadTerm(s)
	whole := l[len(l)-1]
	if whole.Kind < impl.TmHash {
		return whole, nil
	}
	inside := s[2 : len(s)-1]
	if whole.Kind == impl.TmHash {
		return whole, []string{inside}
	}
	first, second := cutAtComma(inside)
	if whole.Kind == impl.TmPair {
		return whole, []string{first, second}
	}
	return whole, []string{second}
}

// cutAtComma cuts at the comma that stands in no brackets.
func cutAtComma(s string) (string, string) {
	deep := 0
	for i := range len(s) {
		switch s[i] {
		case '(':
			deep++
		case ')':
			deep--
		case ',':
			if deep == 0 {
				return s[:i], s[i+1:]
			}
		}
	}
	return s, ""
}

// openedAnew opens round by round, until a round brings nothing.
func openedAnew(l []string) []string {
	all := rising(l)
	for {
		more := slices.Clone(all)
		for _, s := range all {
			n, own := ownTexts(s)
			open := n.Kind == impl.TmPair || n.Kind == impl.TmSign
			if n.Kind == impl.TmSeal {
				open = slices.Contains(all, fmt.Sprintf("k%d", n.N))
			}
			if open {
				more = append(more, own...)
			}
		}
		more = rising(more)
		if len(more) == len(all) {
			return all
		}
		all = more
	}
}

func madeAnew(opened []string, s string) bool {
	if _, ok := impl.ReadTerm(s); !ok {
		return false
	}
	n, own := ownTexts(s)
	if slices.Contains(opened, s) || n.Kind == impl.TmAtom || n.Kind == impl.TmProof {
		return true
	}
	if n.Kind == impl.TmKey || n.Kind >= impl.TmSeal && !slices.Contains(opened, fmt.Sprintf("k%d", n.N)) {
		return false
	}
	for _, o := range own {
		if !madeAnew(opened, o) {
			return false
		}
	}
	return true
}

func TestKnownLists(t *testing.T) {
	for _, l := range [][]string{nil, {}, {"a1"}, {"a1", "a10", "a2"}, atoms(30), {"e(k1,a1)", "k1"}} {
		if !impl.KnownOk(l) {
			t.Errorf("%q is refused", l)
		}
	}
	for _, l := range [][]string{atoms(31), {""}, {"x"}, {"a1", "a1"}, {"a2", "a10"}, {"k1", "a1"}, {"a1", "a2 "}, {"a1", "b", "k1"}, {hashes(10, "a1")}} {
		if impl.KnownOk(l) {
			t.Errorf("%q is taken", l)
		}
		if m, ok := impl.Learned(l, "a1"); ok || len(m) != 0 {
			t.Errorf("Learned(%q): %q %v", l, m, ok)
		}
		if impl.CanMake(l, "a1") || len(impl.Opened(l)) != 0 {
			t.Errorf("%q: %q", l, impl.Opened(l))
		}
	}
}

func TestLearned(t *testing.T) {
	for _, c := range []struct {
		l    []string
		s    string
		want []string
	}{
		{nil, "k1", []string{"k1"}},
		{[]string{"a1", "k1"}, "a10", []string{"a1", "a10", "k1"}},
		{[]string{"a1", "k1"}, "a0", []string{"a0", "a1", "k1"}},
		{[]string{"a1", "k1"}, "v0", []string{"a1", "k1", "v0"}},
		{[]string{"a1", "k1"}, "k1", []string{"a1", "k1"}},
		{atoms(29), "v1", append(atoms(29), "v1")},
		{atoms(30), "a29", atoms(30)},
	} {
		got, ok := impl.Learned(c.l, c.s)
		if !ok || !slices.Equal(got, c.want) {
			t.Errorf("Learned(%q, %q): %q %v", c.l, c.s, got, ok)
		}
	}
	for _, s := range []string{"", "x", "a01", "a1000", hashes(10, "a1")} {
		if got, ok := impl.Learned([]string{"a1"}, s); ok || len(got) != 0 {
			t.Errorf("%q: %q", s, got)
		}
	}
	if got, ok := impl.Learned(atoms(30), "v1"); ok || len(got) != 0 {
		t.Errorf("a thirty-first: %q", got)
	}
}

func TestOpenedByKeysThatComeLater(t *testing.T) {
	wantTexts(t, "nothing", impl.Opened(nil))
	wantTexts(t, "key behind its seal", impl.Opened([]string{"e(k1,k2)", "k1"}), "e(k1,k2)", "k1", "k2")
	wantTexts(t, "chain against the order", impl.Opened([]string{"e(k1,v9)", "e(k2,k1)", "e(k3,k2)", "k3"}), "e(k1,v9)", "e(k2,k1)", "e(k3,k2)", "k1", "k2", "k3", "v9")
	wantTexts(t, "a key in its own seal", impl.Opened([]string{"e(k1,k1)"}), "e(k1,k1)")
	wantTexts(t, "two keys in each other's", impl.Opened([]string{"e(k1,k2)", "e(k2,k1)"}), "e(k1,k2)", "e(k2,k1)")
	wantTexts(t, "key beside the seal", impl.Opened([]string{"p(e(k1,a1),k1)"}), "a1", "e(k1,a1)", "k1", "p(e(k1,a1),k1)")
	wantTexts(t, "seal in a seal", impl.Opened([]string{"e(k1,e(k2,v1))", "s(k7,p(k2,k1))"}), "e(k1,e(k2,v1))", "e(k2,v1)", "k1", "k2", "p(k2,k1)", "s(k7,p(k2,k1))", "v1")
	wantTexts(t, "a hash stays shut", impl.Opened([]string{"h(p(k1,a1))"}), "h(p(k1,a1))")
	wantTexts(t, "a key under a hash opens nothing", impl.Opened([]string{"e(k1,k2)", "h(k1)"}), "e(k1,k2)", "h(k1)")
	wantTexts(t, "an atom of that number is no key", impl.Opened([]string{"a1", "e(k1,k2)", "v1"}), "a1", "e(k1,k2)", "v1")
}

func TestOpenedOfLongChains(t *testing.T) {
	var l []string
	for i := range 29 {
		l = append(l, fmt.Sprintf("e(k%d,k%d)", 100+i, 99+i))
	}
	l = append(l, "k128")
	if got := impl.Opened(l); len(got) != 59 || !slices.Contains(got, "k99") || !slices.Equal(got, openedAnew(l)) {
		t.Errorf("%q", got)
	}
}

func TestOpenedIsTheLeast(t *testing.T) {
	r := rand.New(rand.NewSource(5))
	for range 2000 {
		l := randomKnown(r, 10)
		got := impl.Opened(l)
		if !slices.Equal(got, openedAnew(l)) {
			t.Fatalf("Opened(%q): %q, want %q", l, got, openedAnew(l))
		}
		if impl.KnownOk(got) && !slices.Equal(impl.Opened(got), got) {
			t.Fatalf("Opened(%q) opens more: %q", got, impl.Opened(got))
		}
		s, _ := randomTerm(r, 12, 5)
		more, ok := impl.Learned(l, s)
		if !ok {
			t.Fatal(l, s)
		}
		grown := impl.Opened(more)
		for _, o := range got {
			if !slices.Contains(grown, o) {
				t.Fatalf("%q is opened of %q, but not of %q", o, l, more)
			}
		}
	}
}

func TestCanMake(t *testing.T) {
	l := []string{"e(k1,h(k9))", "e(k2,k8)", "h(k7)", "k2", "s(k3,v5)"}
	for s, want := range map[string]bool{
		"a0": true, "v999": true, "a1000": false, "": false, "x": false, "k2": true, "k8": true, "k1": false, "k9": false, "k7": false,
		"h(k7)": true, "h(h(k7))": true, "h(k9)": false, "e(k1,h(k9))": true, "e(k1,a1)": false, "e(k8,a1)": true, "e(k8,k1)": false,
		"s(k3,v5)": true, "s(k3,v6)": false, "s(k2,v6)": true, "p(k2,k8)": true, "p(k2,k1)": false, "p(k1,k2)": false, "h(p(s(k8,e(k2,k8)),a1))": true,
		hashes(9, "a1"): true, hashes(10, "a1"): false,
	} {
		if impl.CanMake(l, s) != want {
			t.Errorf("%q: want %v", s, want)
		}
	}
	if !impl.CanMake(nil, "p(a1,h(v2))") || impl.CanMake(nil, "k0") || impl.CanMake(nil, "e(k0,a1)") {
		t.Error("of nothing")
	}
	r := rand.New(rand.NewSource(6))
	for range 2000 {
		l := randomKnown(r, 10)
		opened := openedAnew(l)
		for range 10 {
			s, _ := randomTerm(r, 10, 4)
			if impl.CanMake(l, s) != madeAnew(opened, s) {
				t.Fatalf("CanMake(%q, %q): %v", l, s, impl.CanMake(l, s))
			}
		}
	}
}

func TestWhatCanBeMadeGivesNothingMore(t *testing.T) {
	r := rand.New(rand.NewSource(7))
	made := 0
	for range 1500 {
		l := randomKnown(r, 8)
		s, _ := randomTerm(r, 8, 4)
		if !impl.CanMake(l, s) {
			continue
		}
		made++
		more, _ := impl.Learned(l, s)
		for range 20 {
			u, _ := randomTerm(r, 8, 4)
			if impl.CanMake(l, u) != impl.CanMake(more, u) {
				t.Fatalf("%q: %q gives %q", l, s, u)
			}
		}
	}
	if made < 100 {
		t.Error("only", made)
	}
}

func TestKeysThatStandNowhere(t *testing.T) {
	r := rand.New(rand.NewSource(8))
	for range 1500 {
		l := randomKnown(r, 8)
		var parts []string
		for _, s := range l {
			parts = append(parts, impl.PartsOf(s)...)
		}
		for k := range 6 {
			key := fmt.Sprintf("k%d", k)
			if slices.Contains(parts, key) {
				continue
			}
			if impl.CanMake(l, key) {
				t.Fatalf("%q: %s", l, key)
			}
			sealed, ok := impl.Learned(l, "e("+key+",p(k77,a1))")
			if !ok || impl.CanMake(sealed, "k77") || impl.CanMake(sealed, "p(k77,a1)") {
				t.Fatalf("%q: what %s seals", l, key)
			}
		}
	}
}

func TestKnowledgeLeavesItsArgument(t *testing.T) {
	given, asItWas := roomy([]string{"e(k1,p(k2,k3))", "k1", "v1"}, "mark", sameText)
	with, _ := impl.Learned(given, "a1")
	same, _ := impl.Learned(given, "k1")
	opened := impl.Opened(given)
	if !impl.CanMake(given, "k3") || !impl.KnownOk(given) {
		t.Error("the answers")
	}
	for _, l := range [][]string{with, same, opened} {
		for i := range l {
			l[i] = "other"
		}
		_ = append(l, "other")
	}
	if !asItWas() {
		t.Error("the argument was changed")
	}
	if !slices.Equal(impl.Opened(given), []string{"e(k1,p(k2,k3))", "k1", "k2", "k3", "p(k2,k3)", "v1"}) {
		t.Error("another answer")
	}
}
