package tests

import (
	"fmt"
	"math"
	"math/rand"
	"slices"
	"strings"
	"testing"

	"loop.example/g00318/impl"
)

// rightByStarts tells anew whether nodes are a right term: by where each node's own ones begin and how high they are.
func rightByStarts(l []impl.TNode) bool {
	if len(l) == 0 || len(l) > 40 {
		return false
	}
	start, high := make([]int64, len(l)), make([]int, len(l))
	for i, n := range l {
		at := int64(i)
		start[i], high[i] = at, 1
		leaf := n.Kind >= 1 && n.Kind <= 3
		numbered := leaf || n.Kind == 6 || n.Kind == 7
		if n.Kind < 1 || n.Kind > 7 || n.N < 0 || n.N > 999 || !numbered && n.N != 0 || leaf && n.A != 0 || n.Kind != 5 && n.B != 0 {
			return false
		}
		if leaf {
			continue
		}
		last := n.A
		if n.Kind == 5 {
			last = n.B
		}
		if i == 0 || last != at-1 {
			return false
		}
		start[i], high[i] = start[last], high[last]+1
		if n.Kind == 5 {
			if start[last] == 0 || n.A != start[last]-1 {
				return false
			}
			start[i], high[i] = start[n.A], max(high[n.A], high[last])+1
		}
	}
	return start[len(l)-1] == 0 && high[len(l)-1] <= 10
}

func checkNodes(t *testing.T, l []impl.TNode) {
	ok := impl.TermOk(l)
	if ok != rightByStarts(l) {
		t.Fatalf("TermOk(%v): got %v", l, ok)
	}
	s := impl.TermText(l)
	if (s != "") != ok {
		t.Fatalf("TermText(%v): got %q", l, s)
	}
	if ok {
		if back, read := impl.ReadTerm(s); !read || !slices.Equal(back, l) {
			t.Fatalf("%v has the text %q, which has %v", l, s, back)
		}
	}
}

func everyNode(kinds, numbers, places []int64) []impl.TNode {
	var l []impl.TNode
	for _, k := range kinds {
		for _, n := range numbers {
			for _, a := range places {
				for _, b := range places {
					l = append(l, impl.TNode{Kind: k, N: n, A: a, B: b})
				}
			}
		}
	}
	return l
}

func TestTermsOfFewNodes(t *testing.T) {
	wide := everyNode([]int64{math.MinInt64, -1, 0, 1, 2, 3, 4, 5, 6, 7, 8, math.MaxInt64}, []int64{-1, 0, 1, 999, 1000}, []int64{math.MinInt64, -1, 0, 1, math.MaxInt64})
	for _, n := range wide {
		checkNodes(t, []impl.TNode{n})
		checkNodes(t, []impl.TNode{{Kind: impl.TmAtom, N: 3}, n})
		checkNodes(t, []impl.TNode{n, {Kind: impl.TmHash}})
		checkNodes(t, []impl.TNode{{Kind: impl.TmAtom}, n, {Kind: impl.TmPair, B: 1}})
	}
	narrow := everyNode([]int64{1, 2, 3, 4, 5, 6, 7}, []int64{0, 1}, []int64{0, 1})
	for _, n := range narrow {
		for _, m := range narrow {
			for _, k := range narrow {
				checkNodes(t, []impl.TNode{n, m, k})
			}
		}
	}
}

func TestTermsWithOneFieldChanged(t *testing.T) {
	r := rand.New(rand.NewSource(1))
	for range 300 {
		s, _ := randomTerm(r, 40, 10)
		l, ok := impl.ReadTerm(s)
		if !ok {
			t.Fatal(s)
		}
		for i := range l {
			for _, d := range []int64{-2, -1, 1, 2} {
				for _, change := range []impl.TNode{{Kind: d}, {N: d}, {A: d}, {B: d}} {
					m := slices.Clone(l)
					m[i] = impl.TNode{Kind: m[i].Kind + change.Kind, N: m[i].N + change.N, A: m[i].A + change.A, B: m[i].B + change.B}
					checkNodes(t, m)
				}
			}
			checkNodes(t, l[:i])
			checkNodes(t, l[i:])
		}
	}
}

func TestTermsComeBackFromTheirTexts(t *testing.T) {
	r := rand.New(rand.NewSource(2))
	for range 5000 {
		s, nodes := randomTerm(r, 40, 10)
		wantTerm(t, s, true)
		l, _ := impl.ReadTerm(s)
		if len(l) != nodes {
			t.Fatalf("%q: %d nodes, want %d", s, len(l), nodes)
		}
		checkNodes(t, l)
	}
	got, _ := impl.ReadTerm("p(e(k12,v0),s(k0,h(k999)))")
	want := []impl.TNode{{Kind: 3}, {Kind: 6, N: 12}, {Kind: 2, N: 999}, {Kind: 4, A: 2}, {Kind: 7, A: 3}, {Kind: 5, A: 1, B: 4}}
	if !slices.Equal(got, want) {
		t.Errorf("got %v, want %v", got, want)
	}
}

func TestTermLimits(t *testing.T) {
	wantTerm(t, "h("+evenPairs(20)+")", true)
	wantTerm(t, evenPairs(21), false)
	wantTerm(t, hashes(9, "a1"), true)
	wantTerm(t, hashes(10, "a1"), false)
	wantTerm(t, "p(a1,"+hashes(8, "a1")+")", true)
	wantTerm(t, "p(a1,"+hashes(9, "a1")+")", false)
	wantTerm(t, "p("+hashes(8, "a1")+",a1)", true)
	wantTerm(t, "p("+hashes(9, "a1")+",a1)", false)
	for _, form := range []string{"a%d", "k%d", "v%d", "e(k%d,a1)", "s(k%d,a1)"} {
		wantTerm(t, fmt.Sprintf(form, 0), true)
		wantTerm(t, fmt.Sprintf(form, 999), true)
		wantTerm(t, fmt.Sprintf(form, 1000), false)
		wantTerm(t, fmt.Sprintf(form, -1), false)
	}
	many, _ := impl.ReadTerm("h(" + evenPairs(20) + ")")
	if len(many) != 40 || !impl.TermOk(many) {
		t.Errorf("%d nodes", len(many))
	}
	many = append(many, impl.TNode{Kind: impl.TmHash, A: 39})
	if impl.TermOk(many) || impl.TermText(many) != "" {
		t.Errorf("%d nodes", len(many))
	}
	deep := []impl.TNode{{Kind: impl.TmAtom}}
	for i := range int64(10) {
		if !impl.TermOk(deep) {
			t.Errorf("%d on a path", len(deep))
		}
		deep = append(deep, impl.TNode{Kind: impl.TmHash, A: i})
	}
	if impl.TermOk(deep) {
		t.Errorf("%d on a path", len(deep))
	}
}

func TestTextsThatAreNoTerms(t *testing.T) {
	for _, s := range []string{
		"", "a", "k", "v", "1", "a01", "a00", "k-1", "a+1", "a1 ", " a1", "A1", "?1", "?", "x(a1)", "h", "h()", "h(", "h(a1", "h(a1))", "h(a1,a2)", "h a1",
		"p(a1)", "p(a1,)", "p(,a1)", "p(a1,a2", "p(a1,a2,a3)", "p(a1, a2)", "p(a1;a2)", "e(a1,a2)", "e(v1,a2)", "e(k1)", "e(k,a1)", "e(k01,a1)", "e(1,a1)",
		"e(k1,a1", "e(h(k1),a1)", "s(k1,)", "s(k1,a1)a1", "a1\n", "a1\x00", "a9999999999", "a12345678901234567890123", "a\xd9\xa1",
	} {
		wantTerm(t, s, false)
		if l := impl.PartsOf(s); len(l) != 0 {
			t.Errorf("PartsOf(%q): %q", s, l)
		}
	}
	for _, s := range []string{"h(", "p(", "e(k1,", "p(a1,", "9"} {
		wantTerm(t, strings.Repeat(s, 300000), false)
		wantTerm(t, "a"+strings.Repeat(s, 300000), false)
	}
}

func TestTextsWithOneByteChanged(t *testing.T) {
	r := rand.New(rand.NewSource(3))
	for range 300 {
		s, _ := randomTerm(r, 20, 6)
		for i := range len(s) + 1 {
			for _, b := range []string{"0", "1", "a", "k", "h", "e", "(", ")", ",", " ", "-", "\x80"} {
				checkText(t, s[:i]+b+s[i:])
				if i < len(s) {
					checkText(t, s[:i]+b+s[i+1:])
				}
			}
			checkText(t, s[:i])
			checkText(t, s[i:])
		}
	}
}

// checkText asks that what is read, is read from its own text alone.
func checkText(t *testing.T, s string) {
	l, ok := impl.ReadTerm(s)
	if ok && (!rightByStarts(l) || impl.TermText(l) != s) || !ok && len(l) != 0 {
		t.Fatalf("ReadTerm(%q): %v, %v, text %q", s, l, ok, impl.TermText(l))
	}
}

func TestParts(t *testing.T) {
	wantTexts(t, "leaf", impl.PartsOf("v3"), "v3")
	wantTexts(t, "the key of a seal is no node", impl.PartsOf("e(k1,a2)"), "a2", "e(k1,a2)")
	wantTexts(t, "each once, by bytes", impl.PartsOf("p(p(a1,a10),p(a1,a2))"), "a1", "a10", "a2", "p(a1,a10)", "p(a1,a2)", "p(p(a1,a10),p(a1,a2))")
	r := rand.New(rand.NewSource(4))
	for range 500 {
		s, _ := randomTerm(r, 40, 10)
		parts := impl.PartsOf(s)
		for _, p := range parts {
			for _, q := range impl.PartsOf(p) {
				if !slices.Contains(parts, q) {
					t.Fatalf("%q, a part of %q, has the part %q", p, s, q)
				}
			}
		}
		if want := rising(partsAnew(s)); !slices.Equal(parts, want) {
			t.Fatalf("PartsOf(%q): %q, want %q", s, parts, want)
		}
	}
}

func partsAnew(s string) []string {
	parts := []string{s}
	_, own := ownTexts(s)
	for _, o := range own {
		parts = append(parts, partsAnew(o)...)
	}
	return parts
}

func TestTermsLeaveTheirArgument(t *testing.T) {
	l, _ := impl.ReadTerm("p(e(k12,v0),s(k0,h(k999)))")
	given, asItWas := roomy(l, impl.TNode{Kind: 77}, func(a, b impl.TNode) bool { return a == b })
	first := impl.TermText(given)
	if !impl.TermOk(given) || impl.TermText(given) != first || !asItWas() {
		t.Error("the argument was changed")
	}
}
