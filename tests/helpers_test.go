package tests

import (
	"fmt"
	"math/rand"
	"slices"
	"strings"
	"testing"

	"loop.example/g00318/impl"
)

// randomTerm makes a term's text of at most room nodes and deep nodes on a path, of few numbers, so that parts meet.
func randomTerm(r *rand.Rand, room, deep int) (string, int) {
	number := r.Intn(5)
	kind := r.Intn(10)
	if room < 2 || deep < 2 {
		kind = r.Intn(5)
	}
	switch {
	case kind == 0:
		return fmt.Sprintf("a%d", number), 1
	case kind == 1:
		return fmt.Sprintf("v%d", number), 1
	case kind < 5:
		return fmt.Sprintf("k%d", number), 1
	case kind == 5:
		s, n := randomTerm(r, room-1, deep-1)
		return "h(" + s + ")", n + 1
	case kind < 8 && room > 2:
		s, n := randomTerm(r, room-2, deep-1)
		t, m := randomTerm(r, room-1-n, deep-1)
		return "p(" + s + "," + t + ")", n + m + 1
	case kind == 8:
		s, n := randomTerm(r, room-1, deep-1)
		return fmt.Sprintf("s(k%d,%s)", number, s), n + 1
	}
	s, n := randomTerm(r, room-1, deep-1)
	return fmt.Sprintf("e(k%d,%s)", number, s), n + 1
}

// rising sorts a copy, each once.
func rising(l []string) []string {
	l = slices.Clone(l)
	slices.Sort(l)
	return slices.Compact(l)
}

// randomKnown makes at most most texts that rise.
func randomKnown(r *rand.Rand, most int) []string {
	var l []string
	for range r.Intn(most + 1) {
		s, _ := randomTerm(r, 12, 5)
		l = append(l, s)
	}
	return rising(l)
}

// roomy answers a copy of l with spare room that holds mark, and a look whether all of it is as it was.
func roomy[T any](l []T, mark T, alike func(a, b T) bool) ([]T, func() bool) {
	whole := append(slices.Clone(l), mark, mark, mark)
	before := slices.Clone(whole)
	return whole[:len(l)], func() bool { return slices.EqualFunc(whole, before, alike) }
}

// shortly tells a value that may be too long to be told whole.
func shortly(v any) string {
	return fmt.Sprintf("%.800q", fmt.Sprintf("%+v", v))
}

func sameText(a, b string) bool { return a == b }

func atoms(n int) []string {
	var l []string
	for i := range n {
		l = append(l, fmt.Sprintf("a%d", i))
	}
	return rising(l)
}

func hashes(n int, s string) string {
	return strings.Repeat("h(", n) + s + strings.Repeat(")", n)
}

// evenPairs makes a flat term of n leaves, thus of 2n-1 nodes.
func evenPairs(n int) string {
	if n == 1 {
		return "a7"
	}
	return "p(" + evenPairs(n/2) + "," + evenPairs(n-n/2) + ")"
}

func wantTexts(t *testing.T, what string, got []string, want ...string) {
	t.Helper()
	if !slices.Equal(got, want) {
		t.Errorf("%s: got %q, want %q", what, got, want)
	}
}

func wantTerm(t *testing.T, s string, want bool) {
	t.Helper()
	l, ok := impl.ReadTerm(s)
	if ok != want {
		t.Errorf("ReadTerm(%.100q): got %v, want %v", s, ok, want)
	}
	if !ok && len(l) != 0 {
		t.Errorf("ReadTerm(%.100q): false with %v", s, l)
	}
	if ok && (!impl.TermOk(l) || impl.TermText(l) != s) {
		t.Errorf("ReadTerm(%.100q): %v has the text %q", s, l, impl.TermText(l))
	}
}
