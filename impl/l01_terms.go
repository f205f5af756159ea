package impl

import (
	"slices"
	"strconv"
	"strings"
)

const (
	TmAtom  = 1
	TmKey   = 2
	TmProof = 3
	TmHash  = 4
	TmPair  = 5
	TmSeal  = 6
	TmSign  = 7
	MaxTerm = 40
	MaxDeep = 10
	MaxAtom = 999
)

// termLetters has the letter of each kind at the place of its number; no kind has the place 0.
const termLetters = "?akvhpes"

// noTerm is what a reader gives up with.
const noTerm = "no term"

type TNode struct {
	Kind int64
	N    int64
	A    int64
	B    int64
}

// A term is a node with all that stands below it.
type term interface {
	text() string
	// below answers the node's own ones, in order.
	below() []term
}

// A leafTerm is an atom, a key or a proof.
type leafTerm struct {
	kind   int64
	number int64
}

type hashTerm struct {
	of term
}

type pairTerm struct {
	first  term
	second term
}

// A keyedTerm is sealed or signed by a key. The key is only a number here, not a node.
type keyedTerm struct {
	kind int64
	key  int64
	of   term
}

func TermOk(l []TNode) bool {
	_, ok := termOfNodes(l)
	return ok
}

func TermText(l []TNode) string {
	t, ok := termOfNodes(l)
	if !ok {
		return ""
	}
	return t.text()
}

func ReadTerm(s string) ([]TNode, bool) {
	t, ok := termOfText(s)
	if !ok {
		return nil, false
	}
	return withNodes(nil, t), true
}

func PartsOf(s string) []string {
	t, ok := termOfText(s)
	if !ok {
		return nil
	}
	parts := withParts(nil, t)
	slices.Sort(parts)
	return slices.Compact(parts)
}

func (t leafTerm) text() string {
	return letterOf(t.kind) + strconv.FormatInt(t.number, 10)
}

func (t hashTerm) text() string {
	return letterOf(TmHash) + "(" + t.of.text() + ")"
}

func (t pairTerm) text() string {
	return letterOf(TmPair) + "(" + t.first.text() + "," + t.second.text() + ")"
}

func (t keyedTerm) text() string {
	return letterOf(t.kind) + "(" + keyText(t.key) + "," + t.of.text() + ")"
}

func (t leafTerm) below() []term { return nil }

func (t hashTerm) below() []term { return []term{t.of} }

func (t pairTerm) below() []term { return []term{t.first, t.second} }

func (t keyedTerm) below() []term { return []term{t.of} }

func letterOf(kind int64) string {
	return termLetters[kind : kind+1]
}

func keyText(number int64) string {
	return leafTerm{kind: TmKey, number: number}.text()
}

// withParts puts the texts of all of t's nodes behind l.
func withParts(l []string, t term) []string {
	l = append(l, t.text())
	for _, own := range t.below() {
		l = withParts(l, own)
	}
	return l
}

// withNodes puts t's nodes behind l, the whole last.
func withNodes(l []TNode, t term) []TNode {
	switch x := t.(type) {
	case leafTerm:
		l = append(l, TNode{Kind: x.kind, N: x.number})
	case hashTerm:
		l = withNodes(l, x.of)
		l = append(l, TNode{Kind: TmHash, A: lastPlace(l)})
	case pairTerm:
		l = withNodes(l, x.first)
		first := lastPlace(l)
		l = withNodes(l, x.second)
		l = append(l, TNode{Kind: TmPair, A: first, B: lastPlace(l)})
	case keyedTerm:
		l = withNodes(l, x.of)
		l = append(l, TNode{Kind: x.kind, N: x.key, A: lastPlace(l)})
	}
	return l
}

func lastPlace(l []TNode) int64 {
	return int64(len(l)) - 1
}

func termOfNodes(l []TNode) (term, bool) {
	if len(l) < 1 || len(l) > MaxTerm {
		return nil, false
	}
	t, first, ok := termAt(l, lastPlace(l), 1)
	if !ok || first != 0 {
		return nil, false
	}
	return t, true
}

// termAt answers the term of the node at a place, the deep-th from the whole down, and the place where its nodes begin.
// A and B are never used as places: where they are right it is known ahead what they are.
func termAt(l []TNode, place int64, deep int) (term, int64, bool) {
	if place < 0 || deep > MaxDeep || !fieldsOk(l[place]) {
		return nil, 0, false
	}
	n := l[place]
	if n.Kind == TmPair {
		return pairAt(l, place, deep)
	}
	if n.Kind < TmHash {
		return leafTerm{kind: n.Kind, number: n.N}, place, true
	}
	of, first, ok := termAt(l, place-1, deep+1)
	if !ok || n.A != place-1 {
		return nil, 0, false
	}
	if n.Kind == TmHash {
		return hashTerm{of: of}, first, true
	}
	return keyedTerm{kind: n.Kind, key: n.N, of: of}, first, true
}

func pairAt(l []TNode, place int64, deep int) (term, int64, bool) {
	second, middle, ok := termAt(l, place-1, deep+1)
	if !ok || l[place].B != place-1 {
		return nil, 0, false
	}
	first, begin, ok := termAt(l, middle-1, deep+1)
	if !ok || l[place].A != middle-1 {
		return nil, 0, false
	}
	return pairTerm{first: first, second: second}, begin, true
}

// fieldsOk answers whether Kind and N are right, and what the Kind does not name is 0.
func fieldsOk(n TNode) bool {
	numbered := n.N >= 0 && n.N <= MaxAtom
	switch n.Kind {
	case TmAtom, TmKey, TmProof:
		return numbered && n.A == 0 && n.B == 0
	case TmHash:
		return n.N == 0 && n.B == 0
	case TmPair:
		return n.N == 0
	case TmSeal, TmSign:
		return numbered && n.B == 0
	}
	return false
}

// A termReader reads a term's text from its beginning on. It panics with noTerm where the text is none.
type termReader struct {
	text  string
	at    int
	nodes int
}

func termOfText(s string) (t term, ok bool) {
	defer func() {
		if recover() != nil {
			t, ok = nil, false
		}
	}()
	r := termReader{text: s}
	t = r.term(1)
	if r.at != len(s) {
		panic(noTerm)
	}
	return t, true
}

// The limits are asked ahead of reading on, so that no text, however long, leads deep.
func (r *termReader) term(deep int) term {
	r.nodes++
	if r.nodes > MaxTerm || deep > MaxDeep {
		panic(noTerm)
	}
	kind := int64(strings.IndexByte(termLetters, r.next()))
	switch kind {
	case TmAtom, TmKey, TmProof:
		return leafTerm{kind: kind, number: r.number()}
	case TmHash:
		r.skip("(")
		of := r.term(deep + 1)
		r.skip(")")
		return hashTerm{of: of}
	case TmPair:
		r.skip("(")
		first := r.term(deep + 1)
		r.skip(",")
		second := r.term(deep + 1)
		r.skip(")")
		return pairTerm{first: first, second: second}
	case TmSeal, TmSign:
		r.skip("(k")
		key := r.number()
		r.skip(",")
		of := r.term(deep + 1)
		r.skip(")")
		return keyedTerm{kind: kind, key: key, of: of}
	}
	panic(noTerm)
}

func (r *termReader) next() byte {
	if r.at >= len(r.text) {
		panic(noTerm)
	}
	r.at++
	return r.text[r.at-1]
}

func (r *termReader) skip(sign string) {
	if !strings.HasPrefix(r.text[r.at:], sign) {
		panic(noTerm)
	}
	r.at += len(sign)
}

func (r *termReader) number() int64 {
	begin := r.at
	for r.at < len(r.text) && isDigit(r.text[r.at]) {
		r.at++
	}
	n, ok := readDecimal(r.text[begin:r.at])
	if !ok || n > MaxAtom {
		panic(noTerm)
	}
	return n
}

func isDigit(b byte) bool {
	return b >= '0' && b <= '9'
}

// readDecimal answers the number that s is in decimal: ten digits at most, no noughts ahead.
func readDecimal(s string) (int64, bool) {
	if len(s) < 1 || len(s) > 10 || len(s) > 1 && s[0] == '0' {
		return 0, false
	}
	var n int64
	for i := range len(s) {
		if !isDigit(s[i]) {
			return 0, false
		}
		n = 10*n + int64(s[i]-'0')
	}
	return n, true
}
