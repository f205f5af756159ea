package impl

import (
	"cmp"
	"maps"
	"slices"
)

const MaxKnown = 30

func KnownOk(l []string) bool {
	_, ok := knownTerms(l)
	return ok
}

func Learned(l []string, t string) ([]string, bool) {
	if !KnownOk(l) {
		return nil, false
	}
	with := slices.Clone(l)
	if at, there := slices.BinarySearch(with, t); !there {
		with = slices.Insert(with, at, t)
	}
	if !KnownOk(with) {
		return nil, false
	}
	return with, true
}

func Opened(l []string) []string {
	terms, ok := knownTerms(l)
	if !ok {
		return nil
	}
	return slices.Sorted(maps.Keys(openedOf(terms)))
}

func CanMake(l []string, t string) bool {
	terms, ok := knownTerms(l)
	if !ok {
		return false
	}
	wanted, ok := termOfText(t)
	return ok && canBeMade(openedOf(terms), wanted)
}

// knownTerms answers the terms of l; false when l is not right.
func knownTerms(l []string) ([]term, bool) {
	if len(l) > MaxKnown || !rises(l) {
		return nil, false
	}
	var terms []term
	for _, s := range l {
		t, ok := termOfText(s)
		if !ok {
			return nil, false
		}
		terms = append(terms, t)
	}
	return terms, true
}

func rises[T cmp.Ordered](l []T) bool {
	for i := 1; i < len(l); i++ {
		if l[i-1] >= l[i] {
			return false
		}
	}
	return true
}

// An opening has the texts that are opened so far, and under each key that is not among them what waits for it.
type opening struct {
	texts   map[string]struct{}
	waiting map[int64][]term
}

// openedOf answers the texts of all that is opened of these terms, however many they are.
func openedOf(terms []term) map[string]struct{} {
	o := opening{texts: map[string]struct{}{}, waiting: map[int64][]term{}}
	for _, t := range terms {
		o.take(t)
	}
	return o.texts
}

func (o opening) take(t term) {
	text := t.text()
	if has(o.texts, text) {
		return
	}
	o.texts[text] = struct{}{}
	switch x := t.(type) {
	case leafTerm:
		if x.kind == TmKey {
			o.takeWaiting(x.number)
		}
	case pairTerm:
		o.take(x.first)
		o.take(x.second)
	case keyedTerm:
		if x.kind == TmSign || has(o.texts, keyText(x.key)) {
			o.take(x.of)
		} else {
			o.waiting[x.key] = append(o.waiting[x.key], x.of)
		}
	}
}

// takeWaiting opens what came ahead of its key. Nothing can join the list on the way, as the key is there now.
func (o opening) takeWaiting(key int64) {
	for _, t := range o.waiting[key] {
		o.take(t)
	}
}

func has(texts map[string]struct{}, text string) bool {
	_, there := texts[text]
	return there
}

func canBeMade(opened map[string]struct{}, t term) bool {
	if has(opened, t.text()) {
		return true
	}
	switch x := t.(type) {
	case leafTerm:
		return x.kind != TmKey
	case keyedTerm:
		if !has(opened, keyText(x.key)) {
			return false
		}
	}
	for _, own := range t.below() {
		if !canBeMade(opened, own) {
			return false
		}
	}
	return true
}
