package impl

import (
	"iter"
	"slices"
)

const MaxMembers = 5

const (
	lowestEpochKey  = 100
	highestEpochKey = 199
)

type Epoch struct {
	Key     int64
	Members []int64
}

func EpochsOk(l []Epoch) bool {
	if len(l) > MaxMembers {
		return false
	}
	for i, e := range l {
		if i > 0 && l[i-1].Key >= e.Key || !epochOk(e) {
			return false
		}
	}
	return true
}

func WrapsOf(l []Epoch) []string {
	if !EpochsOk(l) {
		return nil
	}
	var texts []string
	for member, key := range keysByMember(l) {
		texts = append(texts, wrapped(member, key).text())
	}
	slices.Sort(texts)
	return texts
}

func HasKey(l []Epoch, member int64, key int64) bool {
	if !EpochsOk(l) {
		return false
	}
	for m, k := range keysByMember(l) {
		if m == member && k == key {
			return true
		}
	}
	return false
}

func KeysOf(l []Epoch, known []string) []int64 {
	terms, ok := knownTerms(known)
	if !ok || !EpochsOk(l) {
		return nil
	}
	for member, key := range keysByMember(l) {
		terms = append(terms, wrapped(member, key))
	}
	return slices.Collect(keysAmong(l, openedOf(terms)))
}

func epochOk(e Epoch) bool {
	if !epochKeyOk(e.Key) {
		return false
	}
	for _, m := range e.Members {
		if m < 1 || m > MaxMembers {
			return false
		}
	}
	return rises(e.Members)
}

func epochKeyOk(key int64) bool {
	return key >= lowestEpochKey && key <= highestEpochKey
}

// keysByMember goes through each member of each epoch, with the epoch's key.
func keysByMember(l []Epoch) iter.Seq2[int64, int64] {
	return func(yield func(int64, int64) bool) {
		for _, e := range l {
			for _, m := range e.Members {
				if !yield(m, e.Key) {
					return
				}
			}
		}
	}
}

// keysAmong goes through the keys of the epochs that are opened, in the order of the epochs.
func keysAmong(l []Epoch, opened map[string]struct{}) iter.Seq[int64] {
	return func(yield func(int64) bool) {
		for _, e := range l {
			if has(opened, keyText(e.Key)) && !yield(e.Key) {
				return
			}
		}
	}
}

// wrapped answers an epoch's key sealed by the key of a member.
func wrapped(member int64, key int64) term {
	return keyedTerm{kind: TmSeal, key: member, of: leafTerm{kind: TmKey, number: key}}
}
