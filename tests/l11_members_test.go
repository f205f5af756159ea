package tests

import (
	"cmp"
	"fmt"
	"math"
	"math/rand"
	"slices"
	"testing"

	"loop.example/g00318/impl"
)

func member(epoch, author, kind, who int64) impl.MEvent {
	return impl.MEvent{Epoch: epoch, Author: author, Kind: kind, Who: who}
}

func sameEvent(a, b impl.MEvent) bool { return a == b }

// inTurn sorts a copy as a chain asks, each once.
func inTurn(l ...impl.MEvent) []impl.MEvent {
	l = slices.Clone(l)
	slices.SortFunc(l, func(a, b impl.MEvent) int {
		return cmp.Compare(fmt.Sprintf("%02d%d%d%d", a.Epoch, a.Author, a.Kind, a.Who), fmt.Sprintf("%02d%d%d%d", b.Epoch, b.Author, b.Kind, b.Who))
	})
	return slices.Compact(l)
}

// everyEvent answers the first n right events, in turn.
func everyEvent(n int) []impl.MEvent {
	var l []impl.MEvent
	for i := range int64(n) {
		l = append(l, member(1+i/75, 1+i/15%5, 1+i/5%3, 1+i%5))
	}
	return l
}

// randomChain makes many events of few epochs: more of them by the founder, so that some administer.
func randomChain(r *rand.Rand, most int) []impl.MEvent {
	var l []impl.MEvent
	for range r.Intn(most + 1) {
		author := int64(1 + r.Intn(5))
		if r.Intn(3) == 0 {
			author = impl.Founder
		}
		kind := []int64{impl.MvAdd, impl.MvAdd, impl.MvDrop, impl.MvAdmin, impl.MvAdmin}[r.Intn(5)]
		l = append(l, member(int64(1+r.Intn(6)), author, kind, int64(1+r.Intn(5))))
	}
	return inTurn(l...)
}

func goneAsTold(l []impl.MEvent, who, epoch int64) bool {
	return slices.ContainsFunc(l, func(e impl.MEvent) bool {
		return e.Epoch == epoch && e.Kind == impl.MvDrop && e.Who == who && adminAsTold(l, e.Author, epoch-1)
	})
}

// adminAsTold asks backwards whether someone administers: by a telling of that epoch, or from the epoch ahead on.
func adminAsTold(l []impl.MEvent, who, epoch int64) bool {
	if epoch == 0 {
		return who == 1
	}
	return !goneAsTold(l, who, epoch) && (adminAsTold(l, who, epoch-1) || namedAsTold(l, who, epoch, impl.MvAdmin))
}

func memberAsTold(l []impl.MEvent, who, epoch int64) bool {
	if epoch == 0 {
		return who == 1
	}
	return !goneAsTold(l, who, epoch) && (memberAsTold(l, who, epoch-1) || namedAsTold(l, who, epoch, impl.MvAdd) || namedAsTold(l, who, epoch, impl.MvAdmin))
}

// namedAsTold asks whether one who administered ahead of the epoch, and was not dropped in it, tells that.
func namedAsTold(l []impl.MEvent, who, epoch, kind int64) bool {
	return slices.ContainsFunc(l, func(e impl.MEvent) bool {
		return e.Epoch == epoch && e.Kind == kind && e.Who == who && adminAsTold(l, e.Author, epoch-1) && !goneAsTold(l, e.Author, epoch)
	})
}

func rosterAsTold(l []impl.MEvent, epoch int64) impl.Roster {
	var want impl.Roster
	for who := int64(1); who <= 5; who++ {
		if memberAsTold(l, who, epoch) {
			want.Members = append(want.Members, who)
		}
		if adminAsTold(l, who, epoch) {
			want.Admins = append(want.Admins, who)
		}
	}
	return want
}

func sameRoster(a, b impl.Roster) bool {
	return slices.Equal(a.Members, b.Members) && slices.Equal(a.Admins, b.Admins)
}

func rosterAt(t *testing.T, l []impl.MEvent, epoch int64) impl.Roster {
	t.Helper()
	r, ok := impl.RosterAt(l, epoch)
	if !ok {
		t.Fatalf("%v, %d: no roster", l, epoch)
	}
	return r
}

func wantRoster(t *testing.T, l []impl.MEvent, epoch int64, members, admins []int64) {
	t.Helper()
	if got, want := rosterAt(t, l, epoch), (impl.Roster{Members: members, Admins: admins}); !sameRoster(got, want) {
		t.Errorf("%v, %d: got %v, want %v", l, epoch, got, want)
	}
	wantWriters(t, l, epoch, members)
}

// wantWriters asks the beginning of promise 11.
func wantWriters(t *testing.T, l []impl.MEvent, epoch int64, members []int64) {
	t.Helper()
	for _, who := range []int64{math.MinInt64, -1, 0, 1, 2, 3, 4, 5, 6, math.MaxInt64} {
		if got := impl.CanWrite(l, who, epoch); got != slices.Contains(members, who) {
			t.Fatalf("%v, %d: %d may write: %v", l, epoch, who, got)
		}
	}
}

func wantNoRoster(t *testing.T, l []impl.MEvent, epoch int64) {
	t.Helper()
	if r, ok := impl.RosterAt(l, epoch); ok || !sameRoster(r, impl.Roster{}) {
		t.Errorf("%v, %d: got %v, %v", l, epoch, r, ok)
	}
	wantWriters(t, l, epoch, nil)
}

func mergeChains(t *testing.T, a, b []impl.MEvent) []impl.MEvent {
	t.Helper()
	m, ok := impl.ChainMerged(a, b)
	if want := inTurn(slices.Concat(a, b)...); !ok || !slices.Equal(m, want) || !impl.ChainOk(m) {
		t.Fatalf("%v and %v: got %v, %v, want %v", a, b, m, ok, want)
	}
	return m
}

func wantNotMergedChains(t *testing.T, a, b []impl.MEvent) {
	t.Helper()
	if m, ok := impl.ChainMerged(a, b); ok || len(m) != 0 {
		t.Errorf("%v and %v: got %v, %v", a, b, m, ok)
	}
}

func chainWith(t *testing.T, l []impl.MEvent, e impl.MEvent) []impl.MEvent {
	t.Helper()
	m, ok := impl.ChainWith(l, e)
	if want := inTurn(append(slices.Clone(l), e)...); !ok || !slices.Equal(m, want) {
		t.Fatalf("%v with %v: got %v, %v, want %v", l, e, m, ok, want)
	}
	return m
}

func wantNotWith(t *testing.T, l []impl.MEvent, e impl.MEvent) {
	t.Helper()
	if m, ok := impl.ChainWith(l, e); ok || len(m) != 0 {
		t.Errorf("%v with %v: got %v, %v", l, e, m, ok)
	}
}

func wrongEvents() []impl.MEvent {
	l := []impl.MEvent{{}, member(21, 1, 1, 1), member(1, 6, 1, 1), member(1, 1, 4, 1), member(1, 1, 1, 6)}
	for _, number := range []int64{math.MinInt64, -1, 0, math.MaxInt64} {
		l = append(l, member(number, 1, 1, 1), member(1, number, 1, 1), member(1, 1, number, 1), member(1, 1, 1, number))
	}
	return l
}

func wrongChains() [][]impl.MEvent {
	middle := member(2, 2, 2, 2)
	l := [][]impl.MEvent{
		{middle, middle}, {middle, member(1, 3, 3, 3)}, {middle, member(2, 1, 3, 3)}, {middle, member(2, 2, 1, 3)}, {middle, member(2, 2, 2, 1)},
		{member(1, 1, 1, 1), middle, member(2, 2, 2, 1)}, {member(1, 1, 1, 1), middle, middle}, everyEvent(31), slices.Repeat([]impl.MEvent{middle}, 1000),
	}
	for _, e := range wrongEvents() {
		l = append(l, []impl.MEvent{e}, []impl.MEvent{e, middle}, []impl.MEvent{middle, e}, append(everyEvent(29), e))
	}
	return l
}

func TestChainLists(t *testing.T) {
	for _, l := range [][]impl.MEvent{
		nil, {}, {member(1, 1, 1, 1)}, {member(20, 5, 3, 5)}, everyEvent(30), everyEvent(300)[270:],
		{member(1, 5, 3, 5), member(2, 1, 1, 1)}, {member(1, 1, 3, 5), member(1, 2, 1, 1)}, {member(1, 1, 1, 5), member(1, 1, 2, 1)}, {member(1, 1, 1, 1), member(1, 1, 1, 2)},
	} {
		if !impl.ChainOk(l) {
			t.Errorf("%v is refused", l)
		}
	}
	for _, l := range wrongChains() {
		if impl.ChainOk(l) {
			t.Errorf("%v is taken", l)
		}
		for _, epoch := range []int64{0, 1, 20} {
			wantNoRoster(t, l, epoch)
		}
		wantNotMergedChains(t, l, nil)
		wantNotMergedChains(t, nil, l)
		wantNotMergedChains(t, l, l)
		wantNotMergedChains(t, l, []impl.MEvent{member(1, 1, 1, 1)})
		wantNotMergedChains(t, []impl.MEvent{member(1, 1, 1, 1)}, l)
		for epoch := int64(1); epoch <= 20; epoch++ {
			wantNotWith(t, l, member(epoch, 1, 1, 2))
		}
	}
}

// TestChainsOfTwo holds every two of some events against the order that the chapter names.
func TestChainsOfTwo(t *testing.T) {
	var some []impl.MEvent
	for _, epoch := range []int64{1, 9, 10, 20} {
		for n := range int64(27) {
			some = append(some, member(epoch, 1+2*(n/9), 1+n/3%3, 1+2*(n%3)))
		}
	}
	for i, a := range some {
		for j, b := range some {
			if impl.ChainOk([]impl.MEvent{a, b}) != (i < j) {
				t.Fatalf("%v, %v", a, b)
			}
		}
	}
}

func TestRosters(t *testing.T) {
	one := []int64{1}
	for _, epoch := range []int64{0, 1, 20} {
		wantRoster(t, nil, epoch, one, one)
	}
	for _, epoch := range []int64{math.MinInt64, -1, 21, math.MaxInt64} {
		wantNoRoster(t, nil, epoch)
		wantNoRoster(t, everyEvent(30), epoch)
	}
	l := []impl.MEvent{member(1, 1, impl.MvAdd, 2), member(3, 1, impl.MvAdmin, 2), member(3, 1, impl.MvAdmin, 4), member(20, 4, impl.MvDrop, 1)}
	wantRoster(t, l, 0, one, one)
	wantRoster(t, l, 1, []int64{1, 2}, one)
	wantRoster(t, l, 2, []int64{1, 2}, one)
	wantRoster(t, l, 3, []int64{1, 2, 4}, []int64{1, 2, 4})
	wantRoster(t, l, 19, []int64{1, 2, 4}, []int64{1, 2, 4})
	wantRoster(t, l, 20, []int64{2, 4}, []int64{2, 4})
}

// admins is a chain whose members 1, 2 and 3 administer from the epoch 1 on, and whose member 4 does not.
func admins(more ...impl.MEvent) []impl.MEvent {
	return append([]impl.MEvent{member(1, 1, impl.MvAdd, 4), member(1, 1, impl.MvAdmin, 2), member(1, 1, impl.MvAdmin, 3)}, inTurn(more...)...)
}

// TestWhoIsDroppedInTheEpoch has those tell something who are dropped in the same epoch.
func TestWhoIsDroppedInTheEpoch(t *testing.T) {
	// What it adds does not count, neither what stands ahead of its drop nor what stands behind.
	wantRoster(t, admins(member(2, 1, impl.MvDrop, 2), member(2, 2, impl.MvAdd, 5)), 2, []int64{1, 3, 4}, []int64{1, 3})
	wantRoster(t, admins(member(2, 1, impl.MvAdd, 5), member(2, 2, impl.MvDrop, 1)), 2, []int64{2, 3, 4}, []int64{2, 3})
	wantRoster(t, admins(member(2, 1, impl.MvAdmin, 4), member(2, 2, impl.MvDrop, 1)), 2, []int64{2, 3, 4}, []int64{2, 3})
	wantRoster(t, admins(member(2, 1, impl.MvDrop, 2), member(2, 2, impl.MvAdmin, 5)), 2, []int64{1, 3, 4}, []int64{1, 3})
	// Whom it drops is gone.
	wantRoster(t, admins(member(2, 1, impl.MvDrop, 2), member(2, 2, impl.MvDrop, 4)), 2, []int64{1, 3}, []int64{1, 3})
	wantRoster(t, admins(member(2, 1, impl.MvDrop, 4), member(2, 2, impl.MvDrop, 1)), 2, []int64{2, 3}, []int64{2, 3})
	// Two who drop each other are both gone, and so are all in a ring.
	wantRoster(t, admins(member(2, 1, impl.MvDrop, 2), member(2, 2, impl.MvDrop, 1)), 2, []int64{3, 4}, []int64{3})
	wantRoster(t, admins(member(2, 1, impl.MvDrop, 2), member(2, 2, impl.MvDrop, 3), member(2, 3, impl.MvDrop, 1)), 2, []int64{4}, nil)
	// Who drops itself adds nobody.
	wantRoster(t, admins(member(2, 1, impl.MvAdd, 5), member(2, 1, impl.MvDrop, 1)), 2, []int64{2, 3, 4}, []int64{2, 3})
	wantRoster(t, []impl.MEvent{member(1, 1, impl.MvAdd, 2), member(1, 1, impl.MvDrop, 1), member(1, 1, impl.MvAdmin, 3)}, 1, nil, nil)
	// In the next epoch it tells nothing at all.
	wantRoster(t, admins(member(2, 1, impl.MvDrop, 2), member(3, 2, impl.MvAdd, 5), member(3, 2, impl.MvDrop, 1), member(3, 2, impl.MvAdmin, 2)), 3, []int64{1, 3, 4}, []int64{1, 3})
}

// TestADropWins asks the second part of promise 11: whoever adds or drops, and whatever stands first.
func TestADropWins(t *testing.T) {
	for dropper := int64(1); dropper <= 3; dropper++ {
		for adder := int64(1); adder <= 3; adder++ {
			for _, kind := range []int64{impl.MvAdd, impl.MvAdmin} {
				for _, who := range []int64{4, 5} {
					l := admins(member(2, dropper, impl.MvDrop, who), member(2, adder, kind, who))
					wantWriters(t, l, 1, []int64{1, 2, 3, 4})
					wantRoster(t, l, 2, []int64{1, 2, 3, 4}[:3+who-4], []int64{1, 2, 3})
				}
			}
		}
	}
	l := admins(member(2, 3, impl.MvDrop, 2), member(2, 1, impl.MvAdmin, 2), member(3, 1, impl.MvAdd, 2))
	wantRoster(t, l, 2, []int64{1, 3, 4}, []int64{1, 3})
	// Who was dropped may be added later; it does not administer any more.
	wantRoster(t, l, 3, []int64{1, 2, 3, 4}, []int64{1, 3})
}

// TestWhoDoesNotAdminister asks the third part of promise 11 of single tellings.
func TestWhoDoesNotAdminister(t *testing.T) {
	for kind := int64(1); kind <= 3; kind++ {
		for who := int64(1); who <= 5; who++ {
			for _, author := range []int64{4, 5} {
				wantRoster(t, admins(member(2, author, kind, who)), 2, []int64{1, 2, 3, 4}, []int64{1, 2, 3})
			}
			// No author counts that comes to be one in that epoch.
			wantRoster(t, admins(member(2, 1, impl.MvAdmin, 4), member(2, 4, kind, who)), 2, []int64{1, 2, 3, 4}, []int64{1, 2, 3, 4})
		}
	}
	// The one that comes to be one stands ahead of what it tells, and behind.
	wantRoster(t, []impl.MEvent{member(1, 1, impl.MvAdmin, 2), member(1, 2, impl.MvAdmin, 3), member(1, 3, impl.MvAdd, 4)}, 1, []int64{1, 2}, []int64{1, 2})
	wantRoster(t, inTurn(member(1, 1, impl.MvAdmin, 5), member(2, 5, impl.MvAdmin, 2), member(2, 2, impl.MvAdd, 3)), 2, []int64{1, 2, 5}, []int64{1, 2, 5})
	wantRoster(t, inTurn(member(1, 1, impl.MvAdmin, 5), member(2, 5, impl.MvAdmin, 2), member(3, 2, impl.MvAdd, 3)), 3, []int64{1, 2, 3, 5}, []int64{1, 2, 5})
}

// TestRandomRosters holds the rosters of chains against a second working-out, and promise 11 against each of them.
func TestRandomRosters(t *testing.T) {
	r := rand.New(rand.NewSource(110))
	for range 400 {
		l := randomChain(r, 30)
		for epoch := int64(0); epoch <= 7; epoch++ {
			got := rosterAt(t, l, epoch)
			if want := rosterAsTold(l, epoch); !sameRoster(got, want) {
				t.Fatalf("%v, %d: got %v, want %v", l, epoch, got, want)
			}
			wantWriters(t, l, epoch, got.Members)
			wantNothingByOthers(t, l, epoch)
			earlier := slices.DeleteFunc(slices.Clone(l), func(e impl.MEvent) bool { return e.Epoch > epoch })
			if !sameRoster(got, rosterAt(t, earlier, epoch)) {
				t.Fatalf("%v, %d: what is told later changes it", l, epoch)
			}
			for who := int64(1); who <= 5; who++ {
				if epoch > 0 && goneAsTold(l, who, epoch) && slices.Contains(append(got.Members, got.Admins...), who) {
					t.Fatalf("%v, %d: %d is dropped", l, epoch, who)
				}
			}
		}
	}
}

// wantNothingByOthers takes away all that is told by who did not administer in the epoch ahead.
func wantNothingByOthers(t *testing.T, l []impl.MEvent, epoch int64) {
	t.Helper()
	less := slices.DeleteFunc(slices.Clone(l), func(e impl.MEvent) bool {
		return !slices.Contains(rosterAt(t, l, e.Epoch-1).Admins, e.Author)
	})
	if !sameRoster(rosterAt(t, l, epoch), rosterAt(t, less, epoch)) {
		t.Fatalf("%v, %d: not as with %v", l, epoch, less)
	}
}

func TestChainsMerged(t *testing.T) {
	r := rand.New(rand.NewSource(111))
	for range 200 {
		a, b, c := randomChain(r, 10), randomChain(r, 10), randomChain(r, 10)
		ab := mergeChains(t, a, b)
		if !slices.Equal(ab, mergeChains(t, b, a)) || !slices.Equal(mergeChains(t, ab, c), mergeChains(t, mergeChains(t, c, b), a)) || !slices.Equal(mergeChains(t, ab, a), ab) {
			t.Fatalf("%v, %v, %v: in another order", a, b, c)
		}
	}
	mergeChains(t, nil, nil)
	l := everyEvent(31)
	mergeChains(t, l[:30], l[:30])
	mergeChains(t, l[:30], nil)
	mergeChains(t, l[1:16], append(l[:1:1], l[16:30]...))
	mergeChains(t, l[:20], l[10:30])
	wantNotMergedChains(t, l[:30], l[30:])
	wantNotMergedChains(t, l[:15], l[15:])
	wantNotMergedChains(t, l[:20], l[10:])
	mergeChains(t, everyEvent(300)[285:], l[:15])
	wantNotMergedChains(t, everyEvent(300)[285:], l[:16])
}

func TestChainsWithOneMore(t *testing.T) {
	l := chainWith(t, nil, member(1, 1, impl.MvAdmin, 2))
	l = chainWith(t, l, member(3, 2, impl.MvDrop, 1))
	// In the epoch of the last one it comes where it stands in turn.
	l = chainWith(t, l, member(3, 1, impl.MvAdd, 5))
	l = chainWith(t, l, member(3, 2, impl.MvAdd, 3))
	wantRoster(t, l, 3, []int64{2, 3}, []int64{2})
	for _, e := range l[1:] {
		if m := chainWith(t, l, e); len(m) != len(l) {
			t.Errorf("%v: not once", m)
		}
	}
	wantNotWith(t, l, l[0])
	wantNotWith(t, l, member(2, 1, impl.MvAdd, 4))
	wantNotWith(t, l, member(2, 2, impl.MvAdd, 4))
	// The one that was dropped in the epoch 3 may tell something in it still, and no more in the next one.
	chainWith(t, l, member(3, 1, impl.MvAdmin, 4))
	wantNotWith(t, l, member(4, 1, impl.MvAdd, 4))
	chainWith(t, l, member(4, 2, impl.MvAdd, 4))
	chainWith(t, l, member(20, 2, impl.MvAdmin, 2))
	for _, author := range []int64{3, 4, 5} {
		wantNotWith(t, l, member(4, author, impl.MvAdd, 4))
		wantNotWith(t, nil, member(1, author, impl.MvAdd, 4))
	}
	// Who comes to administer in an epoch tells something in the next one.
	l = chainWith(t, l, member(4, 2, impl.MvAdmin, 4))
	wantNotWith(t, l, member(4, 4, impl.MvAdd, 5))
	chainWith(t, l, member(5, 4, impl.MvAdd, 5))
	for _, e := range wrongEvents() {
		wantNotWith(t, nil, e)
		wantNotWith(t, l, e)
	}
}

func TestFullChains(t *testing.T) {
	l := inTurn(append(everyEvent(15), everyEvent(90)[75:]...)...)
	if len(l) != 30 || !impl.ChainOk(l) {
		t.Fatal(l)
	}
	wantNotWith(t, l, member(3, 1, impl.MvAdd, 1))
	// The founder dropped itself.
	short := slices.DeleteFunc(slices.Clone(l), func(e impl.MEvent) bool { return e.Kind == impl.MvDrop && e.Who == 1 })
	short = chainWith(t, short, member(3, 1, impl.MvAdd, 2))
	short = chainWith(t, short, member(20, 1, impl.MvAdd, 2))
	if len(short) != 30 {
		t.Fatal(short)
	}
	wantNotWith(t, short, member(20, 1, impl.MvAdd, 1))
	wantNotWith(t, short, member(20, 1, impl.MvAdd, 3))
	chainWith(t, short, member(20, 1, impl.MvAdd, 2))
}

// TestRandomChainsWithOneMore asks who may tell something, and that no roster ahead of it changes by it.
func TestRandomChainsWithOneMore(t *testing.T) {
	r := rand.New(rand.NewSource(112))
	told := 0
	for range 1500 {
		l := randomChain(r, 8)
		e := member(int64(1+r.Intn(7)), int64(1+r.Intn(5)), int64(1+r.Intn(3)), int64(1+r.Intn(5)))
		if len(l) > 0 && e.Epoch < l[len(l)-1].Epoch || !adminAsTold(l, e.Author, e.Epoch-1) {
			wantNotWith(t, l, e)
			continue
		}
		told++
		m := chainWith(t, l, e)
		for epoch := range e.Epoch {
			if !sameRoster(rosterAt(t, l, epoch), rosterAt(t, m, epoch)) {
				t.Fatalf("%v with %v changes the epoch %d", l, e, epoch)
			}
		}
	}
	if told < 100 {
		t.Error("only", told, "tellings")
	}
}

func TestMembersLeaveTheirArguments(t *testing.T) {
	mark := member(9, 9, 9, 9)
	a, asItWas := roomy(admins(member(2, 1, impl.MvDrop, 2)), mark, sameEvent)
	b, bAsItWas := roomy([]impl.MEvent{member(1, 1, impl.MvAdd, 5), member(3, 1, impl.MvAdd, 5)}, mark, sameEvent)
	for range 2 {
		for _, l := range [][]impl.MEvent{mergeChains(t, a, b), mergeChains(t, a, nil), mergeChains(t, nil, b), chainWith(t, a, a[3]), chainWith(t, a, member(2, 1, impl.MvAdd, 5)), chainWith(t, a, member(3, 3, impl.MvAdd, 5))} {
			clear(l[:cap(l)])
		}
		roster := rosterAt(t, a, 1)
		clear(roster.Members[:cap(roster.Members)])
		if !slices.Equal(roster.Admins, []int64{1, 2, 3}) {
			t.Error("two lists of one answer:", roster)
		}
		clear(roster.Admins[:cap(roster.Admins)])
		wantRoster(t, a, 1, []int64{1, 2, 3, 4}, []int64{1, 2, 3})
		wantNotWith(t, a, member(3, 2, impl.MvAdd, 5))
		wantNotMergedChains(t, a, everyEvent(30))
		if !asItWas() || !bAsItWas() {
			t.Fatal("an argument was changed")
		}
	}
}
