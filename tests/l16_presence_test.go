package tests

import (
	"fmt"
	"math"
	"math/rand"
	"slices"
	"strings"
	"testing"

	"loop.example/g00318/impl"
)

func beat(who, clock, at int64, text string) impl.Beat {
	return impl.Beat{Who: who, Clock: clock, At: at, Text: text}
}

func sameBeat(a, b impl.Beat) bool { return a == b }

// manyBeats makes n beats, of the Whos from first on.
func manyBeats(first int64, n int) []impl.Beat {
	var l []impl.Beat
	for i := range int64(n) {
		l = append(l, beat(first+i, 1+i%3, 10*i, "x"))
	}
	return l
}

func randomBeat(r *rand.Rand, who int64) impl.Beat {
	return beat(who, int64(1+r.Intn(3)), int64(20*r.Intn(5)+r.Intn(3)), []string{"", "a", "ab", "b", "\xff"}[r.Intn(5)])
}

// randomBeats makes beats of few clocks, times and texts, so that the later one hangs on each of these.
func randomBeats(r *rand.Rand, most int) []impl.Beat {
	var l []impl.Beat
	for who := range int64(most) {
		if r.Intn(2) == 0 {
			l = append(l, randomBeat(r, who+1))
		}
	}
	return l
}

// rankAsTold is a text that is the greater one for the later beat.
func rankAsTold(b impl.Beat) string { return fmt.Sprintf("%07d%07d%s", b.Clock, b.At, b.Text) }

// mergedAsTold asks of each beat whether there is a later one of its Who.
func mergedAsTold(lists ...[]impl.Beat) []impl.Beat {
	all := slices.Concat(lists...)
	last := slices.DeleteFunc(slices.Clone(all), func(b impl.Beat) bool {
		return slices.ContainsFunc(all, func(o impl.Beat) bool { return o.Who == b.Who && rankAsTold(o) > rankAsTold(b) })
	})
	slices.SortFunc(last, func(a, b impl.Beat) int { return int(a.Who - b.Who) })
	return slices.Compact(last)
}

func mergeBeats(t *testing.T, a, b []impl.Beat) []impl.Beat {
	t.Helper()
	m := impl.BeatsMerged(a, b)
	if want := mergedAsTold(a, b); !slices.Equal(m, want) {
		t.Fatalf("%v and %v: got %v, want %v", a, b, m, want)
	}
	return m
}

func wantNotMergedBeats(t *testing.T, a, b []impl.Beat) {
	t.Helper()
	if m := impl.BeatsMerged(a, b); len(m) != 0 {
		t.Errorf("%v and %v: got %v", a, b, m)
	}
}

// beats asks the beginning of promise 16: who beats is there, with one more on its clock; all others are as they were.
func beats(t *testing.T, l []impl.Beat, who, at int64, text string) []impl.Beat {
	t.Helper()
	got, ok := impl.Beaten(l, who, at, text)
	clock := int64(1)
	want := slices.DeleteFunc(slices.Clone(l), func(b impl.Beat) bool {
		if b.Who == who {
			clock = b.Clock + 1
		}
		return b.Who == who
	})
	want = append(want, beat(who, clock, at, text))
	slices.SortFunc(want, func(a, b impl.Beat) int { return int(a.Who - b.Who) })
	if !ok || !slices.Equal(got, want) || !impl.BeatsOk(got) {
		t.Fatalf("%v, %d, %d, %q: got %v, %v, want %v", l, who, at, text, got, ok, want)
	}
	if !slices.Contains(impl.AliveAt(got, at), who) {
		t.Fatalf("%v: %d is not alive at %d", got, who, at)
	}
	return got
}

func wantNotBeaten(t *testing.T, l []impl.Beat, who, at int64, text string) {
	t.Helper()
	if got, ok := impl.Beaten(l, who, at, text); ok || len(got) != 0 {
		t.Errorf("%v, %d, %d, %q: got %v, %v", l, who, at, text, got, ok)
	}
}

func wantAlive(t *testing.T, l []impl.Beat, now int64, want ...int64) {
	t.Helper()
	if got := impl.AliveAt(l, now); !slices.Equal(got, want) {
		t.Errorf("%v at %d: %v are alive, want %v", l, now, got, want)
	}
}

func wantPruned(t *testing.T, l []impl.Beat, now int64, want ...impl.Beat) {
	t.Helper()
	if got := impl.BeatsPruned(l, now); !slices.Equal(got, want) {
		t.Errorf("%v at %d: got %v, want %v", l, now, got, want)
	}
}

func wrongBeats() []impl.Beat {
	l := []impl.Beat{{}, beat(1, 1, 1, longest+"x"), beat(1, 1, 1, strings.Repeat("é", 11)), beat(1, 1, 1, strings.Repeat("\x00", 1000))}
	for _, number := range []int64{math.MinInt64, -1, impl.MaxClock + 1, 1 << 32, math.MaxInt64} {
		l = append(l, beat(number, 1, 1, ""), beat(1, number, 1, ""), beat(1, 1, number, ""))
	}
	return append(l, beat(0, 1, 1, ""), beat(1, 0, 1, ""))
}

func wrongBeatLists() [][]impl.Beat {
	one, two := beat(1, 1, 1, ""), beat(2, 1, 1, "")
	l := [][]impl.Beat{
		{two, one}, {one, one}, {one, beat(1, 2, 1, "")}, {beat(1, 2, 1, ""), one}, {one, two, two}, {one, two, one}, {one, beat(3, 1, 1, ""), two},
		manyBeats(1, 13), manyBeats(1, 1000), append(manyBeats(1, 12), beat(12, 1, 1, "")),
	}
	for _, b := range wrongBeats() {
		l = append(l, []impl.Beat{b}, []impl.Beat{b, two}, []impl.Beat{one, b}, append(manyBeats(2, 11), b), append([]impl.Beat{b}, manyBeats(2, 11)...))
	}
	return l
}

func TestBeatLists(t *testing.T) {
	full := beat(impl.MaxClock, impl.MaxClock, impl.MaxClock, longest)
	for _, l := range [][]impl.Beat{
		nil, {}, {beat(1, 1, 0, "")}, {full}, {beat(1, 1, 0, ""), full}, manyBeats(1, 11), manyBeats(1, 12), manyBeats(impl.MaxClock-11, 12), append(manyBeats(1, 11), full),
		{beat(3, 7, 2, "\x00\n\x7f\x80\xff é")}, {beat(1, 1, 1, strings.Repeat("\xff", impl.MaxText))}, {beat(1, 9, 9, "z"), beat(2, 1, 1, "a"), beat(4, 5, 0, "")},
	} {
		if !impl.BeatsOk(l) {
			t.Errorf("%v is refused", l)
		}
		mergeBeats(t, l, nil)
		mergeBeats(t, nil, l)
		mergeBeats(t, l, l)
	}
	for _, l := range wrongBeatLists() {
		if impl.BeatsOk(l) {
			t.Errorf("%v is taken", l)
		}
		wantNotBeaten(t, l, 1, 1, "x")
		wantNotBeaten(t, l, 50, 1, "x")
		wantNotMergedBeats(t, l, nil)
		wantNotMergedBeats(t, nil, l)
		wantNotMergedBeats(t, l, manyBeats(20, 3))
		wantNotMergedBeats(t, manyBeats(20, 3), l)
		wantAlive(t, l, 1)
		wantPruned(t, l, 1)
	}
}

// TestWhoBeatsIsThere asks the beginning of promise 16.
func TestWhoBeatsIsThere(t *testing.T) {
	l := beats(t, nil, 4, 10, "here")
	l = beats(t, l, 4, 11, "still here")
	l = beats(t, l, 2, 0, "")
	l = beats(t, l, 9, impl.MaxClock, longest)
	// The clock goes on whatever the time and the text are: an earlier time, a lesser text.
	l = beats(t, l, 4, 3, "")
	l = beats(t, l, 4, 3, "")
	if want := []impl.Beat{beat(2, 1, 0, ""), beat(4, 4, 3, ""), beat(9, 1, impl.MaxClock, longest)}; !slices.Equal(l, want) {
		t.Errorf("got %v, want %v", l, want)
	}
	r := rand.New(rand.NewSource(160))
	for range 1000 {
		l := randomBeats(r, 9)
		b := randomBeat(r, int64(1+r.Intn(12)))
		with := beats(t, l, b.Who, b.At, b.Text)
		// What it told before is no later one, so it stays when both are merged.
		if m := mergeBeats(t, l, with); !slices.Equal(m, with) {
			t.Fatalf("%v and %v: got %v", l, with, m)
		}
	}
}

func TestBeatingAtItsLimits(t *testing.T) {
	eleven, twelve := manyBeats(2, 11), manyBeats(2, 12)
	beats(t, eleven, 1, 0, "")
	beats(t, eleven, 13, 0, "")
	beats(t, eleven, impl.MaxClock, impl.MaxClock, longest)
	for _, b := range twelve {
		beats(t, twelve, b.Who, 7, "again")
	}
	wantNotBeaten(t, twelve, 1, 0, "")
	wantNotBeaten(t, twelve, 14, 0, "")
	wantNotBeaten(t, twelve, impl.MaxClock, 0, "")
	late := []impl.Beat{beat(1, impl.MaxClock-1, 5, "a"), beat(2, impl.MaxClock, 5, "a")}
	late = beats(t, late, 1, 5, "a")
	wantNotBeaten(t, late, 1, 6, "b")
	wantNotBeaten(t, late, 2, 6, "b")
	beats(t, late, 3, 6, "b")
	for _, l := range [][]impl.Beat{nil, late, eleven} {
		for _, number := range []int64{math.MinInt64, -1, impl.MaxClock + 1, 1 << 32, math.MaxInt64} {
			wantNotBeaten(t, l, number, 1, "x")
			wantNotBeaten(t, l, 5, number, "x")
		}
		wantNotBeaten(t, l, 0, 1, "x")
		wantNotBeaten(t, l, 5, 1, longest+"x")
		wantNotBeaten(t, l, 5, 1, strings.Repeat("é", 11))
		beats(t, l, 5, 1, strings.Repeat("é", 10))
		beats(t, l, 5, 0, "\x00\n")
	}
}

// TestTheLaterBeat holds every two of some beats of one Who against each other, most of them of one clock.
func TestTheLaterBeat(t *testing.T) {
	texts := []string{"", "\x00", " ", "B", "a", "a\x00", "ab", "b", "z", "\x7f", "\x80", "é", "\xff", longest}
	slices.Sort(texts)
	var all []impl.Beat
	for _, clock := range []int64{1, 2, 10, impl.MaxClock} {
		for _, at := range []int64{0, 1, 9, 10, impl.MaxClock} {
			for _, text := range texts {
				all = append(all, beat(3, clock, at, text))
			}
		}
	}
	// They are made so that each is later than all ahead of it.
	for i, later := range all {
		for _, earlier := range all[:i+1] {
			for _, m := range [][]impl.Beat{impl.BeatsMerged([]impl.Beat{later}, []impl.Beat{earlier}), impl.BeatsMerged([]impl.Beat{earlier}, []impl.Beat{later})} {
				if !slices.Equal(m, []impl.Beat{later}) {
					t.Fatalf("%v and %v: got %v", earlier, later, m)
				}
			}
		}
	}
}

// TestBeatsMerged asks the middle of promise 16: whatever the order, and however often one comes.
func TestBeatsMerged(t *testing.T) {
	r := rand.New(rand.NewSource(161))
	for range 1500 {
		a, b, c := randomBeats(r, 9), randomBeats(r, 9), randomBeats(r, 9)
		ab := mergeBeats(t, a, b)
		want := mergedAsTold(a, b, c)
		for _, m := range [][]impl.Beat{mergeBeats(t, ab, c), mergeBeats(t, c, ab), mergeBeats(t, a, mergeBeats(t, c, b)), mergeBeats(t, mergeBeats(t, c, a), b), mergeBeats(t, mergeBeats(t, ab, c), ab)} {
			if !slices.Equal(m, want) || !impl.BeatsOk(m) {
				t.Fatalf("%v, %v and %v: got %v, want %v", a, b, c, m, want)
			}
		}
		if !slices.Equal(mergeBeats(t, b, a), ab) || !slices.Equal(mergeBeats(t, a, a), a) {
			t.Fatalf("%v and %v: in another order", a, b)
		}
	}
}

// TestManyBeatsMerged has more beats than a right list: they are all told.
func TestManyBeatsMerged(t *testing.T) {
	for _, n := range []int{0, 1, 11, 12} {
		a, b := manyBeats(1, 12), manyBeats(13, n)
		for _, m := range [][]impl.Beat{mergeBeats(t, a, b), mergeBeats(t, b, a)} {
			if len(m) != 12+n || impl.BeatsOk(m) != (n == 0) {
				t.Errorf("%v and %v: got %v", a, b, m)
			}
		}
	}
	var odd, even []impl.Beat
	for i := int64(1); i <= 12; i++ {
		odd, even = append(odd, beat(2*i-1, i, i, "o")), append(even, beat(2*i, i, i, "e"))
	}
	m := mergeBeats(t, even, odd)
	if len(m) != 24 {
		t.Fatal(m)
	}
	wantAlive(t, m, 5)
	wantPruned(t, m, 5)
	wantNotBeaten(t, m, 1, 1, "")
	wantNotMergedBeats(t, m, nil)
}

func TestWhoIsAlive(t *testing.T) {
	l := []impl.Beat{beat(2, 9, 50, "x"), beat(4, 2, 20, "y"), beat(7, 1, 0, ""), beat(8, 3, impl.MaxClock, "z")}
	for _, c := range []struct {
		now   int64
		alive []int64
		kept  []impl.Beat
	}{
		{0, []int64{7}, l}, {19, []int64{7}, l}, {20, []int64{4, 7}, l}, {30, []int64{4, 7}, l}, {31, []int64{4}, []impl.Beat{l[0], l[1], l[3]}},
		{49, []int64{4}, []impl.Beat{l[0], l[1], l[3]}}, {50, []int64{2, 4}, []impl.Beat{l[0], l[1], l[3]}}, {51, []int64{2}, []impl.Beat{l[0], l[3]}},
		{80, []int64{2}, []impl.Beat{l[0], l[3]}}, {81, nil, l[3:]}, {impl.MaxClock - 1, nil, l[3:]}, {impl.MaxClock, []int64{8}, l[3:]},
	} {
		wantAlive(t, l, c.now, c.alive...)
		wantPruned(t, l, c.now, c.kept...)
	}
	for _, now := range []int64{math.MinInt64, -31, -30, -1, impl.MaxClock + 1, impl.MaxClock + 30, math.MaxInt64} {
		wantAlive(t, l, now)
		wantPruned(t, l, now)
		wantAlive(t, nil, now)
		wantPruned(t, nil, now)
	}
	wantAlive(t, nil, 0)
	wantPruned(t, nil, impl.MaxClock)
	wantAlive(t, manyBeats(1, 12), 60, 4, 5, 6, 7)
	wantPruned(t, manyBeats(1, 12), 60, manyBeats(1, 12)[3:]...)
}

// aliveAsTold goes through the times at which a beat lasts, one by one.
func aliveAsTold(l []impl.Beat, now int64) []int64 {
	var alive []int64
	for _, b := range l {
		for at := b.At; at <= b.At+30; at++ {
			if at == now {
				alive = append(alive, b.Who)
			}
		}
	}
	return alive
}

// TestForgettingWhoBeatLongAgo asks the end of promise 16, for that time and for all later ones.
func TestForgettingWhoBeatLongAgo(t *testing.T) {
	r := rand.New(rand.NewSource(162))
	for range 300 {
		l := randomBeats(r, 12)
		now := int64(r.Intn(140))
		kept := impl.BeatsPruned(l, now)
		if !impl.BeatsOk(kept) {
			t.Fatalf("%v at %d: got %v", l, now, kept)
		}
		for _, b := range l {
			gone := b.At+30 < now
			if slices.Contains(kept, b) == gone {
				t.Fatalf("%v at %d: got %v", l, now, kept)
			}
		}
		wantPruned(t, kept, now, kept...)
		for later := now; later < 140; later++ {
			wantAlive(t, l, later, aliveAsTold(l, later)...)
			wantAlive(t, kept, later, aliveAsTold(l, later)...)
		}
	}
}

// TestPresenceLeavesItsArguments asks promise 19 of beats.
func TestPresenceLeavesItsArguments(t *testing.T) {
	mark := beat(99, 99, 99, "mark")
	a, asItWas := roomy([]impl.Beat{beat(1, 2, 3, "a"), beat(3, 1, 40, "b"), beat(5, 1, 41, "c")}, mark, sameBeat)
	b, bAsItWas := roomy([]impl.Beat{beat(2, 2, 3, "a"), beat(3, 1, 40, "c"), beat(5, 1, 40, "z"), beat(7, 1, 1, "")}, mark, sameBeat)
	for range 2 {
		for _, l := range [][]impl.Beat{
			mergeBeats(t, a, b), mergeBeats(t, b, a), mergeBeats(t, a, nil), mergeBeats(t, nil, a), mergeBeats(t, a, a),
			beats(t, a, 1, 9, "x"), beats(t, a, 2, 9, "x"), beats(t, a, 6, 9, "x"), impl.BeatsPruned(a, 0), impl.BeatsPruned(a, 41), impl.BeatsPruned(b, 71),
		} {
			clear(l[:cap(l)])
		}
		alive := impl.AliveAt(a, 41)
		clear(alive[:cap(alive)])
		wantAlive(t, a, 41, 3, 5)
		wantPruned(t, a, 71, a[2])
		wantNotBeaten(t, a, 1, -1, "x")
		if !impl.BeatsOk(a) || !asItWas() || !bAsItWas() {
			t.Fatal("an argument was changed")
		}
	}
}
