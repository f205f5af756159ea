package tests

import (
	"math"
	"math/rand"
	"strings"
	"testing"

	"loop.example/g00318/impl"
)

const longestBody = 200

// doubled finds the least size above n by doubling, without a table.
func doubled(n int64) int64 {
	if n < 0 || n > longestBody {
		return -1
	}
	size := int64(16)
	for size <= n {
		size *= 2
	}
	return size
}

func wantUnpadded(t *testing.T, s string, want string, wantOk bool) {
	t.Helper()
	got, ok := impl.Unpadded(s)
	if got != want || ok != wantOk {
		t.Errorf("Unpadded(%q): got %q, %v, want %q, %v", s, got, ok, want, wantOk)
	}
}

func TestLongestBody(t *testing.T) {
	if impl.MaxBody != longestBody {
		t.Error("got", impl.MaxBody)
	}
}

func TestSizeForTheEdges(t *testing.T) {
	edges := []struct{ n, want int64 }{
		{0, 16}, {1, 16}, {15, 16}, {16, 32}, {17, 32}, {31, 32}, {32, 64}, {63, 64}, {64, 128},
		{127, 128}, {128, 256}, {199, 256}, {200, 256}, {201, -1}, {255, -1}, {256, -1}, {-1, -1},
		{math.MaxInt64, -1}, {math.MinInt64, -1}, {1 << 32, -1}, {1<<32 + 5, -1},
	}
	for _, e := range edges {
		if got := impl.SizeFor(e.n); got != e.want {
			t.Errorf("SizeFor(%d): got %d, want %d", e.n, got, e.want)
		}
	}
	for n := int64(-300); n <= 600; n++ {
		if got, want := impl.SizeFor(n), doubled(n); got != want {
			t.Errorf("SizeFor(%d): got %d, want %d", n, got, want)
		}
	}
}

// bodies are texts of n bytes that are hard to cut: of the marks and the noughts that padding itself is made of.
func bodies(r *rand.Rand, n int) []string {
	mixed := make([]byte, n)
	for i := range mixed {
		mixed[i] = "\x00\x80a\xff"[r.Intn(4)]
	}
	return []string{
		strings.Repeat("a", n), strings.Repeat("\x00", n), strings.Repeat("\x80", n), strings.Repeat("\x80\x00", n)[:n], string(mixed),
	}
}

// TestPaddedComesBack asks promise 4 at every length.
func TestPaddedComesBack(t *testing.T) {
	r := rand.New(rand.NewSource(4))
	for n := range longestBody + 1 {
		for _, body := range bodies(r, n) {
			padded, ok := impl.Padded(body)
			if !ok || int64(len(padded)) != doubled(int64(n)) {
				t.Fatalf("Padded(%q): got %q, %v", body, padded, ok)
			}
			ending := "\x80" + strings.Repeat("\x00", len(padded)-n-1)
			if padded != body+ending {
				t.Fatalf("Padded(%q): got %q", body, padded)
			}
			wantUnpadded(t, padded, body, true)
		}
	}
}

func TestPaddedOfTooLongOnes(t *testing.T) {
	for _, n := range []int{201, 202, 255, 256, 257, 512, 5000} {
		if got, ok := impl.Padded(strings.Repeat("a", n)); ok || got != "" {
			t.Errorf("Padded of %d bytes: got %q, %v", n, got, ok)
		}
	}
}

func TestUnpaddedOfWrongOnes(t *testing.T) {
	noughts := func(n int) string { return strings.Repeat("\x00", n) }
	letters := func(n int) string { return strings.Repeat("a", n) }
	wrong := []string{
		"", "\x00", "\x80", "a", noughts(16), noughts(256), letters(16), "ab\x80", "\x80" + noughts(14), "\x80" + noughts(16),
		// of a size, but another one's
		"\x80" + noughts(31), letters(15) + "\x80" + noughts(16), letters(31) + "\x80" + noughts(32), letters(100) + "\x80" + noughts(155), letters(127) + "\x80" + noughts(128),
		// something else than noughts behind the mark, or no mark
		"ab\x80" + noughts(12) + "a", "ab\x80" + noughts(5) + "a" + noughts(7), "ab\x81" + noughts(13), "ab\x7f" + noughts(13), "ab\x01" + noughts(13),
		// too long a body
		letters(201) + "\x80" + noughts(54), letters(255) + "\x80", letters(255) + "\x80" + noughts(256), letters(300) + "\x80" + noughts(211),
		// no size at all
		letters(15) + "\x80" + noughts(1), letters(7) + "\x80", letters(200) + "\x80" + noughts(54), letters(200) + "\x80" + noughts(56),
	}
	for _, s := range wrong {
		wantUnpadded(t, s, "", false)
	}
}

func TestUnpaddedAtTheEdges(t *testing.T) {
	wantUnpadded(t, strings.Repeat("a", 15)+"\x80", strings.Repeat("a", 15), true)
	wantUnpadded(t, strings.Repeat("\x80", 16), strings.Repeat("\x80", 15), true)
	wantUnpadded(t, strings.Repeat("a", 200)+"\x80"+strings.Repeat("\x00", 55), strings.Repeat("a", 200), true)
	wantUnpadded(t, strings.Repeat("a", 128)+"\x80"+strings.Repeat("\x00", 127), strings.Repeat("a", 128), true)
	wantUnpadded(t, "\x80"+strings.Repeat("\x00", 15), "", true)
}

// searched answers whether some text of s's own beginnings is padded to s.
func searched(s string) (string, bool) {
	for n := range len(s) {
		if n <= longestBody && s == s[:n]+"\x80"+strings.Repeat("\x00", len(s)-n-1) && int64(len(s)) == doubled(int64(n)) {
			return s[:n], true
		}
	}
	return "", false
}

func TestUnpaddedAsSearched(t *testing.T) {
	r := rand.New(rand.NewSource(44))
	found := 0
	for range 20000 {
		n := []int{0, 1, 15, 16, 17, 31, 32, 33, 48, 64, 128, 255, 256, 257, 512}[r.Intn(15)]
		body := r.Intn(n + 1)
		s := []byte(bodies(r, n)[4])
		for i := body; i < n; i++ {
			s[i] = 0
		}
		want, ok := searched(string(s))
		if ok {
			found++
		}
		wantUnpadded(t, string(s), want, ok)
	}
	if found < 500 {
		t.Error("only", found, "could be cut")
	}
}
