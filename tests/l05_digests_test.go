package tests

import (
	"crypto/sha256"
	"encoding/hex"
	"math/rand"
	"strings"
	"testing"

	"loop.example/g00318/impl"
)

func wantDigest(t *testing.T, s string, want string) {
	t.Helper()
	if got := impl.SumText(s); got != want {
		t.Errorf("SumText of %d bytes %.40q: got %s, want %s", len(s), s, got, want)
	}
	if got := hex.EncodeToString([]byte(impl.Sum(s))); got != want {
		t.Errorf("Sum of %d bytes %.40q: got %s, want %s", len(s), s, got, want)
	}
}

// TestKnownDigests asks promise 5 of digests that are told in the standard and its examples.
func TestKnownDigests(t *testing.T) {
	wantDigest(t, "", "e3b0c44298fc1c149afbf4c8996fb92427ae41e4649b934ca495991b7852b855")
	wantDigest(t, "a", "ca978112ca1bbdcafac231b39a23dc4da786eff8147c4e72b9807785afee48bb")
	wantDigest(t, "abc", "ba7816bf8f01cfea414140de5dae2223b00361a396177a9cb410ff61f20015ad")
	wantDigest(t, "abcdbcdecdefdefgefghfghighijhijkijkljklmklmnlmnomnopnopq", "248d6a61d20638b8e5c026930c3e6039a33ce45964ff2167f6ecedd419db06c1")
	wantDigest(t, "abcdefghbcdefghicdefghijdefghijkefghijklfghijklmghijklmnhijklmnoijklmnopjklmnopqklmnopqrlmnopqrsmnopqrstnopqrstu", "cf5b16a778af8380036ce59e7b0492370b249b11e8f07a51afac45037afee9d1")
	wantDigest(t, strings.Repeat("a", 1000000), "cdc76e5c9914fb9281a1c7e284d73e67f1809a48a497200e046d39ccc7112cd0")
}

func TestDigestsAtEveryLength(t *testing.T) {
	r := rand.New(rand.NewSource(5))
	for n := range 400 {
		s := make([]byte, n)
		r.Read(s)
		for _, text := range []string{string(s), strings.Repeat("\x00", n), strings.Repeat("\xff", n)} {
			sum := sha256.Sum256([]byte(text))
			wantDigest(t, text, hex.EncodeToString(sum[:]))
		}
	}
}

// TestDigestsOfLongTexts has texts whose lengths in bits fill two, three and four bytes.
func TestDigestsOfLongTexts(t *testing.T) {
	for _, n := range []int{8191, 8192, 65535, 65536, 2097151, 2097152, 2097152 + 55, 2097152 + 56, 2097152 + 64} {
		text := strings.Repeat("0123456789\x80", n/11+1)[:n]
		sum := sha256.Sum256([]byte(text))
		wantDigest(t, text, hex.EncodeToString(sum[:]))
	}
}

func TestDigestsForm(t *testing.T) {
	for _, s := range []string{"", "x", strings.Repeat("y", 64), "\x80", "\xff\xfe"} {
		if n := len(impl.Sum(s)); n != 32 {
			t.Errorf("Sum(%q) has %d bytes", s, n)
		}
		text := impl.SumText(s)
		if len(text) != 64 || strings.Trim(text, "0123456789abcdef") != "" {
			t.Errorf("SumText(%q): got %q", s, text)
		}
		if impl.SumText(s) != text {
			t.Errorf("SumText(%q) is another one the second time", s)
		}
	}
}
