package hash_test

import (
	"bytes"
	"crypto/sha256"
	"encoding/hex"
	"slices"
	"strings"
	"testing"

	"avowal/api"
	"avowal/hash"
)

// edges are lengths about the ends of blocks, and about where the length finds no room any more.
func edges() []int {
	return []int{0, 1, 2, 3, 4, 5, 54, 55, 56, 57, 62, 63, 64, 65, 118, 119, 120, 121, 127, 128, 129, 183, 184, 191, 192, 193, 1000, 4096}
}

// sample is n bytes, of which neighbours differ, and none stands where a block ends in each block alike.
func sample(n int) []byte {
	b := make([]byte, n)
	for i := range b {
		b[i] = byte(i*i*7 + i*31 + 129)
	}
	return b
}

// cuts are ways to cut n bytes into pieces: the pieces' lengths, whose sum is n.
func cuts(n int) [][]int {
	l := [][]int{{n}, {0, n, 0}, {n / 2, 0, n - n/2}, {n / 3, n - n/3}}
	for _, size := range []int{1, 3, 55, 56, 63, 64, 65, 127, 128, 129} {
		var one []int
		for left := n; left > 0; left -= size {
			one = append(one, min(left, size), 0)
		}
		l = append(l, one)
	}
	return l
}

// withSpare is b with spare room behind it, and the whole of that memory.
func withSpare(b []byte) (front, whole []byte) {
	whole = append(slices.Clone(b), bytes.Repeat([]byte{170}, 64)...)
	return whole[:len(b)], whole
}

func TestSumOfKnownTexts(t *testing.T) { // P2.1: the chapter's examples, and those of FIPS 180-4
	for _, c := range []struct{ text, want string }{
		{"", "e3b0c44298fc1c149afbf4c8996fb92427ae41e4649b934ca495991b7852b855"},
		{"abc", "ba7816bf8f01cfea414140de5dae2223b00361a396177a9cb410ff61f20015ad"},
		{"abcdbcdecdefdefgefghfghighijhijkijkljklmklmnlmnomnopnopq", "248d6a61d20638b8e5c026930c3e6039a33ce45964ff2167f6ecedd419db06c1"},
		{strings.Repeat("a", 1000000), "cdc76e5c9914fb9281a1c7e284d73e67f1809a48a497200e046d39ccc7112cd0"},
	} {
		got := hash.Sum([]byte(c.text))
		if s := hex.EncodeToString(got[:]); s != c.want {
			t.Errorf("Sum of %d bytes: %s, want %s", len(c.text), s, c.want)
		}
	}
	if d := hash.Sum([]byte("abc")); !bytes.Equal(d[:4], []byte{186, 120, 22, 191}) {
		t.Error("abc:", d)
	}
	if d := hash.Sum(nil); !bytes.Equal(d[:4], []byte{227, 176, 196, 66}) || d != hash.Sum([]byte{}) {
		t.Error("nothing:", d)
	}
}

func TestSumOfAllLengths(t *testing.T) { // P2.1: each end of a tail, with and without a block ahead of it
	for n := range 300 {
		b := sample(n)
		if got, want := hash.Sum(b), api.Digest(sha256.Sum256(b)); got != want {
			t.Errorf("%d bytes: %x, want %x", n, got, want)
		}
	}
	for _, n := range edges() { // the padding's own bytes as bytes of the text
		for _, c := range []byte{0, 128, 255} {
			b := bytes.Repeat([]byte{c}, n)
			if got, want := hash.Sum(b), api.Digest(sha256.Sum256(b)); got != want {
				t.Errorf("%d bytes %d: %x, want %x", n, c, got, want)
			}
		}
	}
}

func TestSumCountsAllBytes(t *testing.T) { // P2.1: a length of more than 16, and of more than 24 bits
	for _, n := range []int{8191, 8192, 1<<16 + 7, 1<<21 - 1, 1 << 21, 1<<21 + 3} {
		b := sample(n)
		if got, want := hash.Sum(b), api.Digest(sha256.Sum256(b)); got != want {
			t.Errorf("%d bytes: %x, want %x", n, got, want)
		}
	}
}

func TestNewIsOfNothing(t *testing.T) { // P2.2
	h := hash.New()
	if h == nil {
		t.Fatal("New answers nil")
	}
	if h.Len() != 0 || h.Sum() != hash.Sum(nil) {
		t.Error(h.Len(), h.Sum())
	}
	h.Add(nil)
	h.Add([]byte{})
	if h.Len() != 0 || h.Sum() != hash.Sum(nil) {
		t.Error("behind empty pieces:", h.Len(), h.Sum())
	}
}

func TestPieces(t *testing.T) { // P2.2, P2.3
	for _, n := range edges() {
		b := sample(n)
		for _, cut := range cuts(n) {
			h := hash.New()
			done := 0
			for _, size := range cut {
				h.Add(b[done : done+size])
				done += size
				if h.Len() != done {
					t.Fatalf("%d of %d bytes in pieces %v: Len %d", done, n, cut, h.Len())
				}
			}
			if done != n || h.Sum() != hash.Sum(b) {
				t.Errorf("%d bytes in pieces %v: another sum", n, cut)
			}
		}
	}
}

func TestEachCutInTwo(t *testing.T) { // P2.3
	b := sample(200)
	want := api.Digest(sha256.Sum256(b))
	for i := range len(b) + 1 {
		h := hash.New()
		h.Add(b[:i])
		h.Add(b[i:])
		if h.Sum() != want || h.Len() != len(b) {
			t.Errorf("cut at %d: %x, Len %d", i, h.Sum(), h.Len())
		}
	}
}

func TestSumBetweenPieces(t *testing.T) { // P2.2: Sum changes nothing, and more may be added
	b := sample(260)
	for _, size := range []int{1, 7, 55, 56, 57, 63, 64, 65, 119, 120, 128, 129} {
		h := hash.New()
		for at := 0; at < len(b); at += size {
			end := min(at+size, len(b))
			h.Add(b[at:end])
			want := api.Digest(sha256.Sum256(b[:end]))
			if one, two := h.Sum(), h.Sum(); one != want || two != want {
				t.Errorf("pieces of %d, behind %d: %x, %x, want %x", size, end, one, two, want)
			}
			if h.Len() != end {
				t.Errorf("pieces of %d, behind %d: Len %d", size, end, h.Len())
			}
		}
	}
}

func TestNilAndNotMade(t *testing.T) { // P2.2, R1
	for name, h := range map[string]*hash.Hash{"nil": nil, "new(Hash)": new(hash.Hash), "Hash{}": {}} {
		for _, n := range []int{0, 1, 64, 200} {
			h.Add(sample(n))
			if h.Sum() != (api.Digest{}) || h.Len() != 0 {
				t.Errorf("%s behind %d bytes: %x, %d", name, n, h.Sum(), h.Len())
			}
			if h != nil && *h != (hash.Hash{}) {
				t.Errorf("%s behind %d bytes: something was added", name, n)
			}
		}
	}
}

func TestEachHashIsItsOwn(t *testing.T) { // R3, R4
	one, two := hash.New(), hash.New()
	one.Add([]byte("one, which is longer than a block of sixty-four bytes is, by some."))
	two.Add([]byte("two"))
	if two.Sum() != hash.Sum([]byte("two")) || two.Len() != 3 {
		t.Error("one goes into two")
	}
	if three := hash.New(); three.Sum() != hash.Sum(nil) || three.Len() != 0 {
		t.Error("New is not of nothing behind others")
	}
	copied := *two
	two.Add([]byte(" and more"))
	if copied.Sum() != hash.Sum([]byte("two")) || copied.Len() != 3 {
		t.Error("a copy goes on with what it was copied from")
	}
}

func TestWhatIsHandedInStays(t *testing.T) { // R3
	for _, n := range edges() {
		b, whole := withSpare(sample(n))
		before := slices.Clone(whole)
		h := hash.New()
		h.Add(b)
		h.Add(b[:n/2])
		h.Sum()
		hash.Sum(b)
		if !bytes.Equal(whole, before) {
			t.Errorf("%d bytes: what was handed in is changed", n)
		}
	}
}

func TestBytesChangedBehindAdd(t *testing.T) { // R3: what is handed in is not kept as it is
	for _, n := range edges() {
		b := sample(n)
		want := hash.Sum(b)
		h := hash.New()
		h.Add(b)
		clear(b)
		if h.Sum() != want {
			t.Errorf("%d bytes: changed behind the Add, they change the sum", n)
		}
	}
}

func TestAnswersAreNew(t *testing.T) { // R3
	h := hash.New()
	h.Add([]byte("abc"))
	d := h.Sum()
	clear(d[:])
	e := hash.Sum([]byte("abc"))
	clear(e[:])
	if want := api.Digest(sha256.Sum256([]byte("abc"))); h.Sum() != want || hash.Sum([]byte("abc")) != want {
		t.Error("an answer that is changed changes the next one")
	}
}

func FuzzPieces(f *testing.F) { // P2.1 to P2.3
	f.Add([]byte("abc"), 1, 2)
	f.Add(sample(130), 64, 0)
	f.Fuzz(func(t *testing.T, b []byte, i, j int) {
		i = min(max(i, 0), len(b))
		j = min(max(j, i), len(b))
		h := hash.New()
		h.Add(b[:i])
		h.Sum()
		h.Add(b[i:j])
		h.Add(b[j:])
		want := api.Digest(sha256.Sum256(b))
		if h.Sum() != want || hash.Sum(b) != want || h.Len() != len(b) {
			t.Errorf("%x, %x, want %x; Len %d of %d", h.Sum(), hash.Sum(b), want, h.Len(), len(b))
		}
	})
}
