package mac_test

import (
	"bytes"
	"crypto/hmac"
	"crypto/sha256"
	"encoding/hex"
	"math"
	"slices"
	"strings"
	"testing"

	"avowal/api"
	"avowal/hash"
	"avowal/mac"
	"avowal/pack"
)

// sample is n bytes, of which neighbours differ; none of them is 0 at the end.
func sample(n int) []byte {
	b := make([]byte, n)
	for i := range b {
		b[i] = byte(i*i*7+i*31) | 1
	}
	return b
}

// keyLens are lengths about those at which a key is padded, whole, or summed.
func keyLens() []int {
	return []int{0, 1, 2, 31, 32, 33, 63, 64, 65, 127, 128, 129, 200}
}

func domains() []string {
	return []string{"", "a", "base", "says", "mail", "a\x00b", "\xff", strings.Repeat("d", 63), strings.Repeat("d", 64), strings.Repeat("d", 5000)}
}

func bodies() [][]byte {
	return [][]byte{nil, {}, {0}, {1, 2}, sample(55), sample(56), sample(64), sample(200), make([]byte, 70)}
}

// withSpare is b with spare room behind it, and the whole of that memory.
func withSpare(b []byte) (front, whole []byte) {
	whole = append(slices.Clone(b), bytes.Repeat([]byte{170}, 64)...)
	return whole[:len(b)], whole
}

// wantText is P3.1's Text, laid by hand: a number is laid in sevens of bits, twice as great.
func wantText(domain string, b []byte) []byte {
	var l []byte
	n := 2 * uint64(len(domain))
	for ; n >= 128; n >>= 7 {
		l = append(l, byte(n)|128)
	}
	l = append(l, byte(n))
	return slices.Concat(l, []byte(domain), b)
}

// wantTag is P3.1's Tag, by the document's words.
func wantTag(key []byte, domain string, b []byte) api.Digest {
	k := slices.Clone(key)
	if len(k) > 64 {
		d := sha256.Sum256(k)
		k = d[:]
	}
	k = append(k, make([]byte, 64-len(k))...)
	outer, inner := make([]byte, 64), make([]byte, 64)
	for i := range k {
		outer[i], inner[i] = k[i]^92, k[i]^54
	}
	d := sha256.Sum256(append(inner, wantText(domain, b)...))
	return sha256.Sum256(append(outer, d[:]...))
}

func TestText(t *testing.T) { // P3.1
	if got := mac.Text("a", []byte{1, 2}); !bytes.Equal(got, []byte{2, 97, 1, 2}) {
		t.Error("a, 1 2:", got)
	}
	if got := mac.Text("", nil); !bytes.Equal(got, []byte{0}) {
		t.Error("nothing:", got)
	}
	if got := mac.Text("", []byte{7}); !bytes.Equal(got, []byte{0, 7}) {
		t.Error("no domain:", got)
	}
	for _, domain := range append(domains(), strings.Repeat("d", api.MaxBytes), strings.Repeat("d", api.MaxBytes+1)) {
		for _, b := range bodies() {
			if got := mac.Text(domain, b); !bytes.Equal(got, wantText(domain, b)) {
				t.Errorf("a domain of %d bytes, %d bytes: %v", len(domain), len(b), got)
			}
		}
	}
}

func TestTextIsReadByPack(t *testing.T) { // P3.1: the domain stands in front as pack lays it
	for _, domain := range domains() {
		for _, b := range bodies() {
			l := mac.Text(domain, b)
			s, next, e := pack.Text(l, 0)
			if s != domain || e != api.OK || !bytes.Equal(l[next:], b) {
				t.Errorf("%q, %v: %q, %d, %d", domain, b, s, next, e)
			}
		}
	}
}

func TestTag(t *testing.T) { // P3.1: by the document's words, and by the library's HMAC
	for _, n := range keyLens() {
		key := sample(n)
		for _, domain := range domains() {
			for _, b := range bodies() {
				got := mac.Tag(key, domain, b)
				if got != wantTag(key, domain, b) {
					t.Errorf("a key of %d bytes, %q, %d bytes: %x", n, domain, len(b), got)
				}
				h := hmac.New(sha256.New, key)
				h.Write(wantText(domain, b))
				if !bytes.Equal(got[:], h.Sum(nil)) {
					t.Errorf("a key of %d bytes, %q, %d bytes: no HMAC", n, domain, len(b))
				}
			}
		}
	}
}

func TestTagOfKnownTexts(t *testing.T) { // P3.1: RFC 4231's cases 6 and 7: their texts begin with T, 84, which as a length is 42: so they are a domain of 42 bytes, and the rest
	key := bytes.Repeat([]byte{0xaa}, 131)
	for _, c := range []struct{ text, want string }{
		{"Test Using Larger Than Block-Size Key - Hash Key First", "60e431591ee0b67f0d8a26aacbf5b77f8e0bc6213728c5140546040f0ee37f54"},
		{"This is a test using a larger than block-size key and a larger than block-size data. The key needs to be hashed before being used by the HMAC algorithm.", "9b09ffa71b942fcb27635fbcd5b0e944bfdc63644f0713938a7f51535c3a35e2"},
	} {
		got := mac.Tag(key, c.text[1:43], []byte(c.text[43:]))
		if s := hex.EncodeToString(got[:]); s != c.want {
			t.Errorf("%q: %s, want %s", c.text, s, c.want)
		}
	}
}

func TestTagHangsOnEach(t *testing.T) { // P3.1
	d := mac.Tag([]byte("key"), "a", []byte("x"))
	for _, c := range []struct {
		name        string
		key, domain string
		b           string
	}{
		{"another key", "kez", "a", "x"},
		{"a longer key", "key\x01", "a", "x"},
		{"no key", "", "a", "x"},
		{"another domain", "key", "b", "x"},
		{"no domain", "key", "", "x"},
		{"other bytes", "key", "a", "y"},
		{"no bytes", "key", "a", ""},
		{"a border one to the left", "key", "", "ax"},
		{"a border one to the right", "key", "ax", ""},
	} {
		if mac.Tag([]byte(c.key), c.domain, []byte(c.b)) == d {
			t.Error(c.name + ": the same tag")
		}
	}
}

func TestKey(t *testing.T) { // P3.2
	seeds := []struct {
		seed int
		laid []byte
	}{
		{0, []byte{0}},
		{1, []byte{2}},
		{-1, []byte{1}},
		{64, []byte{128, 1}},
		{math.MaxInt, []byte{254, 255, 255, 255, 255, 255, 255, 255, 255, 1}},
		{math.MinInt, []byte{255, 255, 255, 255, 255, 255, 255, 255, 255, 1}},
	}
	seen := map[api.Digest]int{}
	names := []string{"", "a", "b", "a\x00", "a\x00b", "\xff\xfe", "key", strings.Repeat("n", 32), strings.Repeat("n", 5000), strings.Repeat("n", api.MaxBytes+1)}
	for _, s := range seeds {
		for _, who := range names {
			got := mac.Key(s.seed, who)
			want := sha256.Sum256(slices.Concat([]byte{6, 'k', 'e', 'y'}, s.laid, wantText(who, nil)))
			if got != want {
				t.Errorf("%d, %q: %x", s.seed, who, got)
			}
			seen[got]++
		}
	}
	if len(seen) != len(seeds)*len(names) {
		t.Error("two of them have one key")
	}
}

func TestEqual(t *testing.T) { // P3.2
	if !mac.Equal(nil, nil) || !mac.Equal(nil, []byte{}) || !mac.Equal([]byte{}, nil) || !mac.Equal([]byte{}, []byte{}) {
		t.Error("nothing and nothing")
	}
	for _, n := range []int{1, 2, 31, 32, 33, 64, 200} {
		a := sample(n)
		if !mac.Equal(a, a) || !mac.Equal(a, slices.Clone(a)) {
			t.Errorf("%d bytes: not those that they are", n)
		}
		for _, b := range [][]byte{nil, a[:n-1], a[1:], append(slices.Clone(a), 0), append([]byte{0}, a...)} {
			if mac.Equal(a, b) || mac.Equal(b, a) {
				t.Errorf("%d and %d bytes: the same", n, len(b))
			}
		}
		for i := range n {
			for bit := range 8 {
				b := slices.Clone(a)
				b[i] ^= 1 << bit
				if mac.Equal(a, b) || mac.Equal(b, a) {
					t.Errorf("%d bytes that differ at %d: the same", n, i)
				}
			}
		}
	}
	if mac.Equal([]byte{1, 2}, []byte{2, 1}) || mac.Equal([]byte{5, 5}, []byte{6, 6}) || mac.Equal([]byte{0}, nil) {
		t.Error("two that differ by the same in two places, or by a 0")
	}
}

func TestUnlikePairsHaveUnlikeTexts(t *testing.T) { // P3.3
	whole := []byte("\x00\x01\x02ab\x00\x02a\x04ab")
	for i := range len(whole) {
		here := mac.Text(string(whole[:i]), whole[i:])
		for j := range i {
			if bytes.Equal(here, mac.Text(string(whole[:j]), whole[j:])) {
				t.Errorf("borders at %d and %d: one Text", i, j)
			}
		}
	}
	seen := map[string]int{}
	pairs := 0
	short := []string{"", "\x00", "\x02", "\x04", "a", "\x02a", "\x00\x00", "\x00\x02", "a\x02a"}
	for _, domain := range short {
		for _, b := range short {
			seen[string(mac.Text(domain, []byte(b)))]++
			pairs++
		}
	}
	if len(seen) != pairs {
		t.Errorf("%d pairs, %d Texts", pairs, len(seen))
	}
	long := strings.Repeat("d", 64) // a length of two bytes
	if bytes.Equal(mac.Text(long, []byte("d")), mac.Text(long+"d", nil)) {
		t.Error("a long domain's border")
	}
}

func TestKeysThatAreTheSame(t *testing.T) { // P3.3: bytes 0 behind a key, up to 64, change nothing; one more does
	for _, n := range keyLens() {
		if n > 64 {
			continue
		}
		key := sample(n)
		want := mac.Tag(key, "says", []byte{1, 2})
		for more := range 64 - n + 1 {
			if mac.Tag(append(slices.Clone(key), make([]byte, more)...), "says", []byte{1, 2}) != want {
				t.Errorf("a key of %d bytes with %d zeros: another key", n, more)
			}
		}
		if mac.Tag(append(slices.Clone(key), make([]byte, 65-n)...), "says", []byte{1, 2}) == want {
			t.Errorf("a key of %d bytes with zeros up to 65: the same key", n)
		}
		if n > 0 && n < 64 && mac.Tag(append([]byte{0}, key...), "says", []byte{1, 2}) == want {
			t.Errorf("a key of %d bytes with a zero ahead of it: the same key", n)
		}
	}
	if mac.Tag(nil, "a", nil) != mac.Tag([]byte{}, "a", nil) || mac.Tag(nil, "a", nil) != mac.Tag(make([]byte, 64), "a", nil) {
		t.Error("no key")
	}
}

func TestLongKeysAreTheirSums(t *testing.T) { // P3.3
	for _, n := range []int{64, 65, 66, 127, 128, 129, 200, 5000} {
		key := sample(n)
		d := hash.Sum(key)
		same := mac.Tag(key, "mail", []byte{3}) == mac.Tag(d[:], "mail", []byte{3})
		if same != (n > 64) {
			t.Errorf("a key of %d bytes: as its Sum: %v", n, same)
		}
	}
}

func TestWhatIsHandedInStays(t *testing.T) { // R3
	for _, n := range keyLens() {
		key, wholeKey := withSpare(sample(n))
		b, wholeB := withSpare(sample(n + 1))
		keyBefore, bBefore := slices.Clone(wholeKey), slices.Clone(wholeB)
		mac.Text("a", b)
		mac.Tag(key, "a", b)
		mac.Equal(key, b)
		mac.Equal(b, b)
		if !bytes.Equal(wholeKey, keyBefore) || !bytes.Equal(wholeB, bBefore) {
			t.Errorf("%d bytes: what was handed in is changed", n)
		}
	}
}

func TestOneMemoryForAll(t *testing.T) { // R3: a key that is its own text
	b := sample(40)
	if mac.Tag(b, string(b), b) != wantTag(b, string(b), b) {
		t.Error("a key that is its own domain and text")
	}
	if mac.Tag(b[:20], "a", b[10:]) != wantTag(b[:20], "a", b[10:]) {
		t.Error("a key that is a piece of the text")
	}
}

func TestAnswersAreNew(t *testing.T) { // R3, R4
	for _, domain := range []string{"", "a"} {
		for _, b := range [][]byte{nil, {1, 2}, sample(100)} {
			in := slices.Clone(b)
			one, two := mac.Text(domain, in), mac.Text(domain, in)
			want := slices.Clone(one)
			clear(one[:cap(one)])
			if !bytes.Equal(two, want) || !bytes.Equal(in, b) || !bytes.Equal(mac.Text(domain, in), want) {
				t.Errorf("%q, %d bytes: an answer that is changed changes others", domain, len(b))
			}
			clear(in)
			if !bytes.Equal(two, want) {
				t.Errorf("%q, %d bytes: an answer shares memory with what was handed in", domain, len(b))
			}
		}
	}
	d := mac.Tag([]byte("key"), "a", nil)
	k := mac.Key(1, "a")
	wantD, wantK := d, k
	clear(d[:])
	clear(k[:])
	if mac.Tag([]byte("key"), "a", nil) != wantD || mac.Key(1, "a") != wantK {
		t.Error("a tag or a key that is changed changes the next one")
	}
}

func FuzzTag(f *testing.F) { // P3.1 to P3.3
	f.Add([]byte("key"), "a", []byte("x"), 1)
	f.Add(sample(65), "says", sample(130), -1)
	f.Fuzz(func(t *testing.T, key []byte, domain string, b []byte, seed int) {
		if got := mac.Tag(key, domain, b); got != wantTag(key, domain, b) {
			t.Errorf("Tag: %x", got)
		}
		if s, next, e := pack.Text(mac.Text(domain, b), 0); e == api.OK && (s != domain || !bytes.Equal(mac.Text(domain, b)[next:], b)) {
			t.Errorf("Text: %q, %d", s, next)
		}
		if mac.Equal(key, b) != bytes.Equal(key, b) || !mac.Equal(b, slices.Clone(b)) {
			t.Error("Equal")
		}
		l := pack.PutText(pack.PutInt(pack.PutText(nil, "key"), seed), domain)
		if mac.Key(seed, domain) != sha256.Sum256(l) {
			t.Error("Key")
		}
	})
}
