package ring_test

import (
	"bytes"
	"math"
	"slices"
	"strconv"
	"strings"
	"testing"

	"avowal/api"
	"avowal/mac"
	"avowal/ring"
)

func longest() string { return strings.Repeat("x", api.MaxText) }

// six are as many names as there may be, neither sorted nor sorted backwards, some of them a beginning of another one.
func six() []string { return []string{"c", "ab", longest(), "a", "\xff\x00", "é"} }

func made(t *testing.T, seed int, names ...string) *ring.Ring {
	t.Helper()
	r, e := ring.New(seed, names...)
	if e != api.OK || r == nil {
		t.Fatalf("New(%d, %q): %d", seed, names, e)
	}
	return r
}

func sign(t *testing.T, r *ring.Ring, who, domain string, b []byte) api.Digest {
	t.Helper()
	d, e := r.Sign(who, domain, b)
	if e != api.OK {
		t.Fatalf("Sign(%q, %q, %d bytes): %d", who, domain, len(b), e)
	}
	return d
}

// refused tells of a Sign that should answer that error, nothing else, and change nothing.
func refused(t *testing.T, r *ring.Ring, who, domain string, b []byte, want api.Errno) {
	t.Helper()
	n, was := r.Len(), r.Made(who, domain, b)
	d, e := r.Sign(who, domain, b)
	if e != want || d != (api.Digest{}) {
		t.Errorf("Sign(%q, %d and %d bytes): %x, %d, want %d", who, len(domain), len(b), d, e, want)
	}
	if r.Len() != n || r.Made(who, domain, b) != was {
		t.Errorf("Sign(%q, %d and %d bytes): refused, but the book has changed", who, len(domain), len(b))
	}
}

// wantTag is P6.2's tag, by its words.
func wantTag(seed int, who, domain string, b []byte) api.Digest {
	key := mac.Key(seed, who)
	return mac.Tag(key[:], domain, b)
}

// filled is a ring of a and b whose book has MaxPairs, the i-th of them a's (or b's, of an odd i) with the bytes of i's digits.
func filled(t *testing.T) *ring.Ring {
	t.Helper()
	r := made(t, 1, "a", "b")
	for i := range api.MaxPairs {
		sign(t, r, []string{"a", "b"}[i%2], "x", []byte(strconv.Itoa(i)))
	}
	return r
}

// withSpare is b with spare room behind it, and the whole of that memory.
func withSpare(b []byte) (front, whole []byte) {
	whole = append(slices.Clone(b), bytes.Repeat([]byte{170}, 64)...)
	return whole[:len(b)], whole
}

func domains() []string {
	return []string{"", "base", "says", "mail", "a", "a\x00", "\xff", strings.Repeat("d", 200)}
}

func bodies() [][]byte {
	return [][]byte{nil, {0}, {0, 0}, []byte("a"), []byte("text"), bytes.Repeat([]byte{200}, 55), bytes.Repeat([]byte{1}, 1000)}
}

func TestNewOfNames(t *testing.T) { // P6.1
	l := six()
	for n := 1; n <= api.MaxNames; n++ {
		r := made(t, 1, l[:n]...)
		if got := r.Names(); !slices.Equal(got, l[:n]) {
			t.Errorf("Names of %q: %q", l[:n], got)
		}
		for i, who := range l {
			if r.Is(who) != (i < n) {
				t.Errorf("Is(%q) of %q: %v", who, l[:n], r.Is(who))
			}
		}
		if r.Len() != 0 || r.Made(l[0], "", nil) {
			t.Error("a new ring has signed something")
		}
	}
}

func TestNamesAreInTheOrderGiven(t *testing.T) { // P6.1: neither sorted nor turned round
	for _, l := range [][]string{{"b", "a"}, {"a", "b"}, {"c", "a", "b"}, {"b", "c", "a"}, {"f", "e", "d", "c", "b", "a"}, {"a", "B", "ab", "b"}} {
		if got := made(t, 1, l...).Names(); !slices.Equal(got, l) {
			t.Errorf("Names of %q: %q", l, got)
		}
	}
}

func TestIsOfWhoIsNone(t *testing.T) { // P6.1
	r := made(t, 1, "ab", longest(), "\x00")
	for _, who := range []string{"", "a", "b", "abc", "AB", "ab ", " ab", "ab\x00", "\x00\x00", longest()[1:], longest() + "x", "ab" + longest()} {
		if r.Is(who) {
			t.Errorf("Is(%q): true", who)
		}
	}
	for _, who := range []string{"ab", longest(), "\x00"} {
		if !r.Is(who) {
			t.Errorf("Is(%q): false", who)
		}
	}
}

func TestNewRefuses(t *testing.T) { // P6.1
	seven := append(six(), "seventh")
	long := longest() + "x"
	for _, c := range []struct {
		why   string
		names []string
		want  api.Errno
	}{
		{"a twice, alone", []string{"a", "a"}, api.ErrArg},
		{"none, nil", nil, api.ErrArg},
		{"none, empty", []string{}, api.ErrArg},
		{"one too many", seven, api.ErrBig},
		{"many too many", slices.Repeat([]string{"a", "b"}, 500), api.ErrBig},
		{"one too many, two next to each other the same", []string{"a", "a", "b", "c", "d", "e", "f"}, api.ErrBig},
		{"one too many, first and last the same", []string{"a", "b", "c", "d", "e", "f", "a"}, api.ErrBig},
		{"one too many, an empty one", []string{"a", "b", "", "d", "e", "f", "g"}, api.ErrBig},
		{"one too many, a long one", []string{"a", "b", "c", "d", "e", "f", long}, api.ErrBig},
		{"six, next to each other at the beginning", []string{"a", "a", "b", "c", "d", "e"}, api.ErrArg},
		{"six, next to each other at the end", []string{"a", "b", "c", "d", "e", "e"}, api.ErrArg},
		{"six, next to each other in the middle", []string{"a", "b", "c", "c", "d", "e"}, api.ErrArg},
		{"six, far apart", []string{"a", "b", "c", "d", "e", "a"}, api.ErrArg},
		{"six, some apart", []string{"a", "b", "c", "d", "b", "e"}, api.ErrArg},
		{"all the same", slices.Repeat([]string{longest()}, api.MaxNames), api.ErrArg},
		{"two empty", []string{"", ""}, api.ErrArg},
	} {
		if r, e := ring.New(1, c.names...); r != nil || e != c.want {
			t.Errorf("%s: a ring: %v, %d, want %d", c.why, r != nil, e, c.want)
		}
	}
}

func TestNewOfLengths(t *testing.T) { // P6.1: at each place among others, and alone
	for _, n := range []int{0, 1, 2, api.MaxText - 1, api.MaxText, api.MaxText + 1, 2 * api.MaxText, api.MaxBytes, api.MaxBytes + 1} {
		name := strings.Repeat("n", n)
		want := api.OK
		if n < 1 || n > api.MaxText {
			want = api.ErrArg
		}
		for size := 1; size <= api.MaxNames; size++ {
			for at := range size {
				l := []string{"a", "b", "c", "d", "e", "f"}[:size]
				l[at] = name
				r, e := ring.New(1, l...)
				if e != want || (r != nil) != (want == api.OK) {
					t.Errorf("%d names, at %d one of %d bytes: %d, want %d", size, at, n, e, want)
				}
				if want == api.OK && (!r.Is(name) || !slices.Equal(r.Names(), l)) {
					t.Errorf("%d names, at %d one of %d bytes: it is none", size, at, n)
				}
			}
		}
	}
	full := strings.Repeat("é", api.MaxText/2) // two bytes each
	made(t, 1, full)
	if _, e := ring.New(1, full+"é"); e != api.ErrArg {
		t.Error("letters are counted instead of bytes:", e)
	}
}

func TestTagsAreOfTheSeedsKeys(t *testing.T) { // P6.1 and P6.2: mac.Tag of mac.Key of the seed and the name, whatever the seed
	seen := map[api.Digest]int{}
	seeds := []int{0, 1, -1, 2, 1 << 40, math.MaxInt, math.MinInt}
	for _, seed := range seeds {
		r := made(t, seed, six()...)
		for _, who := range six() {
			d := sign(t, r, who, "says", []byte("text"))
			if d != wantTag(seed, who, "says", []byte("text")) {
				t.Errorf("seed %d, %q: %x", seed, who, d)
			}
			seen[d]++
		}
	}
	if len(seen) != len(seeds)*api.MaxNames {
		t.Error("two seeds or two names have one tag")
	}
	whole := sign(t, made(t, 7, "a", "b"), "b", "x", []byte{1})
	if sign(t, made(t, 7, "b"), "b", "x", []byte{1}) != whole {
		t.Error("b's tag hangs on who else there is")
	}
}

func TestSignByWhoIsNone(t *testing.T) { // P6.2
	big := make([]byte, api.MaxBytes+1)
	refused(t, made(t, 1, "a"), "b", "x", nil, api.ErrWho)
	for _, r := range []*ring.Ring{made(t, 1, "a", "b"), filled(t)} {
		for _, who := range []string{"", "c", "ab", "A", "a\x00", longest(), longest() + "x"} {
			refused(t, r, who, "x", []byte("0"), api.ErrWho)
			refused(t, r, who, "x", big, api.ErrWho)
			refused(t, r, who, string(big), nil, api.ErrWho)
		}
	}
}

func TestSignOfManyBytes(t *testing.T) { // P6.2: domain and bytes together
	r := made(t, 1, "a")
	n := 0
	for _, domain := range []int{0, 1, 4, api.MaxBytes / 2, api.MaxBytes - 1, api.MaxBytes} {
		for _, more := range []int{-1, 0} {
			if domain+more > api.MaxBytes || api.MaxBytes-domain+more < 0 {
				continue
			}
			d, b := strings.Repeat("d", domain), bytes.Repeat([]byte{7}, api.MaxBytes-domain+more)
			tag := sign(t, r, "a", d, b)
			n++
			if tag != wantTag(1, "a", d, b) || !r.Verify("a", d, b, tag[:]) || !r.Made("a", d, b) || r.Len() != n {
				t.Errorf("%d and %d bytes: signed, but not as it should", len(d), len(b))
			}
		}
		for _, more := range []int{1, 2, api.MaxBytes} {
			refused(t, r, "a", strings.Repeat("d", domain), make([]byte, api.MaxBytes-domain+more), api.ErrBig)
		}
	}
	refused(t, r, "a", strings.Repeat("d", api.MaxBytes+1), nil, api.ErrBig)
	refused(t, r, "a", strings.Repeat("d", api.MaxBytes+1), make([]byte, api.MaxBytes+1), api.ErrBig)
}

func TestFullBook(t *testing.T) { // P6.2
	r := filled(t)
	if r.Len() != api.MaxPairs {
		t.Fatal("full:", r.Len())
	}
	refused(t, r, "a", "x", []byte("new"), api.ErrFull)
	refused(t, r, "b", "x", []byte("0"), api.ErrFull) // a signed that
	refused(t, r, "a", "y", []byte("0"), api.ErrFull) // for x it is signed
	refused(t, r, "a", "", nil, api.ErrFull)
	refused(t, r, "b", "x", make([]byte, api.MaxBytes-1), api.ErrFull)
	refused(t, r, "b", "x", make([]byte, api.MaxBytes), api.ErrBig)
	for _, i := range []int{0, 1, 2, api.MaxPairs / 2, api.MaxPairs - 1} {
		who, b := []string{"a", "b"}[i%2], []byte(strconv.Itoa(i))
		if d := sign(t, r, who, "x", b); d != wantTag(1, who, "x", b) {
			t.Errorf("the one of number %d again: %x", i, d)
		}
	}
	for i := range api.MaxPairs {
		if !r.Made([]string{"a", "b"}[i%2], "x", []byte(strconv.Itoa(i))) || r.Made([]string{"b", "a"}[i%2], "x", []byte(strconv.Itoa(i))) {
			t.Fatalf("the one of number %d: not in the book, or by the other one too", i)
		}
	}
	if r.Len() != api.MaxPairs {
		t.Error("signed again:", r.Len())
	}
	d := wantTag(1, "a", "x", []byte("new"))
	if !r.Verify("a", "x", []byte("new"), d[:]) {
		t.Error("a full book hinders Verify")
	}
}

func TestOneBelowFull(t *testing.T) { // P6.2: the last one finds room, in a book of many principals
	r := made(t, 1, six()...)
	for i := range api.MaxPairs {
		if r.Len() != i {
			t.Fatal("behind", i, "that were signed:", r.Len())
		}
		sign(t, r, six()[i%api.MaxNames], "d"+strconv.Itoa(i/api.MaxNames), nil)
	}
	refused(t, r, "a", "d", nil, api.ErrFull)
}

func TestVerify(t *testing.T) { // P6.2
	r := made(t, 1, "a", "b")
	text := []byte("text")
	d := sign(t, r, "a", "x", text)
	ofNone := wantTag(1, "c", "x", text)
	ofEmpty := wantTag(1, "", "x", text)
	ofSeed := wantTag(2, "a", "x", text)
	for _, c := range []struct {
		why         string
		who, domain string
		b, tag      []byte
		want        bool
	}{
		{"the very tag", "a", "x", text, d[:], true},
		{"nil", "a", "x", text, nil, false},
		{"empty", "a", "x", text, []byte{}, false},
		{"cut off behind", "a", "x", text, d[:31], false},
		{"cut off in front", "a", "x", text, d[1:], false},
		{"its first byte", "a", "x", text, d[:1], false},
		{"longer by 0", "a", "x", text, append(d[:32:32], 0), false},
		{"longer in front", "a", "x", text, append([]byte{0}, d[:]...), false},
		{"twice", "a", "x", text, append(d[:32:32], d[:]...), false},
		{"zeros", "a", "x", text, make([]byte, 32), false},
		{"another name", "b", "x", text, d[:], false},
		{"another domain", "a", "y", text, d[:], false},
		{"no domain", "a", "", text, d[:], false},
		{"other bytes", "a", "x", []byte("tex"), d[:], false},
		{"no bytes", "a", "x", nil, d[:], false},
		{"a border one to the right", "a", "xt", []byte("ext"), d[:], false},
		{"a border one to the left", "a", "", []byte("xtext"), d[:], false},
		{"who is none", "c", "x", text, d[:], false},
		{"who is none, with what the tag would be", "c", "x", text, ofNone[:], false},
		{"nobody, with what the tag would be", "", "x", text, ofEmpty[:], false},
		{"another seed's", "a", "x", text, ofSeed[:], false},
	} {
		if got := r.Verify(c.who, c.domain, c.b, c.tag); got != c.want {
			t.Errorf("%s: %v", c.why, got)
		}
	}
	for i := range d {
		for bit := range 8 {
			other := d
			other[i] ^= 1 << bit
			if r.Verify("a", "x", text, other[:]) {
				t.Errorf("bit %d of byte %d is another one: true", bit, i)
			}
		}
	}
	if r.Len() != 1 {
		t.Error("Verify has changed the book:", r.Len())
	}
}

func TestVerifyDoesNotAskTheBook(t *testing.T) { // P6.2: whoever made the tag, and however many bytes there are
	r := made(t, 1, "a", "b")
	for _, n := range []int{0, 4, api.MaxBytes, api.MaxBytes + 1, 2 * api.MaxBytes} {
		for _, domain := range []string{"", "x", strings.Repeat("d", api.MaxBytes+1)} {
			b := bytes.Repeat([]byte{3}, n)
			d := wantTag(1, "b", domain, b)
			if !r.Verify("b", domain, b, d[:]) || r.Verify("a", domain, b, d[:]) {
				t.Errorf("%d and %d bytes that the ring did not sign", len(domain), n)
			}
			if r.Made("b", domain, b) || r.Len() != 0 {
				t.Errorf("%d and %d bytes: in the book by Verify", len(domain), n)
			}
		}
	}
}

func TestMadeAndLen(t *testing.T) { // P6.2: behind each step
	r := made(t, 1, "a", "b")
	steps := []struct {
		who, domain, text string
		n                 int
	}{
		{"a", "x", "text", 1},
		{"a", "x", "text", 1},
		{"b", "x", "text", 2},
		{"a", "y", "text", 3},
		{"a", "x", "other", 4},
		{"a", "x", "text", 4},
		{"a", "", "", 5},
		{"b", "", "", 6},
		{"b", "x", "text", 6},
		{"c", "x", "text", 6},
		{"", "", "", 6},
	}
	type one struct{ who, domain, text string }
	have := map[one]int{}
	for i, s := range steps {
		if _, e := r.Sign(s.who, s.domain, []byte(s.text)); e == api.OK {
			have[one{s.who, s.domain, s.text}]++
		} else if e != api.ErrWho {
			t.Errorf("step %d: %d", i, e)
		}
		if r.Len() != s.n {
			t.Errorf("step %d: Len %d, want %d", i, r.Len(), s.n)
		}
		for _, o := range steps {
			if r.Made(o.who, o.domain, []byte(o.text)) != (have[one{o.who, o.domain, o.text}] > 0) {
				t.Errorf("step %d: Made(%q, %q, %q)", i, o.who, o.domain, o.text)
			}
		}
	}
	for _, o := range []one{{"a", "x", "tex"}, {"a", "x", "text\x00"}, {"a", "X", "text"}, {"a", "x", ""}, {"a", "", "text"}, {"b", "y", "text"}} {
		if r.Made(o.who, o.domain, []byte(o.text)) {
			t.Errorf("Made(%q, %q, %q): true", o.who, o.domain, o.text)
		}
	}
	if !r.Made("a", "", nil) || !r.Made("a", "", []byte{}) {
		t.Error("no bytes are nil or empty alike")
	}
}

func TestBordersInTheBook(t *testing.T) { // P6.2: what together is the same bytes is not the same
	whole := "aa\x00\x02aa"
	r := made(t, 1, "a", "aa", "aaa")
	n := 0
	for i := range len(whole) + 1 {
		for j := range len(whole) + 1 {
			signed := j < i
			if got := r.Made("a", whole[:j], []byte(whole[j:])); got != signed {
				t.Errorf("%d were signed: a border at %d: %v", i, j, got)
			}
		}
		sign(t, r, "a", whole[:i], []byte(whole[i:]))
		if n++; r.Len() != n {
			t.Errorf("a border at %d: Len %d, want %d", i, r.Len(), n)
		}
	}
	r = made(t, 1, "a", "aa", "aaa") // the border between name and domain
	sign(t, r, "aa", "aa", []byte("x"))
	if r.Made("a", "aaa", []byte("x")) || r.Made("aaa", "a", []byte("x")) || !r.Made("aa", "aa", []byte("x")) {
		t.Error("a border between name and domain moves")
	}
}

func TestWhatIsSignedIsVerified(t *testing.T) { // P6.3
	r := made(t, 5, six()...)
	seen := map[api.Digest]int{}
	n := 0
	for _, who := range six() {
		for _, domain := range domains() {
			for _, b := range bodies() {
				d := sign(t, r, who, domain, b)
				if n++; r.Len() != n || !r.Made(who, domain, b) || !r.Verify(who, domain, b, d[:]) {
					t.Errorf("%q, %q, %d bytes: signed, not verified or not in the book", who, domain, len(b))
				}
				if sign(t, r, who, domain, b) != d || r.Len() != n || !r.Made(who, domain, b) {
					t.Errorf("%q, %q, %d bytes: signed twice", who, domain, len(b))
				}
				seen[d]++
			}
		}
	}
	if len(seen) != n {
		t.Error("two that are unlike have one tag")
	}
	for _, who := range six() {
		for _, domain := range domains() {
			for _, b := range bodies() {
				d := sign(t, r, who, domain, b)
				if seen[d] != 1 || r.Len() != n {
					t.Errorf("%q, %q, %d bytes: signed behind all others it has another tag, or is in the book twice", who, domain, len(b))
				}
			}
		}
	}
}

func TestRingsStandApart(t *testing.T) { // P6.1, R4: what one signs is in no other one's book; its tag is right there
	one, two, other := made(t, 1, "a", "b"), made(t, 1, "b", "a"), made(t, 2, "a", "b")
	d := sign(t, one, "a", "x", []byte("text"))
	if two.Len() != 0 || two.Made("a", "x", []byte("text")) || other.Len() != 0 {
		t.Error("another ring's book has it")
	}
	if !two.Verify("a", "x", []byte("text"), d[:]) || other.Verify("a", "x", []byte("text"), d[:]) {
		t.Error("verified by a ring of another seed, or not by one of the same")
	}
}

func TestNoRing(t *testing.T) { // P6.2's end: nil, and what New did not make
	d := wantTag(1, "a", "x", []byte("text"))
	keyless := mac.Tag(nil, "x", []byte("text"))
	for _, r := range []*ring.Ring{nil, {}, new(ring.Ring)} {
		for range 2 { // what was refused makes no ring of it
			if l := r.Names(); len(l) != 0 {
				t.Error("Names:", l)
			}
			for _, who := range []string{"", "a", longest() + "x"} {
				for _, b := range [][]byte{nil, []byte("text"), make([]byte, api.MaxBytes+1)} {
					if got, e := r.Sign(who, "x", b); got != (api.Digest{}) || e != api.ErrNil {
						t.Errorf("Sign by %q: %x, %d", who, got, e)
					}
					if r.Is(who) || r.Made(who, "x", b) || r.Verify(who, "x", b, d[:]) || r.Verify(who, "x", b, keyless[:]) || r.Verify(who, "x", b, nil) {
						t.Errorf("%q is one, or has signed", who)
					}
				}
			}
			if r.Len() != 0 {
				t.Error("Len:", r.Len())
			}
		}
	}
}

func TestWhatIsHandedInStays(t *testing.T) { // R3
	names := append(make([]string, 0, 8), "b", "a")
	spare := names[:8]
	spare[7] = "spare"
	before := slices.Clone(spare)
	r := made(t, 1, names...)
	r.Names()
	if !slices.Equal(spare, before) {
		t.Errorf("names: %q", spare)
	}
	for _, text := range bodies() {
		b, wholeB := withSpare(text)
		d := wantTag(1, "a", "x", text)
		tag, wholeTag := withSpare(d[:])
		bBefore, tagBefore := slices.Clone(wholeB), slices.Clone(wholeTag)
		sign(t, r, "a", "x", b)
		sign(t, r, "a", "x", b)
		r.Made("a", "x", b)
		r.Verify("a", "x", b, tag)
		r.Verify("b", "x", b, tag)
		r.Verify("a", "x", tag, b)
		refused(t, r, "c", "x", b, api.ErrWho)
		if !bytes.Equal(wholeB, bBefore) || !bytes.Equal(wholeTag, tagBefore) {
			t.Errorf("%d bytes: what was handed in is changed", len(text))
		}
	}
}

func TestNothingIsShared(t *testing.T) { // R3: what is changed behind a call changes nothing of the ring
	want := []string{"b", "a", "c"}
	names := slices.Clone(want)
	r := made(t, 1, names...)
	names[0], names[1] = "z", ""
	if !slices.Equal(r.Names(), want) || !r.Is("b") || r.Is("z") || r.Is("") {
		t.Errorf("names that were handed in: %q", r.Names())
	}
	one, two := r.Names(), r.Names()
	one[0], one[2] = "y", ""
	if !slices.Equal(two, want) || !slices.Equal(r.Names(), want) || !r.Is("b") || r.Is("y") {
		t.Errorf("names that were told: %q, %q", two, r.Names())
	}
	b := []byte("text")
	d := sign(t, r, "a", "x", b)
	b[0] = 'n'
	if !r.Made("a", "x", []byte("text")) || r.Made("a", "x", b) || r.Len() != 1 {
		t.Error("bytes that were signed")
	}
	tag := d
	clear(d[:])
	if sign(t, r, "a", "x", []byte("text")) != tag || !r.Verify("a", "x", []byte("text"), tag[:]) || r.Verify("a", "x", []byte("text"), d[:]) || r.Len() != 1 {
		t.Error("a tag that was told")
	}
	sign(t, r, "a", "x", b)
	if r.Len() != 2 || !r.Made("a", "x", []byte("next")) {
		t.Error("changed bytes, signed:", r.Len())
	}
}

func FuzzSigning(f *testing.F) { // P6.1 to P6.3
	f.Add(1, "a", "b", "x", []byte("text"), []byte("tex"))
	f.Add(-1, "", "a", "", []byte{}, []byte{0})
	f.Add(0, longest(), longest()+"x", "says", []byte{1, 2}, []byte{1, 2})
	f.Fuzz(func(t *testing.T, seed int, who, other, domain string, b, c []byte) {
		good := func(s string) bool { return len(s) >= 1 && len(s) <= api.MaxText }
		r, e := ring.New(seed, who, other)
		if may := good(who) && good(other) && who != other; may != (e == api.OK) || may != (r != nil) {
			t.Fatalf("New(%d, %q, %q): %d", seed, who, other, e)
		} else if !may {
			return
		}
		d, e := r.Sign(who, domain, b)
		if len(domain)+len(b) > api.MaxBytes {
			if e != api.ErrBig || r.Len() != 0 {
				t.Errorf("too many bytes: %d", e)
			}
			return
		}
		if e != api.OK || d != wantTag(seed, who, domain, b) || r.Len() != 1 {
			t.Errorf("Sign: %x, %d", d, e)
		}
		same := bytes.Equal(b, c)
		if !r.Verify(who, domain, b, d[:]) || r.Verify(other, domain, b, d[:]) || r.Verify(who, domain, c, d[:]) != same {
			t.Error("Verify")
		}
		if !r.Made(who, domain, b) || r.Made(other, domain, b) || r.Made(who, domain, c) != same {
			t.Error("Made")
		}
		if again, e := r.Sign(who, domain, b); again != d || e != api.OK || r.Len() != 1 {
			t.Errorf("signed twice: %x, %d", again, e)
		}
	})
}
