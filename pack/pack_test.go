package pack_test

import (
	"bytes"
	"encoding/binary"
	"encoding/hex"
	"math"
	"slices"
	"strings"
	"testing"

	"avowal/api"
	"avowal/pack"
)

// numbers are the edges of each length in bytes, on both sides of 0, and the ends of the range.
func numbers() []int {
	l := []int{0, math.MaxInt, math.MaxInt - 1, math.MinInt, math.MinInt + 1}
	for shift := range 63 {
		for d := -2; d <= 2; d++ {
			n := 1<<shift + d
			l = append(l, n, -n)
		}
	}
	return l
}

// tenBytes is nine bytes of a number that goes on, and a tenth.
func tenBytes(tenth byte) []byte {
	return append(bytes.Repeat([]byte{255}, 9), tenth)
}

// withSpare is b with spare room behind it, and the whole of that memory.
func withSpare(b []byte) (front, whole []byte) {
	whole = append(slices.Clone(b), bytes.Repeat([]byte{170}, 64)...)
	return whole[:len(b)], whole
}

func TestPutIntLaysBytes(t *testing.T) { // P1.1
	for _, c := range []struct {
		n    int
		want []byte
	}{
		{0, []byte{0}},
		{-1, []byte{1}},
		{1, []byte{2}},
		{63, []byte{126}},
		{-64, []byte{127}},
		{64, []byte{128, 1}},
		{-65, []byte{129, 1}},
		{8191, []byte{254, 127}},
		{-8192, []byte{255, 127}},
		{8192, []byte{128, 128, 1}},
		{1<<62 - 1, []byte{254, 255, 255, 255, 255, 255, 255, 255, 127}},
		{-1 << 62, []byte{255, 255, 255, 255, 255, 255, 255, 255, 127}},
		{1 << 62, []byte{128, 128, 128, 128, 128, 128, 128, 128, 128, 1}},
		{math.MaxInt, []byte{254, 255, 255, 255, 255, 255, 255, 255, 255, 1}},
		{math.MinInt, []byte{255, 255, 255, 255, 255, 255, 255, 255, 255, 1}},
	} {
		if got := pack.PutInt(nil, c.n); !bytes.Equal(got, c.want) {
			t.Errorf("PutInt(nil, %d) = %v, want %v", c.n, got, c.want)
		}
	}
}

func TestPutIntStandsBehindOtherBytes(t *testing.T) { // P1.1
	if got := pack.PutInt([]byte{7, 0, 255}, 64); !bytes.Equal(got, []byte{7, 0, 255, 128, 1}) {
		t.Error(got)
	}
	for _, n := range numbers() {
		want := binary.AppendVarint([]byte{9}, int64(n))
		if got := pack.PutInt([]byte{9}, n); !bytes.Equal(got, want) {
			t.Errorf("PutInt of %d: %v, want %v", n, got, want)
		}
	}
}

func TestIntReadsNumbers(t *testing.T) { // P1.1
	for _, c := range []struct {
		b       []byte
		at      int
		n, next int
	}{
		{[]byte{0}, 0, 0, 1},
		{[]byte{1}, 0, -1, 1},
		{[]byte{2}, 0, 1, 1},
		{[]byte{127}, 0, -64, 1},
		{[]byte{128, 1}, 0, 64, 2},
		{[]byte{128, 1, 0}, 0, 64, 2},
		{[]byte{128, 1}, 1, -1, 2},
		{[]byte{0, 0, 4, 128}, 2, 2, 3},
		{tenBytes(1), 0, math.MinInt, 10},
		{append(tenBytes(1), 200), 0, math.MinInt, 10},
		{append([]byte{254}, tenBytes(1)[1:]...), 0, math.MaxInt, 10},
	} {
		n, next, e := pack.Int(c.b, c.at)
		if n != c.n || next != c.next || e != api.OK {
			t.Errorf("Int(%v, %d) = %d %d %d, want %d %d", c.b, c.at, n, next, int(e), c.n, c.next)
		}
	}
}

func TestIntRefuses(t *testing.T) { // P1.1, R2
	for _, c := range []struct {
		b    []byte
		at   int
		want api.Errno
	}{
		{nil, -1, api.ErrArg},
		{nil, 1, api.ErrArg},
		{[]byte{2}, -1, api.ErrArg},
		{[]byte{2}, 2, api.ErrArg},
		{[]byte{2}, math.MinInt, api.ErrArg},
		{[]byte{2}, math.MaxInt, api.ErrArg},
		{nil, 0, api.ErrShort},
		{[]byte{2}, 1, api.ErrShort},
		{[]byte{128}, 0, api.ErrShort},
		{[]byte{2, 255, 255}, 1, api.ErrShort},
		{tenBytes(0)[:9], 0, api.ErrShort},
		{[]byte{128, 0}, 0, api.ErrForm},
		{[]byte{255, 0}, 0, api.ErrForm},
		{[]byte{128, 0, 1}, 0, api.ErrForm},
		{[]byte{128, 128, 0}, 0, api.ErrForm},
		{[]byte{5, 128, 0}, 1, api.ErrForm},
		{tenBytes(0), 0, api.ErrForm},
		{tenBytes(2), 0, api.ErrForm},
		{tenBytes(127), 0, api.ErrForm},
		{tenBytes(128), 0, api.ErrForm},
		{tenBytes(129), 0, api.ErrForm},
		{tenBytes(255), 0, api.ErrForm},
		{append(tenBytes(129), 1), 0, api.ErrForm},
		{append(tenBytes(128), 0), 0, api.ErrForm},
	} {
		n, next, e := pack.Int(c.b, c.at)
		if n != 0 || next != 0 || e != c.want {
			t.Errorf("Int(%v, %d) = %d %d %d, want 0 0 %d", c.b, c.at, n, next, int(e), int(c.want))
		}
	}
}

// TestIntOfAllShortBytes holds Int against a reading of its own of P1.1, for all lists of at most two bytes and all tenth bytes.
func TestIntOfAllShortBytes(t *testing.T) { // P1.1
	check := func(b []byte) {
		t.Helper()
		n, next, e := pack.Int(b, 0)
		v, size := binary.Varint(b)
		switch {
		case size == 0:
			if n != 0 || next != 0 || e != api.ErrShort {
				t.Fatalf("%v: %d %d %d, want ErrShort", b, n, next, int(e))
			}
		case size < 0 || size > 1 && b[size-1] == 0:
			if n != 0 || next != 0 || e != api.ErrForm {
				t.Fatalf("%v: %d %d %d, want ErrForm", b, n, next, int(e))
			}
		default:
			if n != int(v) || next != size || e != api.OK {
				t.Fatalf("%v: %d %d %d, want %d %d", b, n, next, int(e), v, size)
			}
		}
	}
	for x := range 256 {
		check([]byte{byte(x)})
		for y := range 256 {
			check([]byte{byte(x), byte(y)})
		}
	}
	for x := range 128 {
		check(tenBytes(byte(x)))
	}
}

func TestPutTextLaysBytes(t *testing.T) { // P1.2
	for _, c := range []struct {
		b    []byte
		s    string
		want []byte
	}{
		{nil, "", []byte{0}},
		{nil, "ab", []byte{4, 97, 98}},
		{[]byte{1, 2}, "", []byte{1, 2, 0}},
		{[]byte{1, 2}, "\x00\xff", []byte{1, 2, 4, 0, 255}},
		{nil, strings.Repeat("x", 64), append([]byte{128, 1}, bytes.Repeat([]byte{120}, 64)...)},
	} {
		if got := pack.PutText(c.b, c.s); !bytes.Equal(got, c.want) {
			t.Errorf("PutText(%v, %q) = %v, want %v", c.b, c.s, got, c.want)
		}
	}
}

func TestTextReadsTexts(t *testing.T) { // P1.2
	for _, c := range []struct {
		b    []byte
		at   int
		s    string
		next int
	}{
		{[]byte{0}, 0, "", 1},
		{[]byte{0, 9}, 0, "", 1},
		{[]byte{4, 97, 98}, 0, "ab", 3},
		{[]byte{4, 97, 98, 99}, 0, "ab", 3},
		{[]byte{9, 9, 2, 255}, 2, "\xff", 4},
	} {
		s, next, e := pack.Text(c.b, c.at)
		if s != c.s || next != c.next || e != api.OK {
			t.Errorf("Text(%v, %d) = %q %d %d, want %q %d", c.b, c.at, s, next, int(e), c.s, c.next)
		}
	}
}

func TestTextRefuses(t *testing.T) { // P1.2, R2
	above := pack.PutInt(nil, api.MaxBytes+1)
	for _, c := range []struct {
		b    []byte
		at   int
		want api.Errno
	}{
		{[]byte{0}, -1, api.ErrArg},
		{[]byte{0}, 2, api.ErrArg},
		{[]byte{0}, math.MaxInt, api.ErrArg},
		{nil, 0, api.ErrShort},
		{[]byte{0}, 1, api.ErrShort},
		{[]byte{128}, 0, api.ErrShort},
		{[]byte{128, 0}, 0, api.ErrForm},
		{tenBytes(2), 0, api.ErrForm},
		{[]byte{1}, 0, api.ErrForm},
		{[]byte{1, 97, 98}, 0, api.ErrForm},
		{pack.PutInt(nil, math.MinInt), 0, api.ErrForm},
		{pack.PutInt(nil, math.MaxInt), 0, api.ErrForm},
		{above, 0, api.ErrForm},
		{append(above, make([]byte, api.MaxBytes+1)...), 0, api.ErrForm},
		{[]byte{2}, 0, api.ErrShort},
		{[]byte{4, 97}, 0, api.ErrShort},
		{[]byte{0, 6, 97, 98}, 1, api.ErrShort},
		{pack.PutInt(nil, api.MaxBytes), 0, api.ErrShort},
	} {
		s, next, e := pack.Text(c.b, c.at)
		if s != "" || next != 0 || e != c.want {
			t.Errorf("Text of %d bytes at %d: %d bytes, %d, %d, want %d", len(c.b), c.at, len(s), next, int(e), int(c.want))
		}
	}
}

func TestTextOfMaxBytes(t *testing.T) { // P1.2
	most := strings.Repeat("m", api.MaxBytes)
	b := pack.PutText([]byte{1}, most)
	if s, next, e := pack.Text(b, 1); s != most || next != len(b) || e != api.OK {
		t.Error(len(s), next, int(e))
	}
	if s, next, e := pack.Text(b[:len(b)-1], 1); s != "" || next != 0 || e != api.ErrShort {
		t.Error(len(s), next, int(e))
	}
	b = pack.PutText([]byte{1}, most+"m")
	if want := append(append([]byte{1}, pack.PutInt(nil, api.MaxBytes+1)...), most+"m"...); !bytes.Equal(b, want) {
		t.Error("a text that is too long to be read is laid like any other one")
	}
	if s, next, e := pack.Text(b, 1); s != "" || next != 0 || e != api.ErrForm {
		t.Error(len(s), next, int(e))
	}
}

func TestCount(t *testing.T) { // P1.3, R2
	for _, c := range []struct {
		b        []byte
		at, most int
		n, next  int
		want     api.Errno
	}{
		{[]byte{0}, 0, 0, 0, 1, api.OK},
		{[]byte{10}, 0, 5, 5, 1, api.OK},
		{[]byte{8}, 0, 5, 4, 1, api.OK},
		{[]byte{9, 128, 1, 9}, 1, 64, 64, 3, api.OK},
		{pack.PutInt(nil, math.MaxInt), 0, math.MaxInt, math.MaxInt, 10, api.OK},
		{[]byte{12}, 0, 5, 0, 0, api.ErrForm},
		{[]byte{9, 128, 1, 9}, 1, 63, 0, 0, api.ErrForm},
		{[]byte{2}, 0, 0, 0, 0, api.ErrForm},
		{[]byte{0}, 0, -1, 0, 0, api.ErrForm},
		{[]byte{0}, 0, math.MinInt, 0, 0, api.ErrForm},
		{[]byte{1}, 0, 5, 0, 0, api.ErrForm},
		{[]byte{3}, 0, -1, 0, 0, api.ErrForm},
		{pack.PutInt(nil, math.MinInt), 0, math.MaxInt, 0, 0, api.ErrForm},
		{[]byte{0}, -1, 5, 0, 0, api.ErrArg},
		{[]byte{0}, 2, 5, 0, 0, api.ErrArg},
		{[]byte{0}, 2, -1, 0, 0, api.ErrArg},
		{[]byte{0}, 1, 5, 0, 0, api.ErrShort},
		{[]byte{128}, 0, -1, 0, 0, api.ErrShort},
		{[]byte{128, 0}, 0, 5, 0, 0, api.ErrForm},
		{tenBytes(2), 0, math.MaxInt, 0, 0, api.ErrForm},
	} {
		n, next, e := pack.Count(c.b, c.at, c.most)
		if n != c.n || next != c.next || e != c.want {
			t.Errorf("Count(%v, %d, %d) = %d %d %d, want %d %d %d", c.b, c.at, c.most, n, next, int(e), c.n, c.next, int(c.want))
		}
	}
}

func TestHex(t *testing.T) { // P1.4
	if s := pack.Hex([]byte{10, 255}); s != "0aff" {
		t.Error(s)
	}
	if s := pack.Hex(nil); s != "" {
		t.Error(s)
	}
	var all []byte
	for x := range 256 {
		all = append(all, byte(x))
	}
	if s := pack.Hex(all); s != hex.EncodeToString(all) {
		t.Error(s)
	}
}

func TestUnhex(t *testing.T) { // P1.4
	for _, s := range []string{"", "00", "0aff", "0123456789abcdef", "fedcba9876543210"} {
		want, err := hex.DecodeString(s)
		if err != nil {
			t.Fatal(err)
		}
		if b, e := pack.Unhex(s); !bytes.Equal(b, want) || e != api.OK {
			t.Errorf("Unhex(%q) = %v %d", s, b, int(e))
		}
	}
}

func TestUnhexRefuses(t *testing.T) { // P1.4, R2
	for _, s := range []string{"0", "abc", "0A", "A0", "Ff", "0g", "g0", "0x10", "00 0", " 00 ", "0\x00", "é", "0000zz", "zz0", "00/0", "0:00", "`0", "0@"} {
		if b, e := pack.Unhex(s); len(b) != 0 || e != api.ErrForm {
			t.Errorf("Unhex(%q) = %v %d", s, b, int(e))
		}
	}
	for x := range 256 {
		c := string([]byte{byte(x)})
		want := api.ErrForm
		if strings.Contains("0123456789abcdef", c) {
			want = api.OK
		}
		if _, e := pack.Unhex("0" + c); e != want {
			t.Errorf("low digit %q: %d", c, int(e))
		}
		if _, e := pack.Unhex(c + "0"); e != want {
			t.Errorf("high digit %q: %d", c, int(e))
		}
	}
}

func TestWhatIsPutIsReadAgain(t *testing.T) { // P1.5
	for _, n := range numbers() {
		b := append(pack.PutInt([]byte{1, 2}, n), 255)
		if got, next, e := pack.Int(b, 2); got != n || next != len(b)-1 || e != api.OK {
			t.Errorf("%d is read as %d %d %d", n, got, next, int(e))
		}
	}
	for _, s := range []string{"", "a", "\x00", "ab\xff", strings.Repeat("long", 100)} {
		b := append(pack.PutText([]byte{1, 2}, s), 255)
		if got, next, e := pack.Text(b, 2); got != s || next != len(b)-1 || e != api.OK {
			t.Errorf("%q is read as %q %d %d", s, got, next, int(e))
		}
	}
	for x := range 256 {
		for y := range 256 {
			want := []byte{byte(x), byte(y)}
			if b, e := pack.Unhex(pack.Hex(want)); !bytes.Equal(b, want) || e != api.OK {
				t.Fatal(want, b, int(e))
			}
		}
	}
}

func TestWhatIsReadIsPutAsTheSameBytes(t *testing.T) { // P1.5
	var b [3]byte
	for x := range 256 {
		for y := range 256 {
			for _, z := range []byte{0, 1, 2, 97, 127, 128, 255} {
				b = [3]byte{byte(x), byte(y), z}
				if n, next, e := pack.Int(b[:], 0); e == api.OK && !bytes.Equal(pack.PutInt(nil, n), b[:next]) {
					t.Fatalf("the number %d, read from %v, is put as %v", n, b, pack.PutInt(nil, n))
				}
				if s, next, e := pack.Text(b[:], 0); e == api.OK && !bytes.Equal(pack.PutText(nil, s), b[:next]) {
					t.Fatalf("the text %q, read from %v, is put as %v", s, b, pack.PutText(nil, s))
				}
			}
		}
	}
	if s, e := pack.Unhex("00ff7a"); e != api.OK || pack.Hex(s) != "00ff7a" {
		t.Error(s, int(e))
	}
}

func TestNoNumberBeginsAnother(t *testing.T) { // P1.5
	l := numbers()
	slices.Sort(l)
	l = slices.Compact(l)
	laid := make([][]byte, len(l))
	for i, n := range l {
		laid[i] = pack.PutInt(nil, n)
	}
	for i := range l {
		for k := range l {
			if i != k && bytes.HasPrefix(laid[k], laid[i]) {
				t.Errorf("%d's bytes begin those of %d", l[i], l[k])
			}
		}
	}
}

func TestWhatIsHandedInStays(t *testing.T) { // R3
	front, whole := withSpare([]byte{4, 97, 98})
	before := slices.Clone(whole)
	pack.PutInt(front, math.MinInt)
	pack.PutText(front, "text")
	pack.PutText(front, "")
	pack.Int(front, 0)
	pack.Text(front, 0)
	pack.Count(front, 0, 9)
	pack.Hex(front)
	if !bytes.Equal(whole, before) {
		t.Errorf("%v became %v", before, whole)
	}
}

func TestAnswersAreNewMemory(t *testing.T) { // R3
	front, whole := withSpare([]byte{4, 97, 98})
	number := pack.PutInt(front, 1)
	text := pack.PutText(front, "z")
	read, _, _ := pack.Text(front, 0)
	clear(whole)
	if !bytes.Equal(number, []byte{4, 97, 98, 2}) || !bytes.Equal(text, []byte{4, 97, 98, 2, 122}) || read != "ab" {
		t.Error(number, text, read)
	}
	first := pack.PutInt(number, 5)
	second := pack.PutInt(number, 6)
	third := pack.PutText(number, "y")
	if first[4] != 10 || second[4] != 12 || third[4] != 2 {
		t.Error(first, second, third)
	}
	one, _ := pack.Unhex("0102")
	two, _ := pack.Unhex("0102")
	one[0] = 9
	if two[0] != 1 {
		t.Error(two)
	}
}

func FuzzReading(f *testing.F) { // R1, R2, P1.5
	f.Add([]byte{128, 1}, 0, 5)
	f.Add(tenBytes(128), 0, -1)
	f.Add([]byte{4, 97, 98}, 0, 2)
	f.Fuzz(func(t *testing.T, b []byte, at, most int) {
		n, next, e := pack.Int(b, at)
		if e != api.OK && (n != 0 || next != 0) || e == api.OK && !bytes.Equal(pack.PutInt(nil, n), b[at:next]) {
			t.Error(n, next, int(e))
		}
		s, next, e := pack.Text(b, at)
		if e != api.OK && (s != "" || next != 0) || e == api.OK && !bytes.Equal(pack.PutText(nil, s), b[at:next]) {
			t.Error(s, next, int(e))
		}
		n, next, e = pack.Count(b, at, most)
		if e != api.OK && (n != 0 || next != 0) || e == api.OK && (n < 0 || n > most) {
			t.Error(n, next, int(e))
		}
		if got, e := pack.Unhex(pack.Hex(b)); e != api.OK || !bytes.Equal(got, b) {
			t.Error(got, int(e))
		}
		if got, e := pack.Unhex(string(b)); e == api.OK && pack.Hex(got) != string(b) {
			t.Error(got)
		}
	})
}
