package tests

import (
	"bytes"
	"hash/crc32"
	"math"
	"strings"
	"testing"

	"loop.example/g00322/impl"
)

// The signatures are the face that all later layers build on; a change of one must not build.
var (
	_ func([]byte, int) []byte              = impl.PutU
	_ func([]byte, int) (int, int, bool)    = impl.GetU
	_ func([]byte, string) []byte           = impl.PutText
	_ func([]byte, int) (string, int, bool) = impl.GetText
	_ func([]byte) int                      = impl.Crc
	_ func([]byte) []byte                   = impl.PutSum
	_ func([]byte) ([]byte, bool)           = impl.GetSum
)

func TestCodesAndLimits(t *testing.T) {
	got := []int{impl.CoGood, impl.CoForm, impl.CoNone, impl.CoType, impl.CoDup, impl.CoUnique, impl.CoMissing, impl.CoLarge, impl.CoSpace, impl.CoDown}
	for want, code := range got {
		if code != want {
			t.Errorf("code %d is %d", want, code)
		}
	}
	if impl.MaxNum != 1000000 {
		t.Errorf("MaxNum is %d", impl.MaxNum)
	}
}

func TestPutUBytes(t *testing.T) {
	cases := []struct {
		n    int
		want string
	}{
		{0, "\x00"},
		{1, "\x01"},
		{126, "\x7e"},
		{127, "\x7f"},
		{128, "\x80\x01"},
		{129, "\x81\x01"},
		{255, "\xff\x01"},
		{256, "\x80\x02"},
		{300, "\xac\x02"},
		{16383, "\xff\x7f"},
		{16384, "\x80\x80\x01"},
		{16385, "\x81\x80\x01"},
		{999999, "\xbf\x84\x3d"},
		{1000000, "\xc0\x84\x3d"},
		{1000001, "\xc0\x84\x3d"},
		{2097152, "\xc0\x84\x3d"},
		{1 << 32, "\xc0\x84\x3d"},
		{math.MaxInt, "\xc0\x84\x3d"},
		{-1, "\x00"},
		{-128, "\x00"},
		{-1000001, "\x00"},
		{math.MinInt, "\x00"},
	}
	for _, c := range cases {
		for _, ahead := range []string{"", "\x80", "ahead\x00"} {
			if got := impl.PutU([]byte(ahead), c.n); string(got) != ahead+c.want {
				t.Errorf("PutU(%q, %d) = %q", ahead, c.n, got)
			}
		}
	}
	if got := impl.PutU(nil, 5); string(got) != "\x05" {
		t.Errorf("PutU(nil, 5) = %q", got)
	}
}

func TestEveryNumberComesBack(t *testing.T) {
	for n := 0; n <= impl.MaxNum; n++ {
		b := impl.PutU(nil, n)
		if got, next, ok := impl.GetU(b, 0); got != n || next != len(b) || !ok {
			t.Fatalf("%d as %x came back as %d, %d, %v", n, b, got, next, ok)
		}
	}
}

func TestNumbersStandBehindEachOther(t *testing.T) {
	nums := []int{0, 5, 127, 128, 16383, 16384, 0, 1000000, 1}
	b := []byte("ahead")
	for _, n := range nums {
		b = impl.PutU(b, n)
	}
	at := len("ahead")
	for _, n := range nums {
		got, next, ok := impl.GetU(b, at)
		if got != n || !ok {
			t.Fatalf("at %d: %d, %v, not %d", at, got, ok, n)
		}
		at = next
	}
	if at != len(b) {
		t.Errorf("the last ends at %d of %d", at, len(b))
	}
}

func TestGetURefuses(t *testing.T) {
	cases := []struct {
		name string
		b    string
		at   int
	}{
		{"nothing there", "", 0},
		{"below the first", "\x05", -1},
		{"far below the first", "\x05", math.MinInt},
		{"at the end", "\x05", 1},
		{"past the end", "\x05", 2},
		{"far past the end", "\x05\x05\x05\x05", math.MaxInt},
		{"one of two groups", "\x80", 0},
		{"one of two groups at the end", "\x05\xff", 1},
		{"two of three groups", "\xff\xff", 0},
		{"four groups", "\x80\x80\x80\x01", 0},
		{"four groups, the first three of 0", "\x80\x80\x80\x00", 0},
		{"no last group", "\x80\x80\x80", 0},
		{"no last group in many", "\xff\xff\xff\xff\xff\xff\xff\xff\xff\xff", 0},
		{"the last of two is 0", "\x80\x00", 0},
		{"the last of two is 0, the first not", "\x85\x00", 0},
		{"the last of three is 0", "\x80\x80\x00", 0},
		{"the last of three is 0, the others not", "\xff\xff\x00", 0},
		{"MaxNum and 1", "\xc1\x84\x3d", 0},
		{"the greatest of three groups", "\xff\xff\x7f", 0},
	}
	for _, c := range cases {
		if n, next, ok := impl.GetU([]byte(c.b), c.at); n != 0 || next != 0 || ok {
			t.Errorf("%s: GetU(%q, %d) = %d, %d, %v", c.name, c.b, c.at, n, next, ok)
		}
	}
}

func TestGetULooksNoFurther(t *testing.T) {
	cases := []struct {
		b       string
		at      int
		n, next int
	}{
		{"\x00", 0, 0, 1},
		{"\x00\x00", 0, 0, 1},
		{"\x00\x00", 1, 0, 2},
		{"\x05\x80", 0, 5, 1},
		{"\x80\x01\xff", 0, 128, 2},
		{"\x80\x01\xff", 1, 1, 2},
		{"\xc0\x84\x3d\xff\xff", 0, 1000000, 3},
	}
	for _, c := range cases {
		if n, next, ok := impl.GetU([]byte(c.b), c.at); n != c.n || next != c.next || !ok {
			t.Errorf("GetU(%q, %d) = %d, %d, %v", c.b, c.at, n, next, ok)
		}
	}
}

// What is read must be what would have been put: no number has two forms.
func TestNumbersHaveOneForm(t *testing.T) {
	edges := []int{0, 1, 2, 3, 4, 5, 60, 61, 62, 63, 64, 65, 126, 127, 128, 129, 131, 132, 133, 192, 193, 254, 255}
	read := 0
	for first := range 256 {
		for _, second := range edges {
			for _, third := range edges {
				b := []byte{byte(first), byte(second), byte(third)}
				n, next, ok := impl.GetU(b, 0)
				if !ok {
					continue
				}
				read++
				if string(impl.PutU(nil, n)) != string(b[:next]) {
					t.Fatalf("%x was read as %d up to %d", b, n, next)
				}
			}
		}
	}
	if read == 0 {
		t.Error("nothing was read")
	}
}

func textsToPut() []string {
	return []string{
		"",
		"x",
		"xyz",
		"\x00",
		"\x00\x01\xff",
		"\xff\xfe not utf8 \x80",
		"\u00e9\u4e16",
		strings.Repeat("a", 127),
		strings.Repeat("b", 128),
		strings.Repeat("c", 16383),
		strings.Repeat("d", 16384),
		strings.Repeat("e", impl.MaxNum-1),
		strings.Repeat("f", impl.MaxNum),
	}
}

func TestTextsComeBack(t *testing.T) {
	for _, s := range textsToPut() {
		for _, ahead := range []string{"", "\x80ahead"} {
			b := impl.PutText([]byte(ahead), s)
			if want := string(impl.PutU([]byte(ahead), len(s))) + s; string(b) != want {
				t.Errorf("a text of %d bytes behind %q is put otherwise", len(s), ahead)
			}
			if got, next, ok := impl.GetText(b, len(ahead)); got != s || next != len(b) || !ok {
				t.Errorf("a text of %d bytes came back as one of %d, %d, %v", len(s), len(got), next, ok)
			}
		}
	}
}

func TestTextsStandBehindEachOther(t *testing.T) {
	texts := []string{"", "one", "", "\x00\x00", strings.Repeat("z", 200), "end"}
	var b []byte
	for _, s := range texts {
		b = impl.PutText(b, s)
	}
	at := 0
	for _, s := range texts {
		got, next, ok := impl.GetText(b, at)
		if got != s || !ok {
			t.Fatalf("at %d: %q, %v, not %q", at, got, ok, s)
		}
		at = next
	}
	if at != len(b) {
		t.Errorf("the last ends at %d of %d", at, len(b))
	}
}

// A count above MaxNum is put as MaxNum, while all bytes stand behind it.
func TestTextAboveTheMost(t *testing.T) {
	s := strings.Repeat("g", impl.MaxNum) + "h"
	b := impl.PutText([]byte{7}, s)
	if string(b) != "\x07\xc0\x84\x3d"+s {
		t.Fatalf("%d bytes, not %d", len(b), 4+len(s))
	}
	if got, next, ok := impl.GetText(b, 1); got != s[:impl.MaxNum] || next != len(b)-1 || !ok {
		t.Errorf("%d bytes came back, %d, %v", len(got), next, ok)
	}
}

func TestGetTextRefuses(t *testing.T) {
	cases := []struct {
		name string
		b    string
		at   int
	}{
		{"nothing there", "", 0},
		{"below the first", "\x01x", -1},
		{"far below the first", "\x01x", math.MinInt},
		{"at the end", "\x01x", 2},
		{"far past the end", "\x01x", math.MaxInt},
		{"none of its one byte", "\x01", 0},
		{"cut by one byte", "\x03xy", 0},
		{"cut by one byte, behind another one", "\x01x\x03xy", 2},
		{"cut in its count", "\x80", 0},
		{"a needless last group", "\x81\x00x", 0},
		{"four groups", "\x81\x80\x80\x00x", 0},
		{"a count above MaxNum", "\xc1\x84\x3d" + strings.Repeat("x", impl.MaxNum+1), 0},
		{"a count of MaxNum, one byte short", "\xc0\x84\x3d" + strings.Repeat("x", impl.MaxNum-1), 0},
		{"a count far past the end", "\xc0\x84\x3d", 0},
	}
	for _, c := range cases {
		if s, next, ok := impl.GetText([]byte(c.b), c.at); s != "" || next != 0 || ok {
			t.Errorf("%s: %d bytes, %d, %v", c.name, len(s), next, ok)
		}
	}
	if s, next, ok := impl.GetText(nil, 0); s != "" || next != 0 || ok {
		t.Errorf("nil: %q, %d, %v", s, next, ok)
	}
}

func TestEveryCutTextIsNone(t *testing.T) {
	for _, s := range []string{"x", "xyz", strings.Repeat("q", 128), strings.Repeat("q", 300)} {
		b := impl.PutText(nil, s)
		for n := range b {
			if got, next, ok := impl.GetText(b[:n], 0); got != "" || next != 0 || ok {
				t.Fatalf("%d of %d bytes: %q, %d, %v", n, len(b), got, next, ok)
			}
		}
	}
}

// bytesToSum has all lengths up to 40, and a page's and more; mixed bytes and bytes that are all alike.
func bytesToSum() [][]byte {
	var out [][]byte
	for _, n := range []int{256, 260, 1000} {
		out = append(out, bytes.Repeat([]byte{0}, n), mixed(n))
	}
	for n := range 41 {
		out = append(out, bytes.Repeat([]byte{0}, n), bytes.Repeat([]byte{255}, n), mixed(n))
	}
	return out
}

func mixed(n int) []byte {
	out := make([]byte, n)
	for i := range out {
		out[i] = byte(i*i*7 + i*31 + 5)
	}
	return out
}

func TestCrc(t *testing.T) {
	known := []struct {
		b    []byte
		want int
	}{
		{nil, 0},
		{[]byte{}, 0},
		{[]byte("a"), 0xc1d04330},
		{[]byte("123456789"), 0xe3069283},
		{bytes.Repeat([]byte{0}, 32), 0x8a9136aa},
		{bytes.Repeat([]byte{255}, 32), 0x62a8ab43},
	}
	for _, c := range known {
		if got := impl.Crc(c.b); got != c.want {
			t.Errorf("Crc(%q) = %x, not %x", c.b, got, c.want)
		}
	}
	table := crc32.MakeTable(crc32.Castagnoli)
	for _, b := range bytesToSum() {
		if got, want := impl.Crc(b), int(crc32.Checksum(b, table)); got != want {
			t.Errorf("Crc of %x is %x, not %x", b, got, want)
		}
	}
}

func TestCrcTurnsWithAnyBit(t *testing.T) {
	for _, b := range bytesToSum() {
		sum := impl.Crc(b)
		for bit := range 8 * len(b) {
			turned := bytes.Clone(b)
			turned[bit/8] ^= 1 << (bit % 8)
			if impl.Crc(turned) == sum {
				t.Fatalf("bit %d of %d bytes turns nothing", bit, len(b))
			}
		}
	}
}

func TestPutSumBytes(t *testing.T) {
	for s, sum := range map[string]string{"": "\x00\x00\x00\x00", "123456789": "\xe3\x06\x92\x83", "a": "\xc1\xd0\x43\x30"} {
		if got := impl.PutSum([]byte(s)); string(got) != s+sum {
			t.Errorf("PutSum(%q) = %x", s, got)
		}
	}
	if got := impl.PutSum(nil); string(got) != "\x00\x00\x00\x00" {
		t.Errorf("PutSum(nil) = %x", got)
	}
}

func TestSumsComeBack(t *testing.T) {
	for _, b := range bytesToSum() {
		if got, ok := impl.GetSum(impl.PutSum(b)); !bytes.Equal(got, b) || !ok {
			t.Errorf("%x came back as %x, %v", b, got, ok)
		}
	}
}

func TestSumsTurnWithAnyBit(t *testing.T) {
	for _, b := range bytesToSum() {
		summed := impl.PutSum(b)
		for bit := range 8 * len(summed) {
			turned := bytes.Clone(summed)
			turned[bit/8] ^= 1 << (bit % 8)
			if got, ok := impl.GetSum(turned); len(got) != 0 || ok {
				t.Fatalf("bit %d of %x turned: %x, %v", bit, summed, got, ok)
			}
		}
	}
}

func TestGetSumRefuses(t *testing.T) {
	for _, s := range []string{
		"",
		"\x00",
		"\x00\x00",
		"\x00\x00\x00",
		"\xff\xff\xff\xff",
		"\x00\x00\x00\x01",
		"123456789",
		"123456789\x83\x92\x06\xe3",
		"123456789\xe3\x06\x92",
		"123456789\xe3\x06\x92\x83\x00",
		"23456789\xe3\x06\x92\x83",
	} {
		if got, ok := impl.GetSum([]byte(s)); len(got) != 0 || ok {
			t.Errorf("GetSum(%q) = %q, %v", s, got, ok)
		}
	}
	if got, ok := impl.GetSum(nil); len(got) != 0 || ok {
		t.Errorf("GetSum(nil) = %q, %v", got, ok)
	}
}
