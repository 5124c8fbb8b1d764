package tests

import (
	"math"
	"strings"
	"testing"

	"loop.example/g00322/impl"
)

var (
	_ func([]byte, string) []byte           = impl.PutEsc
	_ func([]byte, int) (string, int, bool) = impl.GetEsc
	_ func([]byte, int) []byte              = impl.Flip
	_ func([]byte, []byte) bool             = impl.Before
)

// escAlphabet has the bytes that the form leans on, their neighbours, and bytes that are no valid runes alone (0xc3, 0xa9 are one together).
const escAlphabet = "\x00\x01\x02a\xa9\xc3\xfe\xff"

// textsOf has all texts of at most n bytes of the alphabet.
func textsOf(alphabet string, n int) []string {
	out := []string{""}
	last := out
	for range n {
		var longer []string
		for _, s := range last {
			for i := range len(alphabet) {
				longer = append(longer, s+alphabet[i:i+1])
			}
		}
		out = append(out, longer...)
		last = longer
	}
	return out
}

// escText is a text and its bytes.
type escText struct {
	s    string
	want string
}

func escTexts() []escText {
	return []escText{
		{"", "\x00\x01"},
		{"a", "a\x00\x01"},
		{"ab", "ab\x00\x01"},
		{"a b~", "a b~\x00\x01"},
		{"\x00", "\x00\xff\x00\x01"},
		{"\x00\x00", "\x00\xff\x00\xff\x00\x01"},
		{"\x00\x00\x00", "\x00\xff\x00\xff\x00\xff\x00\x01"},
		{"\x00a", "\x00\xffa\x00\x01"},
		{"a\x00", "a\x00\xff\x00\x01"},
		{"a\x00b", "a\x00\xffb\x00\x01"},
		{"ab\x00\x00cd", "ab\x00\xff\x00\xffcd\x00\x01"},
		{"\x01", "\x01\x00\x01"},
		{"\x01\x01", "\x01\x01\x00\x01"},
		{"\x00\x01", "\x00\xff\x01\x00\x01"},
		{"\x01\x00", "\x01\x00\xff\x00\x01"},
		{"\x00\xff", "\x00\xff\xff\x00\x01"},
		{"\xff\x00", "\xff\x00\xff\x00\x01"},
		{"\xfe", "\xfe\x00\x01"},
		{"\xff", "\xff\x00\x01"},
		{"\xfe\xff", "\xfe\xff\x00\x01"},
		{"\xff\xff", "\xff\xff\x00\x01"},
		{"\x00\x01\xfe\xff", "\x00\xff\x01\xfe\xff\x00\x01"},
		{"\xff\xfe\x01\x00", "\xff\xfe\x01\x00\xff\x00\x01"},
		{"\x00\x01\x00\x01", "\x00\xff\x01\x00\xff\x01\x00\x01"},
		{"é", "\xc3\xa9\x00\x01"},
		{"é\x00€", "\xc3\xa9\x00\xff\xe2\x82\xac\x00\x01"},
		{"\U0001f33e\x00", "\xf0\x9f\x8c\xbe\x00\xff\x00\x01"},
		{"\xc3", "\xc3\x00\x01"},
		{"\xc3\x00\xa9", "\xc3\x00\xff\xa9\x00\x01"},
		{"\xe2\x82\x00", "\xe2\x82\x00\xff\x00\x01"},
		{"\xc0\x80", "\xc0\x80\x00\x01"},
		{"\xa9\x80\xed\xa0\x80", "\xa9\x80\xed\xa0\x80\x00\x01"},
		{"\ufffd", "\xef\xbf\xbd\x00\x01"},
		{strings.Repeat("m", 1000), strings.Repeat("m", 1000) + "\x00\x01"},
		{strings.Repeat("\x00", 1000), strings.Repeat("\x00\xff", 1000) + "\x00\x01"},
	}
}

func TestPutEscBytes(t *testing.T) {
	for _, c := range escTexts() {
		for _, ahead := range []string{"", "\x00", "\xff", "ahead\x00\x01", "\x00\xff"} {
			if got := impl.PutEsc([]byte(ahead), c.s); string(got) != ahead+c.want {
				t.Errorf("PutEsc(%q, %q) = %q", ahead, c.s, got)
			}
		}
		if got := impl.PutEsc(nil, c.s); string(got) != c.want {
			t.Errorf("PutEsc(nil, %q) = %q", c.s, got)
		}
	}
}

func TestTextsInOrderComeBack(t *testing.T) {
	for _, c := range escTexts() {
		for _, ahead := range []string{"", "\x00", "a\x00\x01"} {
			for _, behind := range []string{"", "\x00", "\x01", "\xff", "\x00\x01", "more"} {
				b := []byte(ahead + c.want + behind)
				s, next, ok := impl.GetEsc(b, len(ahead))
				if s != c.s || next != len(ahead)+len(c.want) || !ok {
					t.Errorf("GetEsc(%q, %d) = %q, %d, %v", b, len(ahead), s, next, ok)
				}
			}
		}
	}
}

func TestEveryShortTextComesBack(t *testing.T) {
	for _, s := range textsOf(escAlphabet, 4) {
		b := impl.PutEsc([]byte("\x00"), s)
		want := "\x00" + strings.ReplaceAll(s, "\x00", "\x00\xff") + "\x00\x01"
		got, next, ok := impl.GetEsc(b, 1)
		if string(b) != want || got != s || next != len(b) || !ok {
			t.Fatalf("%q as %q came back as %q, %d, %v", s, b, got, next, ok)
		}
	}
}

func TestEveryByteComesBack(t *testing.T) {
	for x := range 256 {
		s := string([]byte{'a', byte(x), byte(x), 'b'})
		b := impl.PutEsc(nil, s)
		if got, next, ok := impl.GetEsc(b, 0); got != s || next != len(b) || !ok {
			t.Errorf("%q as %q came back as %q, %d, %v", s, b, got, next, ok)
		}
	}
}

func TestTextsInOrderStandBehindEachOther(t *testing.T) {
	b := []byte("ahead")
	for _, c := range escTexts() {
		b = impl.PutEsc(b, c.s)
	}
	at := len("ahead")
	for _, c := range escTexts() {
		s, next, ok := impl.GetEsc(b, at)
		if s != c.s || !ok {
			t.Fatalf("at %d: %q, %v, not %q", at, s, ok, c.s)
		}
		at = next
	}
	if at != len(b) {
		t.Errorf("the last ends at %d of %d", at, len(b))
	}
}

func TestGetEscRefuses(t *testing.T) {
	cases := []struct {
		name string
		b    string
		at   int
	}{
		{"nothing there", "", 0},
		{"below the first of nothing", "", -1},
		{"past the end of nothing", "", 1},
		{"below the first", "a\x00\x01", -1},
		{"two below the first", "\x00\x01", -2},
		{"far below the first", "a\x00\x01", math.MinInt},
		{"at the end", "a\x00\x01", 3},
		{"past the end", "a\x00\x01", 4},
		{"far past the end", "a\x00\x01", math.MaxInt},
		{"at the last byte", "a\x00\x01", 2},
		{"a 0 alone", "\x00", 0},
		{"a 1 alone", "\x01", 0},
		{"no end", "a", 0},
		{"no end, many", "abc\x01\xff", 0},
		{"half an end", "a\x00", 0},
		{"half an end, the other way round", "a\x01\x00", 0},
		{"a 0 of the text, and no end", "\x00\xff", 0},
		{"a 0 of the text, and half an end", "\x00\xff\x00", 0},
		{"a 0 of the text at the end of another one", "a\x00\x01\x00\xff", 3},
		{"0 behind a 0", "\x00\x00\x01", 0},
		{"0 behind a 0 of the text's end", "a\x00\x00\x01", 0},
		{"2 behind a 0", "a\x00\x02", 0},
		{"2 behind a 0, an end behind it", "a\x00\x02\x00\x01", 0},
		{"254 behind a 0", "\x00\xfe\x00\x01", 0},
		{"254 behind a 0 of the text", "\x00\xff\x00\xfe\x00\x01", 0},
		{"a letter behind a 0", "a\x00b\x00\x01", 0},
	}
	for _, c := range cases {
		if s, next, ok := impl.GetEsc([]byte(c.b), c.at); s != "" || next != 0 || ok {
			t.Errorf("%s: GetEsc(%q, %d) = %q, %d, %v", c.name, c.b, c.at, s, next, ok)
		}
	}
	if s, next, ok := impl.GetEsc(nil, 0); s != "" || next != 0 || ok {
		t.Errorf("GetEsc(nil, 0) = %q, %d, %v", s, next, ok)
	}
}

// Behind a 0 each byte but 1 and 255 is refused, whatever follows.
func TestWhatMayStandBehindANought(t *testing.T) {
	for x := range 256 {
		b := []byte{'a', 0, byte(x), 'b', 0, 1}
		s, next, ok := impl.GetEsc(b, 0)
		switch x {
		case 1:
			if s != "a" || next != 3 || !ok {
				t.Errorf("GetEsc(%q, 0) = %q, %d, %v", b, s, next, ok)
			}
		case 255:
			if s != "a\x00b" || next != 6 || !ok {
				t.Errorf("GetEsc(%q, 0) = %q, %d, %v", b, s, next, ok)
			}
		default:
			if s != "" || next != 0 || ok {
				t.Errorf("GetEsc(%q, 0) = %q, %d, %v", b, s, next, ok)
			}
		}
	}
}

// What is read is just what was put: all short bytes are held against the bytes of all short texts.
func TestGetEscReadsJustWhatIsPut(t *testing.T) {
	const most = 5
	textOf := map[string]string{}
	for _, s := range textsOf("\x00\x01\x02\xfe\xff", most) {
		textOf[strings.ReplaceAll(s, "\x00", "\x00\xff")+"\x00\x01"] = s
	}
	for _, b := range textsOf("\x00\x01\x02\xfe\xff", most) {
		for at := range len(b) + 1 {
			wantS, wantNext, wantOk := "", 0, false
			for next := at; next <= len(b); next++ {
				if s, found := textOf[b[at:next]]; found {
					wantS, wantNext, wantOk = s, next, true
					break
				}
			}
			if s, next, ok := impl.GetEsc([]byte(b), at); s != wantS || next != wantNext || ok != wantOk {
				t.Fatalf("GetEsc(%q, %d) = %q, %d, %v", b, at, s, next, ok)
			}
		}
	}
}

// All pairs of short texts: many of them begin alike, or one is the beginning of the other.
func TestTextsKeepTheirOrder(t *testing.T) {
	texts := textsOf(escAlphabet, 3)
	texts = append(texts, "abc", "abcd", "abcd\x00", "abcd\x00\x00", "abcd\x00\x01", "abcd\x00\xff", "abcd\x01", "abcd\xff", "abd", "é", "éa", "z")
	bytesOf := make([][]byte, len(texts))
	for i, s := range texts {
		bytesOf[i] = impl.PutEsc([]byte("k"), s)
	}
	for i, a := range texts {
		for j, b := range texts {
			if got := impl.Before(bytesOf[i], bytesOf[j]); got != (a < b) {
				t.Fatalf("%q ahead of %q: %v, as %q and %q", a, b, got, bytesOf[i], bytesOf[j])
			}
			if a != b && strings.HasPrefix(string(bytesOf[j]), string(bytesOf[i])) {
				t.Fatalf("%q, as %q, is the beginning of %q, as %q", a, bytesOf[i], b, bytesOf[j])
			}
		}
	}
}

// Columns that are to be found from the greatest on need it.
func TestFlippedTextsStandTheOtherWayRound(t *testing.T) {
	texts := textsOf("\x00\x01a\xff", 3)
	for _, a := range texts {
		for _, b := range texts {
			x, y := impl.Flip(impl.PutEsc(nil, a), 0), impl.Flip(impl.PutEsc(nil, b), 0)
			if got := impl.Before(x, y); got != (b < a) {
				t.Fatalf("%q ahead of %q: %v, flipped, as %q and %q", a, b, got, x, y)
			}
		}
	}
}

func TestFlip(t *testing.T) {
	cases := []struct {
		b    string
		from int
		want string
	}{
		{"", 0, ""},
		{"", -1, ""},
		{"", 1, ""},
		{"", math.MinInt, ""},
		{"", math.MaxInt, ""},
		{"\x00", 0, "\xff"},
		{"\xff", 0, "\x00"},
		{"\x0f\x55\x80", 0, "\xf0\xaa\x7f"},
		{"\x01\x02\xff", 0, "\xfe\xfd\x00"},
		{"\x01\x02\xff", 1, "\x01\xfd\x00"},
		{"\x01\x02\xff", 2, "\x01\x02\x00"},
		{"\x01\x02\xff", 3, "\x01\x02\xff"},
		{"\x01\x02\xff", 4, "\x01\x02\xff"},
		{"\x01\x02\xff", math.MaxInt, "\x01\x02\xff"},
		{"\x01\x02\xff", -1, "\xfe\xfd\x00"},
		{"\x01\x02\xff", -2, "\xfe\xfd\x00"},
		{"\x01\x02\xff", -3, "\xfe\xfd\x00"},
		{"\x01\x02\xff", math.MinInt, "\xfe\xfd\x00"},
	}
	for _, c := range cases {
		if got := impl.Flip([]byte(c.b), c.from); string(got) != c.want {
			t.Errorf("Flip(%q, %d) = %q", c.b, c.from, got)
		}
	}
	if got := impl.Flip(nil, 0); len(got) != 0 {
		t.Errorf("Flip(nil, 0) = %q", got)
	}
}

func TestFlipTwiceTurnsNothing(t *testing.T) {
	for _, n := range []int{0, 1, 2, 9, 256} {
		b := mixed(n)
		for from := -2; from <= n+2; from++ {
			once := impl.Flip(b, from)
			twice := impl.Flip(once, from)
			if string(twice) != string(b) {
				t.Fatalf("Flip of %x from %d, twice: %x", b, from, twice)
			}
			for i := range once {
				if turned := once[i] == 255-b[i]; turned != (i >= from) {
					t.Fatalf("Flip of %x from %d: byte %d is %x", b, from, i, once[i])
				}
			}
		}
	}
}

func TestBefore(t *testing.T) {
	ascending := []string{"", "\x00", "\x00\x00", "\x00\x01", "\x00\xff", "\x01", "\x01\x00", "a", "a\x00", "a\x01", "ab", "abc", "abd", "b", "\x7f", "\x80", "\xc3\xa9", "\xfe", "\xfe\xff", "\xff", "\xff\x00", "\xff\xff"}
	for i, a := range ascending {
		for j, b := range ascending {
			if got := impl.Before([]byte(a), []byte(b)); got != (i < j) {
				t.Errorf("Before(%q, %q) = %v", a, b, got)
			}
		}
	}
	if impl.Before(nil, nil) || impl.Before(nil, []byte{}) || impl.Before([]byte{}, nil) {
		t.Error("nothing is ahead of nothing")
	}
	if !impl.Before(nil, []byte{0}) || impl.Before([]byte{0}, nil) {
		t.Error("nothing is not ahead of a byte 0")
	}
}

func TestEscAnswersAreNewMemory(t *testing.T) {
	answersAreNew(t, []bytesAnswer{
		{"PutEsc", "abc", func(b []byte) []byte { return impl.PutEsc(b, "x\x00yz") }},
		{"PutEsc of nothing", "abc", func(b []byte) []byte { return impl.PutEsc(b, "") }},
		{"PutEsc behind nothing", "", func(b []byte) []byte { return impl.PutEsc(b, "xyz") }},
		{"Flip", "abc", func(b []byte) []byte { return impl.Flip(b, 1) }},
		{"Flip from below the first", "abc", func(b []byte) []byte { return impl.Flip(b, -1) }},
		{"Flip from the end", "abc", func(b []byte) []byte { return impl.Flip(b, 3) }},
		{"Flip from beyond the end", "abc", func(b []byte) []byte { return impl.Flip(b, 9) }},
		{"Flip of nothing", "", func(b []byte) []byte { return impl.Flip(b, 0) }},
	})
}

func TestEscReadersWriteNothing(t *testing.T) {
	for _, s := range []string{"", "\x00", "ab", "a\x00\x01", "a\x00\xffb\x00\x01", "a\x00\x02", "\x00\xff"} {
		a, b := spared(s), spared(s+"x")
		impl.GetEsc(a, 0)
		impl.Before(a, b)
		impl.Before(b, a)
		untouched(t, "reading", a, s)
		untouched(t, "reading", b, s+"x")
	}
}

func TestEscTextIsNewMemory(t *testing.T) {
	b := impl.PutEsc(nil, "x\x00yz")
	s, _, _ := impl.GetEsc(b, 0)
	overwrite(b)
	if s != "x\x00yz" {
		t.Errorf("the text turned into %q with its bytes", s)
	}
}

// The spare room goes on with what would make each of these another answer.
func TestEscSpareRoomIsNotRead(t *testing.T) {
	whole := []byte("a\x00\xffb\x00\x01")
	for n := range whole {
		for at := range n + 1 {
			if s, next, ok := impl.GetEsc(whole[:n], at); s != "" || next != 0 || ok {
				t.Errorf("GetEsc of %d bytes at %d: %q, %d, %v", n, at, s, next, ok)
			}
		}
	}
	if got := impl.Flip(whole[:1], 0); string(got) != "\x9e" {
		t.Errorf("Flip of one byte: %q", got)
	}
	if impl.Before(whole[:1], []byte("a")) {
		t.Error("Before reads behind the first")
	}
	if impl.Before([]byte("a"), whole[:1]) {
		t.Error("Before reads behind the second")
	}
}
