package tests

import (
	"math"
	"slices"
	"strconv"
	"strings"
	"testing"
	"unsafe"

	"loop.example/g00322/impl"
)

var (
	_ func(impl.Val) bool               = impl.ValOk
	_ func(impl.Val, impl.Val) bool     = impl.SameVal
	_ func(impl.Val, impl.Val) bool     = impl.LessVal
	_ func(impl.Val) string             = impl.ValText
	_ func(string) (impl.Val, bool)     = impl.ParseVal
	_ func([]impl.Val, []impl.Val) bool = impl.SameRow
)

const billiard = 1000000000000000

// textOfVal is a value and its text; of what is not ValOk, and of what has no text, the text is empty.
type textOfVal struct {
	v impl.Val
	s string
}

func nothing() impl.Val         { return impl.Val{K: impl.VNull} }
func whole(n int) impl.Val      { return impl.Val{K: impl.VInt, N: n} }
func number(n int) impl.Val     { return impl.Val{K: impl.VNum, N: n} }
func textVal(s string) impl.Val { return impl.Val{K: impl.VText, S: s} }
func flag(n int) impl.Val       { return impl.Val{K: impl.VBool, N: n} }

func valsWithText() []textOfVal {
	most := strings.Repeat("m", impl.MaxText)
	return []textOfVal{
		{nothing(), "null"},
		{whole(0), "i0"},
		{whole(1), "i1"},
		{whole(-1), "i-1"},
		{whole(10), "i10"},
		{whole(-2147483648), "i-2147483648"},
		{whole(-2147483647), "i-2147483647"},
		{whole(2147483646), "i2147483646"},
		{whole(2147483647), "i2147483647"},
		{number(0), "n0"},
		{number(7), "n7"},
		{number(-7), "n-7"},
		{number(2147483648), "n2147483648"},
		{number(-2147483649), "n-2147483649"},
		{number(billiard - 1), "n999999999999999"},
		{number(billiard), "n1000000000000000"},
		{number(-billiard), "n-1000000000000000"},
		{textVal(""), "''"},
		{textVal("a"), "'a'"},
		{textVal(" "), "' '"},
		{textVal("~"), "'~'"},
		{textVal(" !\"#$%&()*+,-./09:;<=>?@AZ[\\]"), "' !\"#$%&()*+,-./09:;<=>?@AZ[\\]'"},
		{textVal("^_`az{|}~"), "'^_`az{|}~'"},
		{textVal("null"), "'null'"},
		{textVal("i5"), "'i5'"},
		{textVal(most), "'" + most + "'"},
		{flag(0), "no"},
		{flag(1), "yes"},
	}
}

// Right ones that have no text.
func valsWithoutText() []impl.Val {
	out := []impl.Val{
		textVal("it's"),
		textVal("'"),
		textVal("''"),
		textVal("a\n"),
		textVal("\u00e9"),
		textVal("\xff\xfe"),
		textVal(strings.Repeat("\x00", impl.MaxText)),
		textVal(strings.Repeat("a", impl.MaxText-1) + "\x7f"),
	}
	for b := range 256 {
		if b < 32 || b > 126 {
			out = append(out, textVal(string([]byte{byte(b)})), textVal("a"+string([]byte{byte(b)})+"b"))
		}
	}
	return out
}

func wrongVals() []impl.Val {
	return []impl.Val{
		{N: 1},
		{N: -1},
		{S: "a"},
		{S: "\x00"},
		whole(2147483648),
		whole(-2147483649),
		whole(billiard),
		whole(math.MaxInt),
		whole(math.MinInt),
		whole(1 << 32),
		{K: impl.VInt, S: "a"},
		{K: impl.VInt, N: 5, S: "5"},
		number(billiard + 1),
		number(-billiard - 1),
		number(math.MaxInt),
		number(math.MinInt),
		{K: impl.VNum, S: "a"},
		{K: impl.VNum, N: 5, S: "5"},
		textVal(strings.Repeat("a", impl.MaxText+1)),
		textVal(strings.Repeat("a", 1000)),
		textVal(strings.Repeat("\u00e9", 16)),
		{K: impl.VText, N: 1},
		{K: impl.VText, N: -1, S: "a"},
		flag(2),
		flag(-1),
		flag(256),
		flag(math.MinInt),
		{K: impl.VBool, S: "a"},
		{K: impl.VBool, N: 1, S: "yes"},
		{K: 5},
		{K: 5, N: 1},
		{K: 6, S: "a"},
		{K: -1},
		{K: 256 + impl.VInt, N: 1},
		{K: math.MaxInt},
		{K: math.MinInt},
	}
}

func allVals() []impl.Val {
	var out []impl.Val
	for _, c := range valsWithText() {
		out = append(out, c.v)
	}
	return slices.Concat(out, valsWithoutText(), wrongVals())
}

func TestKindsOfVals(t *testing.T) {
	for want, kind := range []int{impl.VNull, impl.VInt, impl.VNum, impl.VText, impl.VBool} {
		if kind != want {
			t.Errorf("kind %d is %d", want, kind)
		}
	}
	if impl.MaxText != 30 {
		t.Errorf("MaxText is %d", impl.MaxText)
	}
}

func TestValOk(t *testing.T) {
	for _, c := range valsWithText() {
		if !impl.ValOk(c.v) {
			t.Errorf("%#v is not right", c.v)
		}
	}
	for _, v := range valsWithoutText() {
		if !impl.ValOk(v) {
			t.Errorf("%#v is not right", v)
		}
	}
	for _, v := range wrongVals() {
		if impl.ValOk(v) {
			t.Errorf("%#v is right", v)
		}
	}
}

func TestValsComeBackOfTheirTexts(t *testing.T) {
	for _, c := range valsWithText() {
		if got := impl.ValText(c.v); got != c.s {
			t.Errorf("the text of %#v is %q", c.v, got)
		}
		if got, ok := impl.ParseVal(c.s); got != c.v || !ok {
			t.Errorf("%q came back as %#v, %v", c.s, got, ok)
		}
	}
}

func TestNumbersComeBackOfTheirTexts(t *testing.T) {
	for n := 1; n <= billiard; n = n*3 + 1 {
		for _, n := range []int{n, -n} {
			s := strconv.Itoa(n)
			if got, ok := impl.ParseVal("n" + s); got != number(n) || !ok || impl.ValText(number(n)) != "n"+s {
				t.Errorf("n%s came back as %#v, %v", s, got, ok)
			}
			fits := -2147483648 <= n && n <= 2147483647
			if got, ok := impl.ParseVal("i" + s); ok != fits || fits && got != whole(n) || !fits && got != nothing() {
				t.Errorf("i%s came back as %#v, %v", s, got, ok)
			}
		}
	}
}

func TestTextsOfEachByte(t *testing.T) {
	for b := range 256 {
		s := "x" + string([]byte{byte(b)}) + "y"
		plain := 32 <= b && b <= 126 && b != '\''
		want := ""
		if plain {
			want = "'" + s + "'"
		}
		if got := impl.ValText(textVal(s)); got != want {
			t.Errorf("the text of %q is %q", s, got)
		}
		got, ok := impl.ParseVal("'" + s + "'")
		if ok != plain || plain && got != textVal(s) || !plain && got != nothing() {
			t.Errorf("%q in quotes came back as %#v, %v", s, got, ok)
		}
	}
}

func TestValsWithoutText(t *testing.T) {
	for _, v := range slices.Concat(valsWithoutText(), wrongVals()) {
		if got := impl.ValText(v); got != "" {
			t.Errorf("the text of %#v is %q", v, got)
		}
	}
}

func TestParseValRefuses(t *testing.T) {
	for _, s := range []string{
		"",
		" ", "x", "x1", "5", "-5", "0", "+", "-", "\x00",
		"nul", "nulll", "null ", " null", "Null", "NULL", "null0", "nil",
		"yess", "ye", "y", "yes ", " yes", "Yes", "YES", "yes1", "yesno",
		"nope", "no ", " no", "No", "NO", "no0", "noo", "nono", "true", "false", "1",
		"i", "i ", "i-", "i+", "i+1", "i+0", "i-0", "i00", "i01", "i-01", "i-00", "i--1", "i-+1", "i 1", "i1 ", "i1x", "ix", "i1.0", "i1_0", "i0x1", "i1e3", "I1", "ii1", "i'1'",
		"i2147483648", "i-2147483649", "i02147483647", "i4294967296", "i4294967297", "i9223372036854775807", "i-9223372036854775808",
		"i9223372036854775808", "i-9223372036854775809", "i18446744073709551616", "i18446744073709551617", "i" + strings.Repeat("9", 100), "i-" + strings.Repeat("9", 100), "i" + strings.Repeat("0", 100) + "1",
		"n", "n ", "n-", "n+", "n+1", "n+0", "n-0", "n00", "n01", "n-01", "n-00", "n--1", "n-+1", "n 1", "n1 ", "n1x", "nx", "n1.0", "n1_0", "n0x1", "n1e3", "N1", "nn1", "n'1'",
		"n1000000000000001", "n-1000000000000001", "n01000000000000000", "n9223372036854775807", "n-9223372036854775808",
		"n9223372036854775808", "n-9223372036854775809", "n18446744073709551616", "n18446744073709551617", "n" + strings.Repeat("9", 100), "n-" + strings.Repeat("9", 100), "n" + strings.Repeat("0", 100) + "1",
		"i\u0661", "n\u0661",
		"'", "'a", "a'", "'''", "''''", "'it's'", "'a''b'", "'a' ", " 'a'", "'a'b", "''a", "a''", "'\x1f'", "'\x7f'", "'\n'", "'\u00e9'", "\"a\"", "`a`",
		"'" + strings.Repeat("a", impl.MaxText+1) + "'", "'" + strings.Repeat("a", 1000) + "'", "'" + strings.Repeat("a", impl.MaxText), strings.Repeat("a", impl.MaxText) + "'",
	} {
		if got, ok := impl.ParseVal(s); got != (impl.Val{}) || ok {
			t.Errorf("%q came back as %#v, %v", s, got, ok)
		}
	}
}

// What is read must be what would have been told: no value has two forms.
func TestValsHaveOneForm(t *testing.T) {
	const signs = "in-+0129'ulyeso "
	read := 0
	var try func(s string, more int)
	try = func(s string, more int) {
		if v, ok := impl.ParseVal(s); ok {
			read++
			if impl.ValText(v) != s || !impl.ValOk(v) {
				t.Fatalf("%q was read as %#v, which is told as %q", s, v, impl.ValText(v))
			}
		}
		for i := 0; more > 0 && i < len(signs); i++ {
			try(s+signs[i:i+1], more-1)
		}
	}
	try("", 4)
	if read == 0 {
		t.Error("nothing was read")
	}
}

// lessByFields is the order by its own words: the lower K first, of one K the lower N, then the lower S.
func lessByFields(a, b impl.Val) bool {
	if a.K != b.K {
		return a.K < b.K
	}
	if a.N != b.N {
		return a.N < b.N
	}
	return a.S < b.S
}

func TestOfTwoUnlikeOneIsLess(t *testing.T) {
	vals := allVals()
	for i, a := range vals {
		for j, b := range vals {
			same := impl.SameVal(a, b)
			if same != (i == j) {
				t.Fatalf("%#v and %#v: same %v", a, b, same)
			}
			if got := impl.LessVal(a, b); got != lessByFields(a, b) {
				t.Fatalf("%#v and %#v: less %v", a, b, got)
			}
			if impl.LessVal(a, b) == impl.LessVal(b, a) && !same {
				t.Fatalf("%#v and %#v: neither is less, or both", a, b)
			}
		}
	}
}

func TestLessVal(t *testing.T) {
	ascending := []impl.Val{
		{K: math.MinInt, N: 9, S: "z"},
		{K: -1, N: 9, S: "z"},
		{S: ""},
		{S: "a"},
		{N: 1},
		whole(math.MinInt),
		whole(-2147483648),
		whole(-2),
		whole(-1),
		whole(0),
		{K: impl.VInt, S: "a"},
		whole(1),
		whole(2147483647),
		whole(math.MaxInt),
		number(math.MinInt),
		number(-billiard),
		number(-1),
		number(0),
		number(billiard),
		number(math.MaxInt),
		{K: impl.VText, N: -1, S: "z"},
		textVal(""),
		textVal("\x00"),
		textVal("\x00\x00"),
		textVal("\x00a"),
		textVal("A"),
		textVal("a"),
		textVal("a\x00"),
		textVal("aa"),
		textVal("ab"),
		textVal("b"),
		textVal("b" + strings.Repeat("z", 40)),
		textVal("\x7f"),
		textVal("\x80"),
		textVal("\u00e9"),
		textVal("\xff"),
		{K: impl.VText, N: 1},
		flag(-1),
		flag(0),
		flag(1),
		{K: impl.VBool, N: 1, S: "a"},
		flag(2),
		{K: 5, N: -9},
		{K: math.MaxInt, N: math.MinInt},
	}
	for i, a := range ascending {
		for j, b := range ascending {
			if impl.LessVal(a, b) != (i < j) || impl.SameVal(a, b) != (i == j) {
				t.Errorf("%#v and %#v: less %v, same %v", a, b, impl.LessVal(a, b), impl.SameVal(a, b))
			}
		}
	}
}

// Alike in what is told, or in all fields but one, is not alike.
func TestSameVal(t *testing.T) {
	long := strings.Repeat("q", 100)
	cases := []struct {
		a, b impl.Val
		want bool
	}{
		{impl.Val{}, nothing(), true},
		{whole(5), whole(5), true},
		{textVal("ab"), textVal(strings.Clone("ab")), true},
		{textVal(long), textVal(strings.Clone(long)), true},
		{impl.Val{K: 9, N: 8, S: "x"}, impl.Val{K: 9, N: 8, S: "x"}, true},
		{impl.Val{K: 9, N: 8, S: "x"}, impl.Val{K: 9, N: 8, S: "y"}, false},
		{impl.Val{K: 9, N: 8, S: "x"}, impl.Val{K: 9, N: 7, S: "x"}, false},
		{impl.Val{K: 9, N: 8, S: "x"}, impl.Val{K: 8, N: 8, S: "x"}, false},
		{whole(5), number(5), false},
		{whole(1), flag(1), false},
		{nothing(), whole(0), false},
		{nothing(), textVal(""), false},
		{nothing(), impl.Val{N: 1}, false},
		{nothing(), impl.Val{S: "a"}, false},
		{whole(5), impl.Val{K: impl.VInt, N: 5, S: "5"}, false},
		{textVal("a"), impl.Val{K: impl.VText, N: 1, S: "a"}, false},
		{flag(1), flag(2), false},
		{flag(2), flag(2), true},
		{flag(2), flag(3), false},
		{textVal(long + "a"), textVal(long + "b"), false},
		{textVal("a"), textVal("A"), false},
		{textVal("a"), textVal("a\x00"), false},
	}
	for _, c := range cases {
		if got := impl.SameVal(c.a, c.b); got != c.want {
			t.Errorf("%#v and %#v: %v", c.a, c.b, got)
		}
		if got := impl.SameVal(c.b, c.a); got != c.want {
			t.Errorf("%#v and %#v: %v", c.b, c.a, got)
		}
	}
}

func TestSameRow(t *testing.T) {
	a, b, wrong := whole(3), textVal("x"), impl.Val{K: 7, N: 1, S: "w"}
	cases := []struct {
		a, b []impl.Val
		want bool
	}{
		{nil, nil, true},
		{nil, []impl.Val{}, true},
		{[]impl.Val{}, []impl.Val{}, true},
		{[]impl.Val{a}, nil, false},
		{[]impl.Val{{}}, nil, false},
		{[]impl.Val{{}}, []impl.Val{}, false},
		{[]impl.Val{{}}, []impl.Val{{}, {}}, false},
		{[]impl.Val{a}, []impl.Val{a}, true},
		{[]impl.Val{a}, []impl.Val{b}, false},
		{[]impl.Val{a, b}, []impl.Val{a, b}, true},
		{[]impl.Val{a, b}, []impl.Val{b, a}, false},
		{[]impl.Val{a, b}, []impl.Val{a}, false},
		{[]impl.Val{a, b}, []impl.Val{b}, false},
		{[]impl.Val{a, b}, []impl.Val{a, a}, false},
		{[]impl.Val{a, b, a}, []impl.Val{a, b, b}, false},
		{[]impl.Val{a, b, a}, []impl.Val{a, a, a}, false},
		{[]impl.Val{a, b, a}, []impl.Val{b, b, a}, false},
		{[]impl.Val{wrong}, []impl.Val{wrong}, true},
		{[]impl.Val{wrong}, []impl.Val{{K: 7, N: 1}}, false},
		{[]impl.Val{whole(1)}, []impl.Val{number(1)}, false},
		{allVals(), allVals(), true},
	}
	for _, c := range cases {
		if got := impl.SameRow(c.a, c.b); got != c.want {
			t.Errorf("%#v and %#v: %v", c.a, c.b, got)
		}
		if got := impl.SameRow(c.b, c.a); got != c.want {
			t.Errorf("%#v and %#v: %v", c.b, c.a, got)
		}
	}
}

func TestSameRowLooksNoFurther(t *testing.T) {
	row := []impl.Val{whole(1), whole(2), whole(3)}
	other := []impl.Val{whole(1), whole(2), whole(4)}
	if !impl.SameRow(row[:2], other[:2]) {
		t.Error("what lies behind the length counts")
	}
	if impl.SameRow(row[:2], row) || impl.SameRow(row[:0], row) {
		t.Error("a beginning is the whole")
	}
	if !slices.Equal(row, []impl.Val{whole(1), whole(2), whole(3)}) || !slices.Equal(other, []impl.Val{whole(1), whole(2), whole(4)}) {
		t.Error("an argument is written into")
	}
}

func TestTextOfParsedValIsNewMemory(t *testing.T) {
	s := "'" + strings.Repeat("k", 20) + "'"
	v, ok := impl.ParseVal(s)
	if !ok || unsafe.StringData(v.S) == unsafe.StringData(s[1:]) {
		t.Errorf("%#v, %v shares memory with what was read", v, ok)
	}
}
