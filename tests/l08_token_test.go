package tests

import (
	"regexp"
	"slices"
	"strconv"
	"strings"
	"testing"
	"unsafe"

	"loop.example/g00322/impl"
)

var (
	_ func(string) ([]impl.Token, int) = impl.Lex
	_ func(impl.Token) bool            = impl.TokenOk
	_ func([]impl.Token) string        = impl.JoinTokens
)

const (
	blanks = " \t\n\r"
	marks  = "{},;"
)

// mostTokens is how many tokens a text has at most.
const mostTokens = 500

func name(s string) impl.Token { return impl.Token{K: impl.KName, S: s} }
func mark(s string) impl.Token { return impl.Token{K: impl.KMark, S: s} }

// told has tokens of their texts: what is a mark stands as one, all else as a name.
func told(texts ...string) []impl.Token {
	var out []impl.Token
	for _, s := range texts {
		if len(s) == 1 && strings.Contains(marks, s) {
			out = append(out, mark(s))
		} else {
			out = append(out, name(s))
		}
	}
	return out
}

// reads asks that Lex has just these tokens, and -1.
func reads(t *testing.T, s string, want []impl.Token) {
	t.Helper()
	if got, place := impl.Lex(s); place != -1 || !slices.Equal(got, want) {
		t.Errorf("Lex(%q) = %v, %d, not %v, -1", s, got, place, want)
	}
}

// stops asks that Lex has nothing, and this place.
func stops(t *testing.T, s string, want int) {
	t.Helper()
	if got, place := impl.Lex(s); place != want || len(got) != 0 {
		t.Errorf("Lex(%q) = %v, %d, not nothing, %d", s, got, place, want)
	}
}

func rightNames() []string {
	return []string{"a", "z", "m", "a0", "z9", "az", "a1b2", "id", "table", "primary", "abcdefgh", "stuvwxyz", "a1234567", "a0000000", "a9b8c7d6", "zzzzzzzz", "eightlet"}
}

func rightTokens() []impl.Token {
	out := []impl.Token{mark("{"), mark("}"), mark(","), mark(";")}
	for _, s := range rightNames() {
		out = append(out, name(s))
	}
	return out
}

// noTexts has texts of which there is no token, of any kind.
func noTexts() []string {
	return []string{
		"", " ", "\t", "\n", "\r", "  ", "\x00", "\x7f", "\x80", "\xff", "\u00e9", "A", "Z", "0", "9", "1a", "Ab", "aB", "abC", "a_b", "_", "-", "a-b",
		"(", ")", "[", "]", "|", "z{", "{z", "`", ":", "/", "@", ".", "'", "abcdefghi", "a12345678", "a\x00", "\x00a", "a\xff", "a\u00e9",
		" a", "a ", "\na", "a\n", "a b", "{ ", " {", "{}", "{{", ",,", ";;", "a,", ",a", "a b c", "aaaaaaaaaaaaaaaaa",
	}
}

func TestKindsOfTokens(t *testing.T) {
	if impl.KName != 1 || impl.KMark != 2 {
		t.Error("kinds", impl.KName, impl.KMark)
	}
}

func TestLexOfNoToken(t *testing.T) {
	for _, s := range textsOf(blanks, 4) {
		reads(t, s, nil)
	}
	reads(t, strings.Repeat(blanks, 1000), nil)
}

func TestLex(t *testing.T) {
	cases := []struct {
		s    string
		want []impl.Token
	}{
		{"a", told("a")},
		{"a1", told("a1")},
		{"{", told("{")},
		{"a b", told("a", "b")},
		{"a\tb\nc\rd e", told("a", "b", "c", "d", "e")},
		{" \r\n\ta \r\n\tb \r\n\t", told("a", "b")},
		{"{},;", told("{", "}", ",", ";")},
		{";;", told(";", ";")},
		{"a{b}c,d;e", told("a", "{", "b", "}", "c", ",", "d", ";", "e")},
		{"a1{b2}c3,d4;e5", told("a1", "{", "b2", "}", "c3", ",", "d4", ";", "e5")},
		{"{a", told("{", "a")},
		{"a{", told("a", "{")},
		{"{a1{", told("{", "a1", "{")},
		{"abcdefgh", told("abcdefgh")},
		{"a1234567", told("a1234567")},
		{"abcdefgh;abcdefgh,abcdefgh", told("abcdefgh", ";", "abcdefgh", ",", "abcdefgh")},
		{"abcdefgh i", told("abcdefgh", "i")},
		{"abcd efgh i", told("abcd", "efgh", "i")},
		{"table t1 {\n id int;a,b}", told("table", "t1", "{", "id", "int", ";", "a", ",", "b", "}")},
		{"table t { a int; b text null; primary a desc; unique u b, a; }\n", told("table", "t", "{", "a", "int", ";", "b", "text", "null", ";", "primary", "a", "desc", ";", "unique", "u", "b", ",", "a", ";", "}")},
	}
	for _, c := range cases {
		reads(t, c.s, c.want)
	}
}

func TestLexOfNames(t *testing.T) {
	for _, s := range rightNames() {
		reads(t, s, told(s))
		for i := range len(blanks) {
			reads(t, s+blanks[i:i+1], told(s))
			reads(t, blanks[i:i+1]+s, told(s))
			reads(t, s+blanks[i:i+1]+"b", told(s, "b"))
		}
		for i := range len(marks) {
			m := marks[i : i+1]
			reads(t, s+m, told(s, m))
			reads(t, m+s, told(m, s))
			reads(t, s+m+s, told(s, m, s))
		}
	}
}

// Behind a name of each length stands each byte: it goes on with the name, ends it, or is none itself.
func TestWhereANameEnds(t *testing.T) {
	for n := 1; n <= 8; n++ {
		s := strings.Repeat("m", n)
		for c := range 256 {
			b := string([]byte{byte(c)})
			switch {
			case strings.Contains(blanks, b):
				reads(t, s+b, told(s))
			case strings.Contains(marks, b):
				reads(t, s+b, told(s, b))
			case !strings.Contains("abcdefghijklmnopqrstuvwxyz0123456789", b):
				stops(t, s+b, n)
				stops(t, " "+s+b+"x", n+1)
			case n == 8:
				stops(t, s+b, 0)
				stops(t, "x "+s+b, 2)
			default:
				reads(t, s+b, told(s+b))
			}
		}
	}
}

// Each byte at the front: a name may begin there, a mark, or nothing.
func TestWhereATokenBegins(t *testing.T) {
	for c := range 256 {
		b := string([]byte{byte(c)})
		switch {
		case strings.Contains(blanks, b):
			reads(t, b, nil)
			reads(t, b+"a", told("a"))
		case strings.Contains(marks, b):
			reads(t, b, told(b))
			reads(t, b+"a", told(b, "a"))
		case 'a' <= c && c <= 'z':
			reads(t, b, told(b))
			reads(t, b+"a", told(b+"a"))
		default:
			stops(t, b, 0)
			stops(t, b+"a", 0)
			stops(t, "; "+b, 2)
			stops(t, ";"+b, 1)
		}
	}
}

func TestLexStops(t *testing.T) {
	cases := []struct {
		s    string
		want int
	}{
		{"1", 0},
		{"1a", 0},
		{"a 1", 2},
		{"a;1b", 2},
		{"A", 0},
		{"Ab", 0},
		{"aB", 1},
		{"aBc", 1},
		{"ab1C2", 3},
		{"tableT", 5},
		{"abcdefghI", 8},
		{"a_b", 1},
		{"a-b", 1},
		{"a.b", 1},
		{"a (", 2},
		{"{ a ] }", 4},
		{"a\x00", 1},
		{"\x00", 0},
		{"\x7f", 0},
		{"\x80", 0},
		{"\xff", 0},
		{"a\xff", 1},
		{"a \xc3\xa9", 2},
		{"a\u00e9b", 1},
		{"\u00a0a", 0},
		{"a\u2003b", 1},
		{"a\x0bb", 1},
		{"a \x0c", 2},
		{"\ufeffa", 0},
		{"abcdefghi", 0},
		{"a12345678", 0},
		{"eightlet9", 0},
		{" ninelette", 1},
		{"a b abcdefghi c", 4},
		{";abcdefghi;", 1},
		{"{}abcdefghijklmnopqrstuvwxyz", 2},
		{"abcdefghi A", 0},
		{"abcdefghiA", 0},
		{"A abcdefghi", 0},
		{"a abcdefghi abcdefghi", 2},
		{"a A A", 2},
		{"\r\n\t A", 4},
		{strings.Repeat("a", 10000), 0},
		{strings.Repeat(" ", 10000) + "A", 10000},
	}
	for _, c := range cases {
		stops(t, c.s, c.want)
	}
}

// At most so many tokens, whatever stands between and behind them.
func TestMostTokens(t *testing.T) {
	for _, unit := range []string{";", "{", "a ", "abcdefgh\n", " ,", "\r\tz9", "} "} {
		s := strings.Repeat(unit, mostTokens)
		one := strings.Trim(unit, blanks)
		all := slices.Repeat(told(one), mostTokens)
		reads(t, s, all)
		reads(t, s+blanks+blanks, all)
		reads(t, s[len(unit):], all[1:])
		stops(t, s+"{", len(s))
		stops(t, s+" {", len(s)+1)
		stops(t, s+"\n\n b", len(s)+3)
		stops(t, s+" b c A", len(s)+1)
		stops(t, s+" abcdefghi", len(s)+1)
		stops(t, s+" A", len(s)+1)
		stops(t, s+s, len(s)+strings.Index(unit, one))
		stops(t, "A"+s+s, 0)
		stops(t, strings.Repeat(unit, mostTokens-1)+"? a", len(s)-len(unit))
	}
}

// Names and marks without a blank between: a mark ends the name, and counts as well.
func TestMostTokensOfNamesAndMarks(t *testing.T) {
	s := strings.Repeat("ab,", mostTokens/2)
	reads(t, s, slices.Repeat(told("ab", ","), mostTokens/2))
	stops(t, s+"ab", len(s))
	stops(t, "x;"+s, len(s)-1)
	stops(t, ";"+s, len(s))
}

var oneToken = regexp.MustCompile(`^(?:([a-z][a-z0-9]*)|[{},;])`)

// lexed reads a text by the words of the document.
func lexed(s string) ([]impl.Token, int) {
	var out []impl.Token
	for at := 0; at < len(s); {
		if strings.IndexByte(blanks, s[at]) >= 0 {
			at++
			continue
		}
		text := oneToken.FindString(s[at:])
		if text == "" || len(text) > 8 || len(out) == mostTokens {
			return nil, at
		}
		out = append(out, told(text)...)
		at += len(text)
	}
	return out, -1
}

func TestLexOfEveryShortText(t *testing.T) {
	texts := textsOf("a0 ;A", 6)
	texts = append(texts, textsOf("az09 \t\n\r{},;", 4)...)
	texts = append(texts, textsOf("b`z|AZ/9:@~\x00\x1f\x7f\x80\xff {}", 3)...)
	for _, front := range []string{"abcdef", "a b cdefghi", ";abcdefgh", "{abcdefg"} {
		for _, s := range textsOf("q7 ,B", 4) {
			texts = append(texts, front+s)
		}
	}
	for _, s := range texts {
		want, wantPlace := lexed(s)
		if got, place := impl.Lex(s); place != wantPlace || !slices.Equal(got, want) {
			t.Fatalf("Lex(%q) = %v, %d, not %v, %d", s, got, place, want, wantPlace)
		}
	}
}

func TestTokenOk(t *testing.T) {
	for _, s := range rightNames() {
		if !impl.TokenOk(name(s)) || impl.TokenOk(mark(s)) {
			t.Errorf("%q is a name, and no mark", s)
		}
	}
	for i := range len(marks) {
		if s := marks[i : i+1]; !impl.TokenOk(mark(s)) || impl.TokenOk(name(s)) {
			t.Errorf("%q is a mark, and no name", s)
		}
	}
	for _, s := range noTexts() {
		if impl.TokenOk(name(s)) || impl.TokenOk(mark(s)) {
			t.Errorf("%q is a token", s)
		}
	}
	long := strings.Repeat("a;", mostTokens)
	if impl.TokenOk(name(long)) || impl.TokenOk(mark(long)) || impl.TokenOk(name(strings.Repeat("a", 1000000))) {
		t.Error("a long text is a token")
	}
}

func TestTokenOkOfOtherKinds(t *testing.T) {
	for _, kind := range []int{0, -1, -2, 3, 4, 9, 255, 256, 257, 258, 1 << 32, 1<<32 + 1, -1 << 63, 1<<63 - 1} {
		for _, s := range append(append(noTexts(), rightNames()...), "{", "}", ",", ";") {
			if impl.TokenOk(impl.Token{K: kind, S: s}) {
				t.Errorf("%q is a token of kind %d", s, kind)
			}
		}
	}
}

func TestTokenOkOfEveryShortText(t *testing.T) {
	isName := regexp.MustCompile(`\A[a-z][a-z0-9]{0,7}\z`)
	isMark := regexp.MustCompile(`\A[{},;]\z`)
	texts := textsOf("az09A_ \n{},;\x00\xff", 3)
	for c := range 256 {
		b := string([]byte{byte(c)})
		texts = append(texts, b, "a"+b, b+"a", "abcdefg"+b, b+";", ";"+b)
	}
	for _, s := range texts {
		if got := impl.TokenOk(name(s)); got != isName.MatchString(s) {
			t.Errorf("%q as a name: %v", s, got)
		}
		if got := impl.TokenOk(mark(s)); got != isMark.MatchString(s) {
			t.Errorf("%q as a mark: %v", s, got)
		}
	}
}

// What Lex answers is right, each of it.
func TestTokensOfTextsAreOk(t *testing.T) {
	for _, s := range textsOf("a0 ;{\n", 5) {
		l, _ := impl.Lex(s)
		for _, token := range l {
			if !impl.TokenOk(token) {
				t.Errorf("Lex(%q) has %v, which is not right", s, token)
			}
		}
	}
}

func TestJoinTokens(t *testing.T) {
	cases := []struct {
		l    []impl.Token
		want string
	}{
		{nil, ""},
		{[]impl.Token{}, ""},
		{told("a"), "a"},
		{told(";"), ";"},
		{told("a", "b"), "a b"},
		{told("{", "}"), "{ }"},
		{told("a", ",", "b"), "a , b"},
		{told("table", "t", "{", "id", "int", ";", "}"), "table t { id int ; }"},
		{[]impl.Token{{}}, ""},
		{[]impl.Token{{}, {}}, " "},
		{[]impl.Token{{}, {}, {}}, "  "},
		{[]impl.Token{name("a"), {}, name("b")}, "a  b"},
		{[]impl.Token{{}, name("a")}, " a"},
		{[]impl.Token{name("a"), {}}, "a "},
		{[]impl.Token{{K: 7, S: "A b"}, {K: -1, S: "\xff\x00"}, {K: 0, S: "'"}}, "A b \xff\x00 '"},
		{[]impl.Token{name("{"), mark("a"), name("abcdefghij")}, "{ a abcdefghij"},
		{[]impl.Token{name(" "), name("\n")}, "  \n"},
		{slices.Repeat(told(";"), 501), strings.Repeat("; ", 500) + ";"},
	}
	for _, c := range cases {
		if got := impl.JoinTokens(c.l); got != c.want {
			t.Errorf("JoinTokens(%v) = %q, not %q", c.l, got, c.want)
		}
	}
}

func comesBack(t *testing.T, l []impl.Token) {
	t.Helper()
	s := impl.JoinTokens(l)
	if got, place := impl.Lex(s); place != -1 || !slices.Equal(got, l) {
		t.Errorf("%v, joined %q, comes back as %v, %d", l, s, got, place)
	}
}

func TestJoinedTokensComeBack(t *testing.T) {
	comesBack(t, nil)
	for _, a := range rightTokens() {
		comesBack(t, []impl.Token{a})
		for _, b := range rightTokens() {
			comesBack(t, []impl.Token{a, b})
			for _, c := range rightTokens() {
				comesBack(t, []impl.Token{a, b, c})
			}
		}
	}
}

func TestManyJoinedTokensComeBack(t *testing.T) {
	var l []impl.Token
	for i := range mostTokens {
		l = append(l, rightTokens()[i*i%len(rightTokens())])
		comesBack(t, l)
	}
	for _, last := range rightTokens() {
		stops(t, impl.JoinTokens(append(slices.Clip(l), last)), len(impl.JoinTokens(l))+1)
	}
	var names []impl.Token
	for i := range mostTokens {
		names = append(names, name("n"+strconv.Itoa(i*9173)))
	}
	comesBack(t, names)
}

// A token that is not right has its text stand for others, for none, or for nothing that can be read.
func TestWrongTokensDoNotComeBack(t *testing.T) {
	for _, s := range noTexts() {
		for _, wrong := range []impl.Token{name(s), mark(s), {S: s}, {K: 3, S: s}} {
			l := []impl.Token{name("a"), wrong, mark(";")}
			if got, _ := impl.Lex(impl.JoinTokens(l)); slices.Equal(got, l) {
				t.Errorf("%v comes back", l)
			}
		}
	}
}

// What was read, joined and read again, is the same, whatever blanks stood there.
func TestReadTokensComeBack(t *testing.T) {
	for _, s := range textsOf("a0 ;{\n", 5) {
		if l, place := impl.Lex(s); place == -1 {
			comesBack(t, l)
		}
	}
}

// within tells whether the bytes of one text lie in those of another.
func within(part string, all string) bool {
	if part == "" || all == "" {
		return false
	}
	at, from := uintptr(unsafe.Pointer(unsafe.StringData(part))), uintptr(unsafe.Pointer(unsafe.StringData(all)))
	return from <= at && at < from+uintptr(len(all))
}

func TestTextsOfTokensAreNewMemory(t *testing.T) {
	for _, source := range []string{"a", ";", "abcdefgh", "table t1 {\n id int;a,b}"} {
		s := strings.Clone(source)
		l, place := impl.Lex(s)
		if place != -1 || len(l) == 0 {
			t.Fatal(s, l, place)
		}
		for _, token := range l {
			if within(token.S, s) {
				t.Errorf("Lex(%q): %v shares memory with the text", s, token)
			}
		}
	}
}

func TestJoinedTextIsNewMemory(t *testing.T) {
	for _, l := range [][]impl.Token{told("abcdefgh"), told("abcdefgh", ";"), {{}, name("abcdefgh")}, {name("abcdefgh"), {}}, {{S: "a longer text"}}} {
		l = slices.Clone(l)
		for i := range l {
			l[i].S = strings.Clone(l[i].S)
		}
		s := impl.JoinTokens(l)
		for _, token := range l {
			if within(token.S, s) || within(s, token.S) {
				t.Errorf("JoinTokens(%v) shares memory with a token", l)
			}
		}
	}
}

func TestTokenListsAreNewMemory(t *testing.T) {
	for _, s := range []string{"", " ", "a", "a b c", "a;b", "A", "a A", strings.Repeat(";", mostTokens), strings.Repeat(";", mostTokens+1)} {
		first, _ := impl.Lex(s)
		second, _ := impl.Lex(s)
		want := slices.Clone(second)
		first = first[:cap(first)]
		for i := range first {
			first[i] = impl.Token{K: 77, S: "overwritten"}
		}
		if third, _ := impl.Lex(s); !slices.Equal(second, want) || !slices.Equal(third, want) {
			t.Errorf("Lex(%q): two answers share memory", s)
		}
	}
}

// The spare room behind a list is neither read nor written.
func TestTokensWriteIntoNoArgument(t *testing.T) {
	all := append(told("a", ";", "b"), impl.Token{K: 9, S: "C"}, name("d"), mark("}"))
	for n := range all {
		l := slices.Clone(all)
		var texts []string
		for _, token := range all[:n] {
			texts = append(texts, token.S)
		}
		if got, want := impl.JoinTokens(l[:n]), strings.Join(texts, " "); got != want {
			t.Errorf("JoinTokens(%v) = %q, not %q", l[:n], got, want)
		}
		for _, token := range l {
			impl.TokenOk(token)
		}
		if !slices.Equal(l, all) {
			t.Errorf("the tokens turned into %v", l)
		}
	}
}
