package tests

import (
	"fmt"
	"math/rand"
	"regexp"
	"slices"
	"strconv"
	"strings"
	"testing"

	"loop.example/g00322/impl"
)

var (
	_ func(string) ([]impl.Def, bool) = impl.ParseDefs
	_ func([]impl.Def) string         = impl.DefsText
	_ func([]impl.Def) int            = impl.FirstBad
)

// mostTables is how many tables a text has at most.
const mostTables = 3

func tables(l ...impl.Def) []impl.Def { return l }

func renamed(d impl.Def, name string) impl.Def {
	d = copied(d)
	d.Name = name
	return d
}

// sameTables goes by the fields, not by what is asked.
func sameTables(a []impl.Def, b []impl.Def) bool { return slices.EqualFunc(a, b, sameAll) }

// wordsText writes tables that are right by the chapter's words.
func wordsText(l []impl.Def) string {
	out := ""
	for _, d := range l {
		out += textOf(d) + "\n"
	}
	return out
}

// allKinds has six columns: each type, and each that may be nothing; a key and both indexes of two parts.
func allKinds() impl.Def {
	return impl.Def{
		Name: "kinds",
		Cols: []impl.Col{
			{Name: "a", Type: impl.TInt}, {Name: "b", Type: impl.TNum}, {Name: "c", Type: impl.TText},
			{Name: "d", Type: impl.TBool}, {Name: "e", Type: impl.TInt, Null: true}, {Name: "f", Type: impl.TText, Null: true},
		},
		Primary: by(up(3), down(1)),
		Indexes: []impl.Index{unique("e", down(4), up(2)), index("w", up(0), down(5))},
	}
}

// beginnings has columns whose names begin each other, the longest first and last.
func beginnings() impl.Def {
	return impl.Def{
		Name:    "ab",
		Cols:    []impl.Col{{Name: "ab", Type: impl.TInt}, {Name: "a", Type: impl.TInt}, {Name: "b", Type: impl.TInt}, {Name: "abc", Type: impl.TInt}},
		Primary: by(up(1), up(3)),
		Indexes: []impl.Index{index("a", up(2), up(0)), unique("abcd", down(3), up(1))},
	}
}

// fullTable has as many tokens as a table may have.
func fullTable() impl.Def {
	d := impl.Def{Name: "most", Primary: by(down(0), down(1)), Indexes: []impl.Index{unique("x", down(5), down(4)), unique("y", down(3), down(2))}}
	for i := range 6 {
		d.Cols = append(d.Cols, impl.Col{Name: "column0" + strconv.Itoa(i), Type: 1 + i%4, Null: i > 1})
	}
	return d
}

func goodLists() [][]impl.Def {
	out := [][]impl.Def{nil, {}}
	for _, c := range slices.Concat(rightDefs(), likeNamed()) {
		out = append(out, tables(c.d))
	}
	return append(out,
		tables(allKinds()),
		tables(fullTable()),
		tables(beginnings()),
		tables(oneCol(), fourCols()),
		tables(fourCols(), oneCol()),
		tables(oneCol(), renamed(oneCol(), "u")),
		tables(renamed(oneCol(), "a"), oneCol()),
		tables(oneCol(), fourCols(), allKinds()),
		tables(allKinds(), oneCol(), fourCols()),
		tables(renamed(oneCol(), "x"), renamed(oneCol(), "y"), renamed(oneCol(), "z")),
		tables(fullTable(), renamed(fullTable(), "most2"), renamed(fullTable(), "most3")),
	)
}

// parses asks that just these tables are read.
func parses(t *testing.T, s string, want []impl.Def) {
	t.Helper()
	if got, ok := impl.ParseDefs(s); !ok || !sameTables(got, want) {
		t.Errorf("ParseDefs(%q) = %+v, %v, not %+v, true", s, got, ok, want)
	}
}

// parsesNot asks that nothing is read.
func parsesNot(t *testing.T, what string, s string) {
	t.Helper()
	if got, ok := impl.ParseDefs(s); ok || len(got) != 0 {
		t.Errorf("%s: ParseDefs(%q) = %+v, %v, not nothing, false", what, s, got, ok)
	}
}

func TestTablesComeBackOfTheirText(t *testing.T) {
	for _, l := range goodLists() {
		want := wordsText(l)
		if got := impl.DefsText(l); got != want {
			t.Errorf("DefsText(%+v) = %q, not %q", l, got, want)
		}
		parses(t, want, l)
		if got := impl.FirstBad(l); got != -1 {
			t.Errorf("FirstBad(%+v) = %d", l, got)
		}
	}
}

// Written out, so that no writer stands between.
func TestParseDefs(t *testing.T) {
	parses(t, "", nil)
	parses(t, "table t { a int; primary a; }", tables(oneCol()))
	parses(t, "table t { a int; primary a; }\ntable u { a int; primary a; }\n", tables(oneCol(), renamed(oneCol(), "u")))
	parses(t, "table kinds { a int; b num; c text; d bool; e int null; f text null; primary d, b desc; unique e e desc, c; index w a, f desc; }", tables(allKinds()))
	two := impl.Def{Name: "t", Cols: []impl.Col{{Name: "b", Type: impl.TNum, Null: true}, {Name: "a", Type: impl.TBool}}, Primary: by(down(1))}
	parses(t, "table t { b num null; a bool; primary a desc; }", tables(two))
	two.Indexes = []impl.Index{index("i", up(0)), unique("u", down(0), down(1))}
	parses(t, "table t { b num null; a bool; primary a desc; index i b; unique u b desc, a desc; }", tables(two))
	two.Indexes = []impl.Index{unique("a", up(1), down(0))}
	parses(t, "table t { b num null; a bool; primary a desc; unique a a, b desc; }", tables(two))
}

// spaced joins tokens by what between has for each place: ahead of the first, between each two, and behind the last.
func spaced(l []impl.Token, between func(place int, needed bool) string) string {
	var text strings.Builder
	for i, token := range l {
		needed := i > 0 && token.K == impl.KName && l[i-1].K == impl.KName
		text.WriteString(between(i, needed) + token.S)
	}
	return text.String() + between(len(l), false)
}

func TestBlanksDoNotMatter(t *testing.T) {
	r := rand.New(rand.NewSource(10))
	some := func() string {
		out := ""
		for range 1 + r.Intn(3) {
			out += string(blanks[r.Intn(len(blanks))])
		}
		return out
	}
	ways := []func(place int, needed bool) string{
		func(_ int, needed bool) string {
			if needed {
				return " "
			}
			return ""
		},
		func(int, bool) string { return " " },
		func(int, bool) string { return "\t" },
		func(int, bool) string { return "\n" },
		func(int, bool) string { return "\r" },
		func(int, bool) string { return "\r\n\t  " },
		func(place int, _ bool) string { return strings.Repeat(" ", 1+place%7) },
		func(int, bool) string { return some() },
		func(_ int, needed bool) string {
			if needed || r.Intn(2) == 0 {
				return some()
			}
			return ""
		},
	}
	for _, l := range goodLists() {
		tokens, _ := lexed(wordsText(l))
		for _, between := range ways {
			parses(t, spaced(tokens, between), l)
		}
	}
	for _, s := range textsOf(blanks, 4) {
		parses(t, s, nil)
		parses(t, s+"table t{a int;primary a;}"+s, tables(oneCol()))
	}
}

type wrongText struct {
	what string
	s    string
}

// inList has a text for each place where a list of parts stands: the key, an index that is unique, and another.
func inList(what string, parts string) []wrongText {
	const head = "table t { a int; b num; c text; "
	return []wrongText{
		{what + " in the key", head + "primary " + parts + "; }"},
		{what + " in the key, with an index", head + "primary " + parts + "; index x a; }"},
		{what + " in a unique index", head + "primary a; unique x " + parts + "; }"},
		{what + " in an index", head + "primary a; index x " + parts + "; }"},
		{what + " in the first index", head + "primary a; index x " + parts + "; unique y b; }"},
		{what + " in the second index", head + "primary a; unique y b; index x " + parts + "; }"},
	}
}

func wrongCommas() []wrongText {
	return slices.Concat(
		inList("a comma behind the only part", "a,"),
		inList("a comma behind the only part, which is desc", "a desc,"),
		inList("a comma behind the last part", "a, b,"),
		inList("a comma behind the last part, which is desc", "a, b desc,"),
		inList("a comma ahead of the only part", ", a"),
		inList("a comma ahead of the first part", ", a, b"),
		inList("two commas in a row", "a,, b"),
		inList("two commas in a row, spaced", "a , , b"),
		inList("three commas in a row", "a,,, b"),
		inList("two commas behind the last part", "a,,"),
		inList("a comma alone", ","),
		inList("two commas alone", ",,"),
		inList("a comma too few", "a b"),
		inList("a comma too few behind desc", "a desc b"),
		inList("a comma too few, both desc", "a desc b desc"),
		inList("a comma between a part and its desc", "a, desc"),
		inList("a comma on both sides of desc", "a, desc, b"),
		inList("a semicolon in the place of a comma", "a; b"),
	)
}

func wrongPartTexts() []wrongText {
	return slices.Concat(
		inList("no part", ""),
		inList("desc alone", "desc"),
		inList("desc ahead of its part", "desc a"),
		inList("desc twice", "a desc desc"),
		inList("desc twice at the second part", "a, b desc desc"),
		inList("null behind a part", "a null"),
		inList("null and desc behind a part", "a desc null"),
		inList("a part that names no column", "d"),
		inList("a second part that names no column", "a, d"),
		inList("a first part that names no column", "d, a"),
		inList("a part that is the table's name", "t"),
		inList("a part that is an index's name", "x"),
		inList("a part that is a word", "primary"),
		inList("a part that is a type", "int"),
		inList("a part that is a column's beginning", "a, ba"),
		inList("one column twice", "a, a"),
		inList("one column twice, once desc", "a, a desc"),
		inList("one column twice, both desc", "b desc, b desc"),
		inList("a third part", "a, b, c"),
		inList("a third part, desc", "a desc, b desc, c desc"),
		inList("a third part that stands ahead", "a, b, a"),
		inList("a bracket ahead of the parts", "{ a"),
		inList("a bracket behind the parts", "a }"),
		inList("a column's form as a part", "a int"),
	)
}

// wrongColumns has what is wrong in the place of the columns, with a key and an index behind that are right.
func wrongColumns() []wrongText {
	cases := []wrongText{
		{"no type", "a; b num;"},
		{"no name", "int; b num;"},
		{"a type that is none", "a float; b num;"},
		{"a type that goes on", "a ints; b num;"},
		{"a type that is cut", "a in; b num;"},
		{"a type that is a mark", "a ,; b num;"},
		{"a name that is a mark", "{ int; a int; b num;"},
		{"two types", "a int int; b num;"},
		{"two unlike types", "a int num; b num;"},
		{"two names", "a a int; b num;"},
		{"the type ahead of the name", "int a; b num;"},
		{"null twice", "a int; b num null null;"},
		{"null ahead of the type", "a int; b null num;"},
		{"null ahead of the name", "a int; null b num;"},
		{"null in the place of the type", "a int; b null;"},
		{"desc behind the type", "a int desc; b num;"},
		{"desc behind null", "a int; b num null desc;"},
		{"no semicolon between", "a int b num;"},
		{"no semicolon behind null", "a int; c int null b num;"},
		{"no semicolon behind the last", "a int; b num"},
		{"two semicolons between", "a int;; b num;"},
		{"two semicolons behind the last", "a int; b num;;"},
		{"a semicolon ahead of the first", "; a int; b num;"},
		{"a semicolon behind the name", "a; int; b num;"},
		{"a semicolon ahead of null", "a int; b num; null;"},
		{"a comma between", "a int, b num;"},
		{"a comma behind the last", "a int; b num;,"},
		{"a bracket ahead of the first", "{ a int; b num;"},
		{"a bracket behind the last", "a int; b num; }"},
		{"a bracket between", "a int; { b num;"},
		{"a seventh column", "a int; b num; c int; d int; e int; f int; g int;"},
		{"an eighth column", "a int; b num; c int; d int; e int; f int; g int; h int;"},
		{"two columns of one name", "a int; b num; a int;"},
		{"two columns of one name, of unlike types", "a int; b num; c int; b text;"},
		{"an index ahead of the key", "a int; b num; index x a;"},
		{"a unique index ahead of the key", "a int; b num; unique x a;"},
	}
	var out []wrongText
	for _, c := range cases {
		out = append(out, wrongText{c.what, "table t { " + c.s + " primary a; index v b; }"}, wrongText{c.what + ", no index", "table t { " + c.s + " primary b; }"})
	}
	return out
}

func wrongTables() []wrongText {
	return []wrongText{
		{"a word alone", "table"},
		{"a name alone", "x"},
		{"a mark alone", ";"},
		{"a comma alone", ","},
		{"brackets alone", "{}"},
		{"a name and nothing behind", "table t"},
		{"brackets around nothing", "table t {}"},
		{"no table", "t { a int; primary a; }"},
		{"another word", "tables t { a int; primary a; }"},
		{"table twice", "table table t { a int; primary a; }"},
		{"table behind its name", "t table { a int; primary a; }"},
		{"no name of the table", "table { a int; primary a; }"},
		{"two names of the table", "table t t { a int; primary a; }"},
		{"a mark as the table's name", "table , { a int; primary a; }"},
		{"no bracket ahead", "table t a int; primary a; }"},
		{"no bracket behind", "table t { a int; primary a;"},
		{"no brackets", "table t a int; primary a;"},
		{"two brackets ahead", "table t {{ a int; primary a; }"},
		{"two brackets behind", "table t { a int; primary a; }}"},
		{"brackets the wrong way", "table t } a int; primary a; {"},
		{"a bracket of the other kind ahead", "table t } a int; primary a; }"},
		{"a bracket of the other kind behind", "table t { a int; primary a; {"},
		{"a semicolon behind the table", "table t { a int; primary a; };"},
		{"a comma behind the table", "table t { a int; primary a; },"},
		{"a semicolon ahead of the bracket", "table t; { a int; primary a; }"},
		{"a name behind the table", "table t { a int; primary a; } x"},
		{"table behind the table", "table t { a int; primary a; } table"},
		{"a second table that ends early", "table t { a int; primary a; } table u { a int; primary a;"},
		{"a comma between tables", "table t { a int; primary a; }, table u { a int; primary a; }"},
		{"a table within a table", "table t { a int; primary a; table u { a int; primary a; } }"},
		{"no column", "table t { primary a; }"},
		{"no column and no part", "table t { primary; }"},
		{"no key", "table t { a int; }"},
		{"no key ahead of an index", "table t { a int; index x a; }"},
		{"the key's word missing", "table t { a int; a; }"},
		{"the key twice", "table t { a int; primary a; primary a; }"},
		{"primary twice", "table t { a int; primary primary a; }"},
		{"the key ahead of a column", "table t { a int; primary a; b int; }"},
		{"the key ahead of all columns", "table t { primary a; a int; }"},
		{"the key behind an index", "table t { a int; index x a; primary a; }"},
		{"the key behind each index", "table t { a int; index x a; unique y a; primary a; }"},
		{"the key ahead of and behind an index", "table t { a int; primary a; index x a; primary a; }"},
		{"a column behind an index", "table t { a int; primary a; index x a; b int; }"},
		{"no semicolon behind the key", "table t { a int; primary a }"},
		{"no semicolon between key and index", "table t { a int; primary a index x a; }"},
		{"two semicolons behind the key", "table t { a int; primary a;; }"},
		{"a name of the key", "table t { a int; primary k a; }"},
		{"a key that is unique", "table t { a int; unique primary a; }"},
	}
}

func wrongIndexTexts() []wrongText {
	cases := []wrongText{
		{"a third index", "index x a; index y a; index z a;"},
		{"a third index, all unique", "unique x a; unique y b; unique z a, b;"},
		{"a fourth index", "index x a; unique y a; index z a; unique w a;"},
		{"two indexes of one name", "index x a; index x b;"},
		{"two indexes of one name, one unique", "index x a; unique x b;"},
		{"no name of the index", "index a;"},
		{"no name of the unique index", "unique b;"},
		{"a mark as the index's name", "index , a;"},
		{"no word of the index", "x a;"},
		{"another word", "key x a;"},
		{"a word that is cut", "uniq x a;"},
		{"both words", "unique index x a;"},
		{"both words the other way", "index unique x a;"},
		{"a word twice", "index index x a;"},
		{"unique behind the name", "index x unique a;"},
		{"the name behind the part", "index a x;"},
		{"no semicolon behind an index", "index x a"},
		{"no semicolon between indexes", "index x a index y b;"},
		{"two semicolons behind an index", "index x a;;"},
		{"a semicolon behind the index's name", "index x; a;"},
		{"a comma behind the index's name", "index x, a;"},
		{"a comma between indexes", "index x a, index y b;"},
		{"a bracket around the parts", "index x { a };"},
		{"the words alone", "index; unique;"},
	}
	var out []wrongText
	for _, c := range cases {
		out = append(out, wrongText{c.what, "table t { a int; b num; primary a; " + c.s + " }"})
	}
	return out
}

// wrongNamesOfParts has parts whose names are near that of the one column.
func wrongNamesOfParts() []wrongText {
	var out []wrongText
	for _, part := range []string{"i", "a", "id1", "id12x", "d12", "id1d12", "x", "t"} {
		out = append(out,
			wrongText{"the key " + part, "table t { id12 int; primary " + part + "; }"},
			wrongText{"the index " + part, "table t { id12 int; primary id12; index x " + part + "; }"},
			wrongText{"the second part " + part, "table t { id12 int; primary id12, " + part + " desc; }"},
		)
	}
	return out
}

// wrongOfCode has for each code that CheckDef refuses with texts that are right but for that.
func wrongOfCode() []wrongText {
	out := []wrongText{
		{"ChCols: no column", "table t { primary a; }"},
		{"ChCols: seven", "table t { a int; b int; c int; d int; e int; f int; g int; primary a; }"},
		{"ChTwice: columns", "table t { a int; a int; primary a; }"},
		{"ChTwice: indexes", "table t { a int; primary a; index x a; index x a; }"},
		{"ChIndexes", "table t { a int; primary a; index x a; index y a; index z a; }"},
		{"ChParts: the key", "table t { a int; primary a, a; }"},
		{"ChParts: an index", "table t { a int; primary a; index x a, a; }"},
		{"ChPrimary", "table t { a int null; primary a; }"},
		{"ChPrimary: the second part", "table t { a int; b text null; primary a, b; }"},
		{"ChPrimary: the first part", "table t { a int; b text null; primary b desc, a; }"},
	}
	for _, word := range tableWords {
		out = append(out,
			wrongText{"ChName: the table " + word, "table " + word + " { a int; primary a; }"},
			wrongText{"ChName: the column " + word, "table t { " + word + " int; primary " + word + "; }"},
			wrongText{"ChName: the second column " + word, "table t { a int; " + word + " int; primary a; }"},
			wrongText{"ChName: the index " + word, "table t { a int; primary a; index " + word + " a; }"},
			wrongText{"ChName: the second index " + word, "table t { a int; primary a; unique x a; unique " + word + " a; }"},
		)
	}
	return out
}

func wrongTokens() []wrongText {
	const right = "table t { a int; primary a; }"
	var out []wrongText
	for _, s := range []string{"?", "A", "1", "_", "-", "'", "(", "\x00", "\x0b", "\x7f", "\xff", "\u00e9", "abcdefghi", "a12345678"} {
		out = append(out,
			wrongText{"no token behind the table", right + s},
			wrongText{"no token behind the table, spaced", right + "\n" + s + "\n"},
			wrongText{"no token ahead of the table", s + " " + right},
			wrongText{"no token in the table", "table t { a int; " + s + " primary a; }"},
			wrongText{"no token as a name", "table " + s + " { a int; primary a; }"},
			wrongText{"no token as a column", "table t { a int; " + s + " int; primary a; }"},
			wrongText{"no token as an index", "table t { a int; primary a; index " + s + " a; }"},
		)
	}
	return append(out,
		wrongText{"words in one", "tablet { a int; primary a; }"},
		wrongText{"words in one, of the column", "table t { aint; primary a; }"},
		wrongText{"words in one, of the key", "table t { a int; primarya; }"},
		wrongText{"words cut in two", "tab le t { a int; primary a; }"},
		wrongText{"words of great letters", "TABLE t { a int; primary a; }"},
	)
}

func wrongTexts() []wrongText {
	return slices.Concat(wrongCommas(), wrongPartTexts(), wrongNamesOfParts(), wrongColumns(), wrongTables(), wrongIndexTexts(), wrongOfCode(), wrongTokens())
}

// What is wrong is wrong ahead of and behind tables that are right as well: nothing is answered, not what was read so far.
func TestTextsThatAreWrong(t *testing.T) {
	const ahead, behind = "table g { z int; primary z; }\n", "\ntable h { z int; primary z; }"
	for _, w := range wrongTexts() {
		parsesNot(t, w.what, w.s)
		parsesNot(t, w.what+", behind a table", ahead+w.s)
		parsesNot(t, w.what+", ahead of a table", w.s+behind)
		parsesNot(t, w.what+", between tables", ahead+w.s+behind)
		if _, ok := tablesOf(t, w.s); ok {
			t.Errorf("%s: the text %q is right by the words", w.what, w.s)
		}
	}
}

func TestAtMostThreeTables(t *testing.T) {
	var l []impl.Def
	for n := range 9 {
		if n <= mostTables {
			parses(t, wordsText(l), l)
		} else {
			parsesNot(t, strconv.Itoa(n)+" tables", wordsText(l))
		}
		l = append(l, renamed(oneCol(), "t"+strconv.Itoa(n)))
	}
}

func TestTablesOfOneName(t *testing.T) {
	a, b, c := oneCol(), renamed(fourCols(), "t"), allKinds()
	for _, l := range [][]impl.Def{{a, a}, {a, b}, {b, a}, {a, b, c}, {a, c, b}, {c, a, b}, {a, a, a}, {a, c, b, renamed(a, "u")}} {
		parsesNot(t, "two of one name", wordsText(l))
	}
	// A name that another thing has is no table's name.
	l := tables(renamed(oneCol(), "a"), renamed(manyCols(1, 1), "x0"), renamed(manyCols(1, 2), "c0"))
	parses(t, wordsText(l), l)
}

// However many tokens stand there, and whatever the first of them would be.
func TestTextsOfTooManyTokens(t *testing.T) {
	l := tables(fullTable(), renamed(fullTable(), "most2"), renamed(fullTable(), "most3"))
	s := wordsText(l)
	tokens, _ := lexed(s)
	if len(tokens) != 147 {
		t.Errorf("three tables have %d tokens", len(tokens))
	}
	parses(t, s+strings.Repeat(blanks, 1000), l)
	for _, more := range []string{";", "}", "a ", "table "} {
		for _, n := range []int{1, mostTokens - len(tokens) - 1, mostTokens - len(tokens), mostTokens - len(tokens) + 1, 1000, 100000} {
			parsesNot(t, strconv.Itoa(n)+" more tokens", s+strings.Repeat(more, n))
			parsesNot(t, strconv.Itoa(n)+" more tokens ahead", strings.Repeat(more, n)+s)
		}
	}
	for _, n := range []int{4, 9, 10, 50, 51, 1000} {
		parsesNot(t, strconv.Itoa(n)+" tables", strings.Repeat("table t { a int; primary a; }\n", n))
		parsesNot(t, strconv.Itoa(n)+" parts", "table t { a int; primary a"+strings.Repeat(", a", n)+"; }")
		parsesNot(t, strconv.Itoa(n)+" columns", "table t { "+strings.Repeat("a int; ", n)+"primary a; }")
		parsesNot(t, strconv.Itoa(n)+" indexes", "table t { a int; primary a; "+strings.Repeat("index x a; ", n)+"}")
		parsesNot(t, strconv.Itoa(n)+" brackets", strings.Repeat("table t { ", n))
	}
}

const (
	aName     = `[a-z][a-z0-9]*`
	aPart     = aName + `(?: desc)?`
	someParts = aPart + `(?: , ` + aPart + `)*`
	aCol      = aName + ` (?:int|num|text|bool)(?: null)? ; `
	anIndex   = `(?:unique|index) ` + aName + ` ` + someParts + ` ; `
)

var (
	tableForm = regexp.MustCompile(`^table (` + aName + `) \{ ((?:` + aCol + `)*)primary (` + someParts + `) ; ((?:` + anIndex + `)*)\} `)
	colForm   = regexp.MustCompile(aCol)
	indexForm = regexp.MustCompile(anIndex)
)

// tablesOf reads a text by the words of the chapter: forms are held against the joined tokens, then what was read is asked for.
func tablesOf(t *testing.T, s string) ([]impl.Def, bool) {
	t.Helper()
	tokens, place := lexed(s)
	if place != -1 {
		return nil, false
	}
	rest := ""
	for _, token := range tokens {
		rest += token.S + " "
	}
	var out []impl.Def
	for rest != "" {
		form := tableForm.FindStringSubmatch(rest)
		if form == nil {
			return nil, false
		}
		out = append(out, formedTable(form))
		rest = rest[len(form[0]):]
	}
	if firstWrong(out) != -1 {
		return nil, false
	}
	if again, _ := lexed(wordsText(out)); !slices.Equal(again, tokens) {
		t.Fatalf("read by the words, %q has other tokens", s)
	}
	return out, true
}

func formedTable(form []string) impl.Def {
	d := impl.Def{Name: form[1]}
	var names []string
	for _, col := range colForm.FindAllString(form[2], -1) {
		words := strings.Fields(col)
		names = append(names, words[0])
		d.Cols = append(d.Cols, impl.Col{Name: words[0], Type: 1 + slices.Index([]string{"int", "num", "text", "bool"}, words[1]), Null: words[2] == "null"})
	}
	d.Primary = formedParts(names, form[3])
	for _, x := range indexForm.FindAllString(form[4], -1) {
		words := strings.SplitN(strings.TrimSuffix(x, " ; "), " ", 3)
		d.Indexes = append(d.Indexes, impl.Index{Name: words[1], Unique: words[0] == "unique", Parts: formedParts(names, words[2])})
	}
	return d
}

func formedParts(names []string, s string) []impl.By {
	var out []impl.By
	for _, part := range strings.Split(s, " , ") {
		column, desc := strings.CutSuffix(part, " desc")
		out = append(out, impl.By{Col: slices.Index(names, column), Desc: desc})
	}
	return out
}

// firstWrong goes through the tables by the chapter's words.
func firstWrong(l []impl.Def) int {
	for i, d := range l {
		ahead := slices.ContainsFunc(l[:i], func(x impl.Def) bool { return x.Name == d.Name })
		if firstOf(d) != impl.ChGood || ahead || i > 2 {
			return i
		}
	}
	return -1
}

// heldAgainstWords asks that a text is read just as the words say, and tells whether it is right.
func heldAgainstWords(t *testing.T, s string) bool {
	t.Helper()
	want, wantOk := tablesOf(t, s)
	got, ok := impl.ParseDefs(s)
	if ok != wantOk || !sameTables(got, want) {
		t.Fatalf("ParseDefs(%q) = %+v, %v, not %+v, %v", s, got, ok, want, wantOk)
	}
	if ok {
		made, _ := impl.Lex(impl.DefsText(got))
		given, place := impl.Lex(s)
		if place != -1 || !slices.Equal(made, given) || impl.FirstBad(got) != -1 {
			t.Fatalf("ParseDefs(%q) = %+v, whose text is %q", s, got, impl.DefsText(got))
		}
	}
	return ok
}

func TestTheWordsReadWhatIsGood(t *testing.T) {
	for _, l := range goodLists() {
		if got, ok := tablesOf(t, wordsText(l)); !ok || !sameTables(got, l) {
			t.Errorf("by the words %q is %+v, %v", wordsText(l), got, ok)
		}
	}
}

// Every beginning, by bytes and by tokens, and every end.
func TestBeginningsAndEndsOfTexts(t *testing.T) {
	for _, l := range goodLists() {
		s := wordsText(l)
		right := 0
		for n := range len(s) + 1 {
			if heldAgainstWords(t, s[:n]) {
				right++
			}
			heldAgainstWords(t, s[n:])
		}
		// A table is there from its bracket on, and from the byte behind it; no table, ahead of all.
		if right != 1+2*len(l) {
			t.Errorf("%d beginnings of %q are right", right, s)
		}
		tokens, _ := lexed(s)
		for n := range tokens {
			heldAgainstWords(t, impl.JoinTokens(tokens[:n]))
			heldAgainstWords(t, impl.JoinTokens(tokens[n:]))
		}
	}
}

// edits has token lists that differ from this one in one place: one left out, doubled, or exchanged with its neighbour.
func edits(l []impl.Token) [][]impl.Token {
	var out [][]impl.Token
	for i, token := range l {
		out = append(out, slices.Delete(slices.Clone(l), i, i+1), slices.Insert(slices.Clone(l), i, token))
		if i > 0 {
			turned := slices.Clone(l)
			turned[i-1], turned[i] = turned[i], turned[i-1]
			out = append(out, turned)
		}
	}
	return out
}

func TestOneTokenLeftOutDoubledOrExchanged(t *testing.T) {
	met := map[bool]int{}
	for _, l := range goodLists() {
		tokens, _ := lexed(wordsText(l))
		for _, turned := range edits(tokens) {
			met[heldAgainstWords(t, impl.JoinTokens(turned))]++
		}
	}
	if met[true] < 50 || met[false] < 2000 {
		t.Errorf("%d texts are right, %d are not", met[true], met[false])
	}
}

// Written out for the least table: of which one-token edits anything is read at all.
func TestEditsOfTheLeastTable(t *testing.T) {
	tokens, _ := lexed(wordsText(tables(oneCol())))
	for _, turned := range edits(tokens) {
		s := impl.JoinTokens(turned)
		if s == impl.JoinTokens(tokens) {
			parses(t, s, tables(oneCol()))
		} else {
			parsesNot(t, "an edit", s)
		}
	}
}

// vocabulary has each word and mark, names that stand in the tables, and one that does not.
func vocabulary() []impl.Token {
	return told(slices.Concat(tableWords, strings.Split(marks, ""), []string{"a", "b", "t", "x0", "other"})...)
}

func TestOneTokenPutInOrInThePlaceOfAnother(t *testing.T) {
	met := map[bool]int{}
	for _, l := range goodLists() {
		tokens, _ := lexed(wordsText(l))
		if len(tokens) > 70 {
			continue
		}
		for i := range len(tokens) + 1 {
			for _, token := range vocabulary() {
				met[heldAgainstWords(t, impl.JoinTokens(slices.Insert(slices.Clone(tokens), i, token)))]++
				if i < len(tokens) {
					turned := slices.Clone(tokens)
					turned[i] = token
					met[heldAgainstWords(t, impl.JoinTokens(turned))]++
				}
			}
		}
	}
	if met[true] < 500 || met[false] < 10000 {
		t.Errorf("%d texts are right, %d are not", met[true], met[false])
	}
}

// Two edits of a small table, all of them: what one makes wrong, another may make right.
func TestTwoEditsOfATable(t *testing.T) {
	s := "table t { a int; b num; primary a desc, b; index x b, a; unique y b; }"
	met := map[bool]int{}
	tokens, _ := lexed(s)
	for _, once := range edits(tokens) {
		for _, twice := range edits(once) {
			met[heldAgainstWords(t, impl.JoinTokens(twice))]++
		}
	}
	if met[true] < 10 || met[false] < 3000 {
		t.Errorf("%d texts are right, %d are not", met[true], met[false])
	}
}

// The seed is fixed: the same texts each time.
func TestTextsOfManyEdits(t *testing.T) {
	r := rand.New(rand.NewSource(1010))
	lists, words := goodLists(), vocabulary()
	met := map[bool]int{}
	for range 20000 {
		tokens, _ := lexed(wordsText(lists[r.Intn(len(lists))]))
		for range 1 + r.Intn(4) {
			tokens = editedAt(r, tokens, words[r.Intn(len(words))])
		}
		met[heldAgainstWords(t, impl.JoinTokens(tokens))]++
	}
	if met[true] < 100 || met[false] < 1000 {
		t.Errorf("%d texts are right, %d are not", met[true], met[false])
	}
}

func editedAt(r *rand.Rand, l []impl.Token, token impl.Token) []impl.Token {
	if len(l) == 0 {
		return []impl.Token{token}
	}
	at := r.Intn(len(l))
	switch r.Intn(3) {
	case 0:
		return slices.Delete(slices.Clone(l), at, at+1)
	case 1:
		return slices.Insert(slices.Clone(l), at, token)
	}
	out := slices.Clone(l)
	out[at] = token
	return out
}

// The tables are made from numbers, mostly right; those that are come back, alone and several together.
func TestManyTablesComeBack(t *testing.T) {
	r := rand.New(rand.NewSource(10))
	met := map[int]int{}
	for range 20000 {
		var l []impl.Def
		for range r.Intn(5) {
			l = append(l, someDef(r))
		}
		want := firstWrong(l)
		if got := impl.FirstBad(l); got != want {
			t.Fatalf("FirstBad(%+v) = %d, not %d", l, got, want)
		}
		text := impl.DefsText(l)
		if text != textOrNothing(l) {
			t.Fatalf("DefsText(%+v) = %q", l, text)
		}
		if want == -1 {
			parses(t, text, l)
			met[len(l)]++
		} else {
			heldAgainstWords(t, text)
		}
		if t.Failed() {
			break
		}
	}
	for n := range mostTables + 1 {
		if met[n] < 50 && !t.Failed() {
			t.Errorf("%d lists of %d tables came back", met[n], n)
		}
	}
}

// textOrNothing writes what is right by the words, and of all else the byte behind alone.
func textOrNothing(l []impl.Def) string {
	out := ""
	for _, d := range l {
		if firstOf(d) == impl.ChGood {
			out += textOf(d)
		}
		out += "\n"
	}
	return out
}

func TestDefsText(t *testing.T) {
	one, wrong := oneCol(), impl.Def{}
	const text = "table t { a int; primary a; }\n"
	cases := []struct {
		l    []impl.Def
		want string
	}{
		{nil, ""},
		{[]impl.Def{}, ""},
		{tables(one), text},
		{tables(one, renamed(one, "u")), text + "table u { a int; primary a; }\n"},
		{tables(one, one), text + text},
		{tables(one, one, one, one, one), strings.Repeat(text, 5)},
		{tables(wrong), "\n"},
		{tables(wrong, wrong), "\n\n"},
		{tables(one, wrong), text + "\n"},
		{tables(wrong, one), "\n" + text},
		{tables(one, wrong, one), text + "\n" + text},
		{tables(wrong, one, wrong, one, wrong), "\n" + text + "\n" + text + "\n"},
	}
	for _, c := range cases {
		if got := impl.DefsText(c.l); got != c.want {
			t.Errorf("DefsText(%+v) = %q, not %q", c.l, got, c.want)
		}
	}
	for _, w := range wrongWays() {
		d := fourCols()
		w.do(&d)
		if got := impl.DefsText(tables(one, d, one)); got != text+"\n"+text {
			t.Errorf("%s: DefsText = %q", w.what, got)
		}
	}
}

// What is passed over in a text is not there when it is read again.
func TestTextsOfWrongTablesComeBackWithoutThem(t *testing.T) {
	one := oneCol()
	parses(t, impl.DefsText(tables(impl.Def{}, one, impl.Def{})), tables(one))
	parses(t, impl.DefsText(tables(impl.Def{})), nil)
	parsesNot(t, "two of one name", impl.DefsText(tables(one, one)))
}

func firstBadIs(t *testing.T, what string, l []impl.Def, want int) {
	t.Helper()
	if got := impl.FirstBad(l); got != want {
		t.Errorf("%s: FirstBad(%+v) = %d, not %d", what, l, got, want)
	}
	if want != firstWrong(l) {
		t.Errorf("%s: by the words FirstBad(%+v) is %d", what, l, firstWrong(l))
	}
}

func TestFirstBad(t *testing.T) {
	a, b, c, d := oneCol(), fourCols(), allKinds(), renamed(oneCol(), "d")
	firstBadIs(t, "none", nil, -1)
	firstBadIs(t, "none, empty", []impl.Def{}, -1)
	firstBadIs(t, "one", tables(a), -1)
	firstBadIs(t, "two", tables(a, b), -1)
	firstBadIs(t, "three", tables(a, b, c), -1)
	firstBadIs(t, "four", tables(a, b, c, d), 3)
	firstBadIs(t, "five", tables(a, b, c, d, renamed(a, "e")), 3)
	firstBadIs(t, "the same twice", tables(a, a), 1)
	firstBadIs(t, "another of this name", tables(b, renamed(a, b.Name)), 1)
	firstBadIs(t, "the third of the first's name", tables(a, b, renamed(c, a.Name)), 2)
	firstBadIs(t, "the third of the second's name", tables(a, b, renamed(c, b.Name)), 2)
	firstBadIs(t, "the fourth of the first's name", tables(a, b, c, a), 3)
	firstBadIs(t, "names that begin alike", tables(renamed(a, "n"), renamed(a, "nn"), renamed(a, "n1")), -1)
}

// Each way of CheckDef at each place, alone and with another reason ahead, behind or in the same place.
func TestFirstBadOfEachWay(t *testing.T) {
	for _, w := range wrongWays() {
		bad := fourCols()
		w.do(&bad)
		a, b, c := oneCol(), renamed(oneCol(), "b"), allKinds()
		firstBadIs(t, w.what, tables(bad), 0)
		firstBadIs(t, w.what, tables(bad, a), 0)
		firstBadIs(t, w.what, tables(a, bad), 1)
		firstBadIs(t, w.what, tables(a, bad, b), 1)
		firstBadIs(t, w.what, tables(a, b, bad), 2)
		firstBadIs(t, w.what+", behind the third", tables(a, b, c, bad), 3)
		firstBadIs(t, w.what+", far behind the third", tables(a, b, c, renamed(a, "d"), bad), 3)
		firstBadIs(t, w.what+", a name again behind", tables(a, bad, a), 1)
		firstBadIs(t, w.what+", a name again ahead", tables(a, a, bad), 1)
		firstBadIs(t, w.what+", twice", tables(bad, bad), 0)
		firstBadIs(t, w.what+", four of them", tables(bad, a, b, c, renamed(a, "d")), 0)
		firstBadIs(t, w.what+", of a name that stands ahead", tables(renamed(a, "people"), bad), 1)
	}
	a, b := oneCol(), renamed(oneCol(), "b")
	firstBadIs(t, "a name again, and a fourth", tables(a, b, a, renamed(a, "d")), 2)
	firstBadIs(t, "a fourth of a name that stands ahead", tables(a, b, renamed(a, "c"), b), 3)
}

// No more than four are looked at, however many there are.
func TestFirstBadOfVeryMany(t *testing.T) {
	const many = 200000
	l := slices.Repeat(tables(oneCol()), many)
	firstBad := func(want int) {
		t.Helper()
		if got := impl.FirstBad(l); got != want {
			t.Errorf("FirstBad = %d, not %d", got, want)
		}
	}
	firstBad(1)
	l[1], l[2] = renamed(oneCol(), "u"), renamed(oneCol(), "v")
	firstBad(3)
	l[many-1] = impl.Def{}
	firstBad(3)
	if got := impl.DefsText(l[3:103]); got != strings.Repeat("table t { a int; primary a; }\n", 100) {
		t.Errorf("DefsText of many: %q", got)
	}
}

// What is refused leaves nothing behind for the next call.
func TestReadingKeepsNothing(t *testing.T) {
	good := wordsText(tables(fourCols(), allKinds()))
	for _, w := range wrongTexts() {
		impl.ParseDefs(w.s)
		parses(t, good, tables(fourCols(), allKinds()))
		parses(t, "", nil)
	}
}

// shownList is one list of an answer: it can be filled, with all the room behind it, and shown.
type shownList struct {
	fill func()
	show func() string
}

func listed[T any](l []T, filler T, shown func(T) string) shownList {
	fill := func() {
		room := l[:cap(l)]
		for i := range room {
			room[i] = filler
		}
	}
	show := func() string {
		out := ""
		for _, x := range l {
			out += shown(x) + ";"
		}
		return out
	}
	return shownList{fill, show}
}

// allTables shows the names alone: what is within a table stands in other lists.
func allTables(l []impl.Def) shownList {
	return listed(l, impl.Def{Name: "over"}, func(d impl.Def) string { return d.Name })
}

func allParts(l []impl.By) shownList {
	return listed(l, up(77), func(p impl.By) string { return fmt.Sprint(p) })
}

// innerLists has each list within the tables.
func innerLists(l []impl.Def) []shownList {
	var out []shownList
	for _, d := range l {
		cols := listed(d.Cols, impl.Col{Name: "over", Type: 77}, func(c impl.Col) string { return fmt.Sprint(c) })
		indexes := listed(d.Indexes, index("over"), func(x impl.Index) string { return fmt.Sprint(x.Name, x.Unique) })
		out = append(out, cols, allParts(d.Primary), indexes)
		for _, x := range d.Indexes {
			out = append(out, allParts(x.Parts))
		}
	}
	return out
}

func showAll(l []shownList) []string {
	var out []string
	for _, x := range l {
		out = append(out, x.show())
	}
	return out
}

// Each list is filled in its turn; no other one turns with it.
func TestListsOfTablesShareNothing(t *testing.T) {
	s := wordsText(tables(fourCols(), allKinds(), manyCols(5, 1)))
	first, _ := impl.ParseDefs(s)
	if n := len(innerLists(first)); n != 14 {
		t.Fatalf("%d lists", n)
	}
	for i := range innerLists(first) {
		l, _ := impl.ParseDefs(s)
		inner := innerLists(l)
		ahead := showAll(inner)
		inner[i].fill()
		behind := showAll(inner)
		if ahead[i] == behind[i] {
			t.Fatalf("the list %d is not filled: %s", i, ahead[i])
		}
		behind[i] = ahead[i]
		if !slices.Equal(ahead, behind) {
			t.Errorf("with the list %d others turned: %q, then %q", i, ahead, behind)
		}
	}
	l, _ := impl.ParseDefs(s)
	inner := innerLists(l)
	ahead := showAll(inner)
	allTables(l).fill()
	if !slices.Equal(ahead, showAll(inner)) {
		t.Error("with the list of tables others turned")
	}
}

func TestTablesReadAreNewMemory(t *testing.T) {
	for _, want := range goodLists() {
		s := strings.Clone(wordsText(want))
		first, _ := impl.ParseDefs(s)
		second, _ := impl.ParseDefs(s)
		for _, x := range innerLists(first) {
			x.fill()
		}
		allTables(first).fill()
		if !sameTables(second, want) {
			t.Errorf("two answers of %q share memory", s)
		}
		parses(t, s, want)
		for _, d := range second {
			for _, name := range namesOf(d) {
				if within(name, s) {
					t.Errorf("ParseDefs(%q): the name %q shares memory with the text", s, name)
				}
			}
		}
	}
}

func namesOf(d impl.Def) []string {
	out := []string{d.Name}
	for _, c := range d.Cols {
		out = append(out, c.Name)
	}
	for _, x := range d.Indexes {
		out = append(out, x.Name)
	}
	return out
}

// What is refused comes with a list of its own, too.
func TestRefusedTablesAreNewMemory(t *testing.T) {
	for _, s := range []string{"?", "x", "table", "table t { a int; primary a; } }", wordsText(tables(oneCol(), oneCol()))} {
		first, _ := impl.ParseDefs(s)
		allTables(first).fill()
		_ = append(first, impl.Def{Name: "over"})
		parsesNot(t, "refused again", s)
	}
	parses(t, "", nil)
}

func TestTextsOfListsAreNewMemory(t *testing.T) {
	for _, l := range goodLists() {
		var own []impl.Def
		for _, d := range l {
			own = append(own, renamed(d, strings.Clone(d.Name)))
		}
		text, again := impl.DefsText(own), impl.DefsText(own)
		if within(text, again) {
			t.Errorf("two texts of %+v share memory", own)
		}
		for _, d := range own {
			for _, name := range namesOf(d) {
				if within(name, text) {
					t.Errorf("the text %q shares memory with the name %q", text, name)
				}
			}
		}
	}
}

// The spare room behind each list, that of the tables too, is neither read nor written.
func TestListsOfTablesAreNotWrittenTo(t *testing.T) {
	for _, l := range append(goodLists(), tables(impl.Def{}), tables(oneCol(), oneCol()), tables(oneCol(), manyCols(7, 3)), tables(renamed(oneCol(), "a"), renamed(oneCol(), "b"), renamed(oneCol(), "c"), oneCol())) {
		var roomy, ahead []impl.Def
		for _, d := range append(slices.Clone(l), oneCol(), impl.Def{}) {
			roomy = append(roomy, roomyDef(d))
		}
		for _, d := range roomy {
			ahead = append(ahead, allRoom(d))
		}
		cut := roomy[:len(l)]
		if impl.DefsText(cut) != impl.DefsText(l) || impl.FirstBad(cut) != impl.FirstBad(l) {
			t.Errorf("the spare room behind %+v is read", l)
		}
		for i, d := range roomy {
			if !sameAll(ahead[i], allRoom(d)) {
				t.Errorf("the table %+v turned into %+v", ahead[i], allRoom(d))
			}
		}
	}
}
