package tests

import (
	"math/rand"
	"regexp"
	"slices"
	"strconv"
	"strings"
	"testing"

	"loop.example/g00322/impl"
)

var (
	_ func(impl.Def) int            = impl.CheckDef
	_ func(impl.Def) string         = impl.DefText
	_ func(impl.Def, impl.Def) bool = impl.SameDef
)

// tableWords are the names that no table, column or index may have.
var tableWords = []string{"table", "primary", "unique", "index", "null", "desc", "int", "num", "text", "bool"}

// inTurn has the codes that refuse, in the order in which they count.
var inTurn = []int{impl.ChName, impl.ChCols, impl.ChTwice, impl.ChIndexes, impl.ChParts, impl.ChPrimary}

func up(place int) impl.By   { return impl.By{Col: place} }
func down(place int) impl.By { return impl.By{Col: place, Desc: true} }

func by(parts ...impl.By) []impl.By { return parts }

func index(name string, parts ...impl.By) impl.Index { return impl.Index{Name: name, Parts: parts} }
func unique(name string, parts ...impl.By) impl.Index {
	return impl.Index{Name: name, Unique: true, Parts: parts}
}

// fourCols is a table that is right, of all types, with a key and an index of two parts and an index of one.
func fourCols() impl.Def {
	return impl.Def{
		Name:    "people",
		Cols:    []impl.Col{{Name: "id", Type: impl.TInt}, {Name: "sum", Type: impl.TNum, Null: true}, {Name: "called", Type: impl.TText}, {Name: "in", Type: impl.TBool, Null: true}},
		Primary: by(down(2), up(0)),
		Indexes: []impl.Index{unique("u1", up(1)), index("v2", down(3), up(1))},
	}
}

// oneCol is the least table that is right.
func oneCol() impl.Def {
	return impl.Def{Name: "t", Cols: []impl.Col{{Name: "a", Type: impl.TInt}}, Primary: by(up(0))}
}

// manyCols has n columns and m indexes, each with a name of its own.
func manyCols(n int, m int) impl.Def {
	d := impl.Def{Name: "t", Primary: by(up(0))}
	for i := range n {
		d.Cols = append(d.Cols, impl.Col{Name: "c" + strconv.Itoa(i), Type: impl.TInt + i%4})
	}
	for i := range m {
		d.Indexes = append(d.Indexes, index("x"+strconv.Itoa(i), up(0)))
	}
	return d
}

// copied has new memory for every list.
func copied(d impl.Def) impl.Def {
	d.Cols = slices.Clone(d.Cols)
	d.Primary = slices.Clone(d.Primary)
	d.Indexes = slices.Clone(d.Indexes)
	for i := range d.Indexes {
		d.Indexes[i].Parts = slices.Clone(d.Indexes[i].Parts)
	}
	return d
}

type defText struct {
	d    impl.Def
	text string
}

func rightDefs() []defText {
	two := []impl.Col{{Name: "a", Type: impl.TInt}, {Name: "b", Type: impl.TText, Null: true}}
	return []defText{
		{oneCol(), "table t { a int; primary a; }"},
		{fourCols(), "table people { id int; sum num null; called text; in bool null; primary called desc, id; unique u1 sum; index v2 in desc, sum; }"},
		{manyCols(6, 2), "table t { c0 int; c1 num; c2 text; c3 bool; c4 int; c5 num; primary c0; index x0 c0; index x1 c0; }"},
		{manyCols(6, 0), "table t { c0 int; c1 num; c2 text; c3 bool; c4 int; c5 num; primary c0; }"},
		{impl.Def{Name: "t", Cols: two, Primary: by(down(0))}, "table t { a int; b text null; primary a desc; }"},
		{impl.Def{Name: "t", Cols: two, Primary: by(up(0)), Indexes: []impl.Index{unique("u", up(1))}}, "table t { a int; b text null; primary a; unique u b; }"},
		{impl.Def{Name: "t", Cols: two, Primary: by(up(0)), Indexes: []impl.Index{index("u", down(1))}}, "table t { a int; b text null; primary a; index u b desc; }"},
		{impl.Def{Name: "t", Cols: two, Primary: by(up(0)), Indexes: []impl.Index{index("i", up(1), up(0)), unique("j", down(0), down(1))}}, "table t { a int; b text null; primary a; index i b, a; unique j a desc, b desc; }"},
		{impl.Def{Name: "t", Cols: []impl.Col{{Name: "a", Type: impl.TNum}, {Name: "b", Type: impl.TBool}}, Primary: by(up(1), down(0))}, "table t { a num; b bool; primary b, a desc; }"},
		{impl.Def{Name: "t", Cols: []impl.Col{{Name: "a", Type: impl.TText}, {Name: "b", Type: impl.TBool}}, Primary: by(up(0), up(1))}, "table t { a text; b bool; primary a, b; }"},
		{impl.Def{Name: "t", Cols: []impl.Col{{Name: "b", Type: impl.TInt, Null: true}, {Name: "a", Type: impl.TInt}}, Primary: by(up(1))}, "table t { b int null; a int; primary a; }"},
	}
}

// likeNamed has tables in which unlike things have one name, which none of the ways to be wrong tells.
func likeNamed() []defText {
	cols := []impl.Col{{Name: "a", Type: impl.TInt}, {Name: "b", Type: impl.TNum}}
	return []defText{
		{impl.Def{Name: "t", Cols: cols, Primary: by(up(0)), Indexes: []impl.Index{index("a", up(0))}}, "table t { a int; b num; primary a; index a a; }"},
		{impl.Def{Name: "t", Cols: cols, Primary: by(up(0)), Indexes: []impl.Index{index("b", up(0)), index("a", up(0))}}, "table t { a int; b num; primary a; index b a; index a a; }"},
		{impl.Def{Name: "a", Cols: cols, Primary: by(up(0)), Indexes: []impl.Index{index("x", up(0))}}, "table a { a int; b num; primary a; index x a; }"},
		{impl.Def{Name: "t", Cols: cols, Primary: by(up(0)), Indexes: []impl.Index{index("t", up(0))}}, "table t { a int; b num; primary a; index t a; }"},
	}
}

func TestNumbersOfTables(t *testing.T) {
	if impl.MaxCols != 6 || impl.MaxIndexes != 2 || impl.MaxParts != 2 {
		t.Error("limits", impl.MaxCols, impl.MaxIndexes, impl.MaxParts)
	}
	codes := []int{impl.ChGood, impl.ChName, impl.ChCols, impl.ChTwice, impl.ChPrimary, impl.ChParts, impl.ChIndexes}
	if !slices.Equal(codes, []int{0, 1, 2, 3, 4, 5, 6}) {
		t.Error("codes", codes)
	}
}

func TestTablesThatAreRight(t *testing.T) {
	for _, c := range slices.Concat(rightDefs(), likeNamed()) {
		if got := impl.CheckDef(c.d); got != impl.ChGood {
			t.Errorf("CheckDef(%+v) = %d", c.d, got)
		}
		if got := impl.DefText(c.d); got != c.text {
			t.Errorf("DefText(%+v) = %q, not %q", c.d, got, c.text)
		}
		if _, place := impl.Lex(c.text); place != -1 {
			t.Errorf("the text %q has no tokens", c.text)
		}
	}
}

func TestEachNumberOfColumnsAndIndexes(t *testing.T) {
	for n := range 9 {
		for m := range 5 {
			want := impl.ChGood
			switch {
			case n < 1 || n > 6:
				want = impl.ChCols
			case m > 2:
				want = impl.ChIndexes
			}
			refuses(t, strconv.Itoa(n)+" columns, "+strconv.Itoa(m)+" indexes", manyCols(n, m), want)
		}
	}
}

// refuses asks for this code, and for a text just of ChGood.
func refuses(t *testing.T, what string, d impl.Def, want int) {
	t.Helper()
	if got := impl.CheckDef(d); got != want {
		t.Errorf("%s: CheckDef(%+v) = %d, not %d", what, d, got, want)
	}
	if got := impl.DefText(d); (got != "") != (want == impl.ChGood) {
		t.Errorf("%s: DefText(%+v) = %q", what, d, got)
	}
}

// named has tables of which one name is this one: the table's, each column's, each index's.
func named(s string) []impl.Def {
	out := []impl.Def{fourCols()}
	out[0].Name = s
	for i := range fourCols().Cols {
		d := fourCols()
		d.Cols[i].Name = s
		out = append(out, d)
	}
	for i := range fourCols().Indexes {
		d := fourCols()
		d.Indexes[i].Name = s
		out = append(out, d)
	}
	return out
}

func TestNamesInTables(t *testing.T) {
	wrong := slices.Concat(noTexts(), tableWords, strings.Split(marks, ""))
	for _, s := range wrong {
		for _, d := range named(s) {
			refuses(t, "a name that is none", d, impl.ChName)
		}
	}
	right := []string{"tables", "tabl", "primar", "primary1", "uniqu", "uniques", "inde", "indexe", "nul", "nulls", "des", "desca", "in1", "ints", "nums", "nu", "tex", "texts", "boo", "bools", "key", "yes", "no", "true", "bytes"}
	for _, s := range slices.Concat(right, rightNames()) {
		if slices.Contains(tableWords, s) || s == "id" {
			continue
		}
		for _, d := range named(s) {
			refuses(t, "a name that is right", d, impl.ChGood)
			if got := impl.DefText(d); !strings.Contains(got, " "+s+" ") {
				t.Errorf("DefText has no name %q: %q", s, got)
			}
		}
	}
}

// wrongWay makes a table wrong; what it wants is not there any more, it leaves as it is.
type wrongWay struct {
	what string
	do   func(d *impl.Def)
	want int
}

func wrongNames() []wrongWay {
	return []wrongWay{
		{"no name of the table", func(d *impl.Def) { d.Name = "" }, impl.ChName},
		{"a word as the table's name", func(d *impl.Def) { d.Name = "primary" }, impl.ChName},
		{"no name of the first column", func(d *impl.Def) { nameCol(d, 0, "A") }, impl.ChName},
		{"a word as the last column's name", func(d *impl.Def) { nameCol(d, len(d.Cols)-1, "null") }, impl.ChName},
		{"no name of the first index", func(d *impl.Def) { nameIndex(d, 0, "a b") }, impl.ChName},
		{"a word as the last index's name", func(d *impl.Def) { nameIndex(d, len(d.Indexes)-1, "int") }, impl.ChName},
		{"two names that are none", func(d *impl.Def) { nameCol(d, 0, ""); nameCol(d, 1, "") }, impl.ChName},
	}
}

func wrongCols() []wrongWay {
	return []wrongWay{
		{"no column, nil", func(d *impl.Def) { d.Cols = nil }, impl.ChCols},
		{"no column, empty", func(d *impl.Def) { d.Cols = []impl.Col{} }, impl.ChCols},
		{"seven columns", func(d *impl.Def) { d.Cols = append(d.Cols, manyCols(7-min(len(d.Cols), 7), 0).Cols...) }, impl.ChCols},
		{"the type 0", func(d *impl.Def) { typeCol(d, 0, 0) }, impl.ChCols},
		{"the type 5", func(d *impl.Def) { typeCol(d, len(d.Cols)-1, 5) }, impl.ChCols},
		{"a type below", func(d *impl.Def) { typeCol(d, 1, -1) }, impl.ChCols},
		{"a type far above", func(d *impl.Def) { typeCol(d, 1, 1<<62) }, impl.ChCols},
		{"a type far below", func(d *impl.Def) { typeCol(d, 1, -1<<63) }, impl.ChCols},
	}
}

func wrongLikes() []wrongWay {
	return []wrongWay{
		{"two columns of one name", func(d *impl.Def) { nameCol(d, 1, "same"); nameCol(d, 2, "same") }, impl.ChTwice},
		{"the first and the last column of one name", func(d *impl.Def) { nameCol(d, 0, "same"); nameCol(d, len(d.Cols)-1, "same") }, impl.ChTwice},
		{"two indexes of one name", func(d *impl.Def) { nameIndex(d, 0, "same"); nameIndex(d, 1, "same") }, impl.ChTwice},
		{"the first and the third index of one name", func(d *impl.Def) { d.Indexes = append(d.Indexes, index("u1", up(0))) }, impl.ChTwice},
		{"three indexes", func(d *impl.Def) { d.Indexes = append(d.Indexes, index("w3", up(0))) }, impl.ChIndexes},
		{"three indexes, one of no part", func(d *impl.Def) { d.Indexes = append(d.Indexes, index("w4")) }, impl.ChIndexes},
	}
}

// wrongLists has lists of parts that are wrong of any table of at most seven columns, and the places that are just past its end.
func wrongLists(cols int) [][]impl.By {
	return [][]impl.By{
		nil, {}, {up(0), up(1), up(2)}, {up(0), up(1), up(0)}, {up(-1)}, {up(cols)}, {down(cols)}, {up(0), up(-1)}, {up(-1), up(0)}, {up(cols), up(0)}, {up(0), up(cols)},
		{up(0), up(0)}, {up(0), down(0)}, {down(cols - 1), up(cols - 1)}, {up(-1), up(-1)}, {up(1 << 62)}, {up(-1 << 63)},
	}
}

func wrongPartLists() []wrongWay {
	var out []wrongWay
	for i := range wrongLists(4) {
		out = append(out,
			wrongWay{"the key's parts " + strconv.Itoa(i), func(d *impl.Def) { d.Primary = wrongLists(len(d.Cols))[i] }, impl.ChParts},
			wrongWay{"the first index's parts " + strconv.Itoa(i), func(d *impl.Def) { partIndex(d, 0, wrongLists(len(d.Cols))[i]) }, impl.ChParts},
			wrongWay{"the last index's parts " + strconv.Itoa(i), func(d *impl.Def) { partIndex(d, len(d.Indexes)-1, wrongLists(len(d.Cols))[i]) }, impl.ChParts},
		)
	}
	return out
}

func wrongKeys() []wrongWay {
	return []wrongWay{
		{"the key's first column may be nothing", func(d *impl.Def) { nullCol(d, 2) }, impl.ChPrimary},
		{"the key's last column may be nothing", func(d *impl.Def) { nullCol(d, 0) }, impl.ChPrimary},
		{"a key of a column that may be nothing", func(d *impl.Def) { d.Primary = by(up(1)) }, impl.ChPrimary},
		{"a key with a second column that may be nothing", func(d *impl.Def) { d.Primary = by(up(0), down(3)) }, impl.ChPrimary},
	}
}

func wrongWays() []wrongWay {
	return slices.Concat(wrongNames(), wrongCols(), wrongLikes(), wrongPartLists(), wrongKeys())
}

func nameCol(d *impl.Def, at int, name string) {
	if 0 <= at && at < len(d.Cols) {
		d.Cols[at].Name = name
	}
}

func typeCol(d *impl.Def, at int, kind int) {
	if 0 <= at && at < len(d.Cols) {
		d.Cols[at].Type = kind
	}
}

func nullCol(d *impl.Def, at int) {
	if 0 <= at && at < len(d.Cols) {
		d.Cols[at].Null = true
	}
}

func nameIndex(d *impl.Def, at int, name string) {
	if 0 <= at && at < len(d.Indexes) {
		d.Indexes[at].Name = name
	}
}

func partIndex(d *impl.Def, at int, parts []impl.By) {
	if 0 <= at && at < len(d.Indexes) {
		d.Indexes[at].Parts = parts
	}
}

func TestTablesThatAreWrong(t *testing.T) {
	for _, w := range wrongWays() {
		d := fourCols()
		w.do(&d)
		refuses(t, w.what, d, w.want)
		if impl.SameDef(d, fourCols()) {
			t.Errorf("%s: SameDef of what is right", w.what)
		}
	}
}

// Each way to be wrong together with each other one; what holds then, the words say.
func TestTablesThatAreWrongTwice(t *testing.T) {
	for _, a := range wrongWays() {
		for _, b := range wrongWays() {
			d := fourCols()
			a.do(&d)
			b.do(&d)
			refuses(t, a.what+", "+b.what, d, firstOf(d))
		}
	}
}

// Of two codes that hold together, the one that the chapter names first is told.
func TestWhichCodeCounts(t *testing.T) {
	ways := map[int]func(d *impl.Def){
		impl.ChName:    func(d *impl.Def) { d.Name = "desc" },
		impl.ChCols:    func(d *impl.Def) { d.Cols[3].Type = 0 },
		impl.ChTwice:   func(d *impl.Def) { d.Cols[1].Name = d.Cols[3].Name },
		impl.ChIndexes: func(d *impl.Def) { d.Indexes = append(d.Indexes, index("w3", up(0))) },
		impl.ChParts:   func(d *impl.Def) { d.Indexes[1].Parts = nil },
		impl.ChPrimary: func(d *impl.Def) { d.Cols[2].Null = true },
	}
	for some := range 1 << len(inTurn) {
		d := fourCols()
		want := impl.ChGood
		for i, code := range inTurn {
			if some>>i&1 == 1 {
				ways[code](&d)
				if want == impl.ChGood {
					want = code
				}
			}
		}
		refuses(t, "ways "+strconv.FormatInt(int64(some), 2), d, want)
	}
}

// Some that are easily taken for another code.
func TestEdgesOfCheckDef(t *testing.T) {
	refuses(t, "nothing at all", impl.Def{}, impl.ChName)
	refuses(t, "a name alone", impl.Def{Name: "t"}, impl.ChCols)

	d := manyCols(7, 0)
	d.Cols[6].Name = "c0"
	refuses(t, "seven columns, two of one name", d, impl.ChCols)
	d.Cols[6].Name = ""
	refuses(t, "seven columns, the last of no name", d, impl.ChName)

	d = manyCols(1, 3)
	d.Indexes[2].Name = "x1"
	refuses(t, "three indexes, two of one name", d, impl.ChTwice)
	d.Indexes[2].Name = "X"
	refuses(t, "three indexes, the last of no name", d, impl.ChName)
	d = manyCols(1, 3)
	d.Indexes[0].Parts = nil
	refuses(t, "three indexes, the first of no part", d, impl.ChIndexes)

	d = fourCols()
	d.Primary = by(up(1), up(1))
	refuses(t, "a key twice of a column that may be nothing", d, impl.ChParts)
	d.Primary = by(up(1), up(4))
	refuses(t, "a key of one that may be nothing and one that is none", d, impl.ChParts)
	d.Primary = by(up(1))
	d.Indexes[0].Parts = by(up(4))
	refuses(t, "a key of one that may be nothing, an index of none", d, impl.ChParts)

	d = fourCols()
	d.Indexes[0].Parts = by(up(0))
	d.Indexes[1].Parts = by(up(0))
	refuses(t, "two indexes of the same parts", d, impl.ChGood)
	d.Indexes[0].Parts = slices.Clone(d.Primary)
	refuses(t, "an index of the key's parts", d, impl.ChGood)
}

// However many there are, each is asked for, and none takes long.
func TestTablesOfVeryMany(t *testing.T) {
	const many = 200000
	d := manyCols(1, many)
	refuses(t, "very many indexes", d, impl.ChIndexes)
	d.Indexes[many-1].Name = "x0"
	refuses(t, "very many indexes, two of one name", d, impl.ChTwice)
	d.Indexes[many-1].Name = ""
	refuses(t, "very many indexes, the last of no name", d, impl.ChName)

	d = manyCols(many, 0)
	refuses(t, "very many columns", d, impl.ChCols)
	d.Cols[many-1].Name = ""
	refuses(t, "very many columns, the last of no name", d, impl.ChName)

	d = oneCol()
	d.Primary = make([]impl.By, many)
	refuses(t, "very many parts", d, impl.ChParts)
	d.Name = strings.Repeat("a", many)
	refuses(t, "a very long name", d, impl.ChName)
}

var nameForm = regexp.MustCompile(`\A[a-z][a-z0-9]{0,7}\z`)

// firstOf goes through the codes by the chapter's words.
func firstOf(d impl.Def) int {
	for _, code := range inTurn {
		if holdsOf(d, code) {
			return code
		}
	}
	return impl.ChGood
}

func holdsOf(d impl.Def, code int) bool {
	switch code {
	case impl.ChName:
		return !nameOk(d.Name) || slices.ContainsFunc(d.Cols, func(c impl.Col) bool { return !nameOk(c.Name) }) || slices.ContainsFunc(d.Indexes, func(x impl.Index) bool { return !nameOk(x.Name) })
	case impl.ChCols:
		return len(d.Cols) == 0 || len(d.Cols) > 6 || slices.ContainsFunc(d.Cols, func(c impl.Col) bool { return !slices.Contains([]int{1, 2, 3, 4}, c.Type) })
	case impl.ChTwice:
		for i := range d.Cols {
			for j := range i {
				if d.Cols[i].Name == d.Cols[j].Name {
					return true
				}
			}
		}
		for i := range d.Indexes {
			for j := range i {
				if d.Indexes[i].Name == d.Indexes[j].Name {
					return true
				}
			}
		}
		return false
	case impl.ChIndexes:
		return len(d.Indexes) > 2
	case impl.ChParts:
		return !listOk(d.Primary, len(d.Cols)) || slices.ContainsFunc(d.Indexes, func(x impl.Index) bool { return !listOk(x.Parts, len(d.Cols)) })
	}
	return slices.ContainsFunc(d.Primary, func(p impl.By) bool { return d.Cols[p.Col].Null })
}

func nameOk(s string) bool {
	return nameForm.MatchString(s) && !slices.Contains(tableWords, s)
}

func listOk(parts []impl.By, cols int) bool {
	seen := map[int]int{}
	for _, p := range parts {
		if p.Col < 0 || p.Col >= cols {
			return false
		}
		seen[p.Col]++
	}
	return len(seen) == len(parts) && (len(parts) == 1 || len(parts) == 2)
}

// textOf writes a table that is right by the chapter's words, as a list of what stands between the blanks.
func textOf(d impl.Def) string {
	words := []string{"table", d.Name, "{"}
	ends := func(s string) { words[len(words)-1] += s }
	parts := func(l []impl.By) {
		for i, p := range l {
			if i > 0 {
				ends(",")
			}
			words = append(words, d.Cols[p.Col].Name)
			if p.Desc {
				words = append(words, "desc")
			}
		}
		ends(";")
	}
	for _, c := range d.Cols {
		words = append(words, c.Name, []string{"int", "num", "text", "bool"}[c.Type-1])
		if c.Null {
			words = append(words, "null")
		}
		ends(";")
	}
	words = append(words, "primary")
	parts(d.Primary)
	for _, x := range d.Indexes {
		words = append(words, map[bool]string{true: "unique", false: "index"}[x.Unique], x.Name)
		parts(x.Parts)
	}
	return strings.Join(append(words, "}"), " ")
}

// someDef makes a table from numbers, mostly right, with a fault here and there.
func someDef(r *rand.Rand) impl.Def {
	d := impl.Def{Name: someName(r)}
	cols := 1 + r.Intn(6)
	if r.Intn(40) == 0 {
		cols = r.Intn(9)
	}
	for range cols {
		kind := 1 + r.Intn(4)
		if r.Intn(80) == 0 {
			kind = r.Intn(8) - 2
		}
		d.Cols = append(d.Cols, impl.Col{Name: someName(r), Type: kind, Null: r.Intn(3) == 0})
	}
	d.Primary = someList(r, cols)
	for range r.Intn(4) * r.Intn(2) {
		d.Indexes = append(d.Indexes, impl.Index{Name: someName(r), Unique: r.Intn(2) == 0, Parts: someList(r, cols)})
	}
	return d
}

func someName(r *rand.Rand) string {
	if r.Intn(100) == 0 {
		wrong := append(noTexts(), tableWords...)
		return wrong[r.Intn(len(wrong))]
	}
	return string(rune('a'+r.Intn(26))) + strconv.Itoa(r.Intn(2))
}

func someList(r *rand.Rand, cols int) []impl.By {
	var out []impl.By
	most := 2
	if r.Intn(20) == 0 {
		most = 4
	}
	for i := range most {
		if i == 0 && r.Intn(40) == 0 {
			break
		}
		place := r.Intn(max(cols, 1))
		if r.Intn(40) == 0 {
			place = r.Intn(cols+3) - 1
		}
		out = append(out, impl.By{Col: place, Desc: r.Intn(2) == 0})
		if most == 2 && r.Intn(2) == 0 {
			break
		}
	}
	return out
}

// The seed is fixed: the same tables each time.
func TestTablesByTheWords(t *testing.T) {
	r := rand.New(rand.NewSource(9))
	met := map[int]int{}
	for range 60000 {
		d := someDef(r)
		want := firstOf(d)
		met[want]++
		refuses(t, "some table", d, want)
		if want == impl.ChGood && impl.DefText(d) != textOf(d) {
			t.Errorf("DefText(%+v) = %q, not %q", d, impl.DefText(d), textOf(d))
		}
		if !impl.SameDef(d, copied(d)) {
			t.Errorf("SameDef(%+v) of itself is false", d)
		}
		if t.Failed() {
			break
		}
	}
	for _, code := range append([]int{impl.ChGood}, inTurn...) {
		if met[code] < 200 && !t.Failed() {
			t.Errorf("the code %d was met %d times", code, met[code])
		}
	}
}

// Every key of at most three parts, of a table of two columns, each of which may be nothing or not.
func TestEveryKey(t *testing.T) {
	var some []impl.By
	for place := -1; place <= 2; place++ {
		some = append(some, up(place), down(place))
	}
	lists := [][]impl.By{nil}
	for from := 0; from < len(lists) && len(lists[from]) < 3; from++ {
		for _, p := range some {
			lists = append(lists, append(slices.Clone(lists[from]), p))
		}
	}
	for _, l := range lists {
		for nulls := range 4 {
			d := impl.Def{Name: "t", Cols: []impl.Col{{Name: "a", Type: impl.TInt, Null: nulls&1 == 1}, {Name: "b", Type: impl.TText, Null: nulls&2 == 2}}, Primary: l}
			refuses(t, "a key", d, firstOf(d))
			if firstOf(d) == impl.ChGood && impl.DefText(d) != textOf(d) {
				t.Errorf("DefText(%+v) = %q", d, impl.DefText(d))
			}
			d.Primary, d.Indexes = by(up(0)), []impl.Index{index("x", l...)}
			refuses(t, "an index", d, firstOf(d))
			if firstOf(d) == impl.ChGood && impl.DefText(d) != textOf(d) {
				t.Errorf("DefText(%+v) = %q", d, impl.DefText(d))
			}
		}
	}
}

// A column of every type, that may be nothing or not, at every place.
func TestEveryColumn(t *testing.T) {
	words := map[int]string{impl.TInt: "int", impl.TNum: "num", impl.TText: "text", impl.TBool: "bool"}
	for at := range 6 {
		for kind, word := range words {
			d := manyCols(6, 0)
			d.Cols[at] = impl.Col{Name: "here", Type: kind}
			if got := impl.DefText(d); !strings.Contains(got, " here "+word+"; ") || got != textOf(d) {
				t.Errorf("DefText(%+v) = %q", d, got)
			}
			d.Cols[at].Null = true
			d.Primary = by(up((at + 1) % 6))
			if got := impl.DefText(d); !strings.Contains(got, " here "+word+" null; ") || got != textOf(d) {
				t.Errorf("DefText(%+v) = %q", d, got)
			}
		}
	}
}

// unlike turns one thing of a table, so that it is another one.
func unlike() []func(d *impl.Def) {
	return []func(d *impl.Def){
		func(d *impl.Def) { d.Name = "peopl" },
		func(d *impl.Def) { d.Name = "" },
		func(d *impl.Def) { d.Cols[0].Name = "ie" },
		func(d *impl.Def) { d.Cols[3].Name = "" },
		func(d *impl.Def) { d.Cols[1].Type = impl.TInt },
		func(d *impl.Def) { d.Cols[1].Type = -1 },
		func(d *impl.Def) { d.Cols[3].Null = false },
		func(d *impl.Def) { d.Cols[2].Null = true },
		func(d *impl.Def) { d.Cols = d.Cols[:3] },
		func(d *impl.Def) { d.Cols = d.Cols[1:] },
		func(d *impl.Def) { d.Cols = append(d.Cols, impl.Col{}) },
		func(d *impl.Def) { d.Cols[0], d.Cols[2] = d.Cols[2], d.Cols[0] },
		func(d *impl.Def) { d.Cols = nil },
		func(d *impl.Def) { d.Primary[0].Col = 1 },
		func(d *impl.Def) { d.Primary[1].Col = -1 },
		func(d *impl.Def) { d.Primary[0].Desc = false },
		func(d *impl.Def) { d.Primary[1].Desc = true },
		func(d *impl.Def) { d.Primary = d.Primary[:1] },
		func(d *impl.Def) { d.Primary = append(d.Primary, impl.By{}) },
		func(d *impl.Def) { d.Primary[0], d.Primary[1] = d.Primary[1], d.Primary[0] },
		func(d *impl.Def) { d.Primary = nil },
		func(d *impl.Def) { d.Indexes[0].Name = "u" },
		func(d *impl.Def) { d.Indexes[1].Name = "" },
		func(d *impl.Def) { d.Indexes[0].Unique = false },
		func(d *impl.Def) { d.Indexes[1].Unique = true },
		func(d *impl.Def) { d.Indexes[0].Parts[0].Col = 0 },
		func(d *impl.Def) { d.Indexes[1].Parts[1].Col = 9 },
		func(d *impl.Def) { d.Indexes[0].Parts[0].Desc = true },
		func(d *impl.Def) { d.Indexes[1].Parts[0].Desc = false },
		func(d *impl.Def) { d.Indexes[1].Parts = d.Indexes[1].Parts[:1] },
		func(d *impl.Def) { d.Indexes[0].Parts = append(d.Indexes[0].Parts, impl.By{}) },
		func(d *impl.Def) { d.Indexes[0].Parts = nil },
		func(d *impl.Def) { d.Indexes = d.Indexes[:1] },
		func(d *impl.Def) { d.Indexes = d.Indexes[1:] },
		func(d *impl.Def) { d.Indexes = append(d.Indexes, impl.Index{}) },
		func(d *impl.Def) { d.Indexes[0], d.Indexes[1] = d.Indexes[1], d.Indexes[0] },
		func(d *impl.Def) { d.Indexes = nil },
	}
}

// Each two of the tables that differ are not the same, whichever stands ahead; each is the same as itself and its copy.
func TestSameDef(t *testing.T) {
	all := []impl.Def{fourCols()}
	for _, turn := range unlike() {
		d := fourCols()
		turn(&d)
		all = append(all, d)
	}
	for i, a := range all {
		for j, b := range all {
			if got := impl.SameDef(a, copied(b)); got != (i == j) {
				t.Errorf("SameDef(%+v, %+v) = %v", a, b, got)
			}
		}
		if !impl.SameDef(a, a) {
			t.Errorf("SameDef(%+v) of itself is false", a)
		}
	}
	for _, c := range rightDefs() {
		if !impl.SameDef(c.d, copied(c.d)) || impl.SameDef(c.d, impl.Def{}) || impl.SameDef(impl.Def{}, c.d) {
			t.Errorf("SameDef(%+v)", c.d)
		}
	}
}

// An empty list and nil are the same value, in each of the lists.
func TestSameDefOfEmptyLists(t *testing.T) {
	empty := impl.Def{Cols: []impl.Col{}, Primary: []impl.By{}, Indexes: []impl.Index{}}
	if !impl.SameDef(empty, impl.Def{}) || !impl.SameDef(impl.Def{}, empty) || !impl.SameDef(impl.Def{}, impl.Def{}) {
		t.Error("empty lists and nil are unlike")
	}
	for _, turn := range []func(d *impl.Def, nils bool){
		func(d *impl.Def, nils bool) { d.Cols = listOr(nils, d.Cols) },
		func(d *impl.Def, nils bool) { d.Primary = listOr(nils, d.Primary) },
		func(d *impl.Def, nils bool) { d.Indexes = listOr(nils, d.Indexes) },
		func(d *impl.Def, nils bool) { d.Indexes[0].Parts = listOr(nils, d.Indexes[0].Parts) },
		func(d *impl.Def, nils bool) { d.Indexes[1].Parts = listOr(nils, d.Indexes[1].Parts) },
	} {
		a, b := fourCols(), fourCols()
		turn(&a, true)
		turn(&b, false)
		if !impl.SameDef(a, b) || !impl.SameDef(b, a) {
			t.Errorf("SameDef(%#v, %#v)", a, b)
		}
		if impl.CheckDef(a) != impl.CheckDef(b) || impl.DefText(a) != impl.DefText(b) {
			t.Errorf("an empty list and nil are told apart: %#v", a)
		}
	}
}

// listOr has nil, or an empty list.
func listOr[T any](nils bool, l []T) []T {
	if nils {
		return nil
	}
	return l[:0]
}

// roomyDef has spare room behind each list, with what would be wrong there, or make whole what is too short.
func roomyDef(d impl.Def) impl.Def {
	d = copied(d)
	d.Cols = append(d.Cols, impl.Col{Name: "spare", Type: 9}, impl.Col{Name: ""})[:len(d.Cols)]
	d.Primary = append(d.Primary, up(77), up(0))[:len(d.Primary)]
	d.Indexes = append(d.Indexes, index("spare", up(78)), index(""))[:len(d.Indexes)]
	for i, x := range d.Indexes {
		d.Indexes[i].Parts = append(x.Parts, up(79), down(0))[:len(x.Parts)]
	}
	return d
}

// allRoom has all that stands in a table's lists, and the spare room behind them.
func allRoom(d impl.Def) impl.Def {
	d.Cols = slices.Clone(d.Cols[:len(d.Cols)+2])
	d.Primary = slices.Clone(d.Primary[:len(d.Primary)+2])
	shown := len(d.Indexes)
	d.Indexes = slices.Clone(d.Indexes[:shown+2])
	for i, x := range d.Indexes[:shown] {
		d.Indexes[i].Parts = slices.Clone(x.Parts[:len(x.Parts)+2])
	}
	return d
}

func TestTablesAreNotWrittenTo(t *testing.T) {
	defs := []impl.Def{{}, fourCols(), oneCol(), manyCols(7, 3), manyCols(6, 2)}
	for _, w := range wrongWays() {
		d := fourCols()
		w.do(&d)
		defs = append(defs, d)
	}
	for _, d := range defs {
		roomy := roomyDef(d)
		ahead := allRoom(roomy)
		if impl.CheckDef(roomy) != impl.CheckDef(d) || impl.DefText(roomy) != impl.DefText(d) || !impl.SameDef(roomy, d) || !impl.SameDef(d, roomy) {
			t.Errorf("the spare room behind %+v is read", d)
		}
		if !sameAll(ahead, allRoom(roomy)) {
			t.Errorf("the table %+v turned into %+v", ahead, allRoom(roomy))
		}
	}
}

// sameAll goes by the fields, not by what is asked.
func sameAll(a impl.Def, b impl.Def) bool {
	return a.Name == b.Name && slices.Equal(a.Cols, b.Cols) && slices.Equal(a.Primary, b.Primary) && slices.EqualFunc(a.Indexes, b.Indexes, func(x impl.Index, y impl.Index) bool {
		return x.Name == y.Name && x.Unique == y.Unique && slices.Equal(x.Parts, y.Parts)
	})
}

func TestTextsOfTablesAreNewMemory(t *testing.T) {
	for _, c := range rightDefs() {
		d := copied(c.d)
		texts := []string{impl.DefText(d), impl.DefText(d)}
		if within(texts[0], texts[1]) {
			t.Errorf("two texts of %+v share memory", d)
		}
		for _, c := range d.Cols {
			if within(c.Name, texts[0]) {
				t.Errorf("the text %q shares memory with a column's name", texts[0])
			}
		}
		if within(d.Name, texts[0]) {
			t.Errorf("the text %q shares memory with the table's name", texts[0])
		}
	}
}
