package tests

import (
	"math"
	"math/rand"
	"slices"
	"strings"
	"testing"

	"loop.example/g00322/impl"
)

var (
	_ func(impl.Def) []impl.Part                     = impl.PrimaryPlan
	_ func(impl.Def, int) []impl.Part                = impl.IndexPlan
	_ func(impl.Def) []impl.Part                     = impl.RowPlan
	_ func([]impl.Def, int, int, []impl.Val) []byte  = impl.KeyOf
	_ func([]impl.Def, int, int) []byte              = impl.HeadOf
	_ func(s []impl.Def, t int, row []impl.Val) bool = impl.LongKey
)

// noPlace has numbers that are the place of nothing in a list of n.
func noPlace(n int) []int {
	return []int{math.MinInt, -1 << 32, -257, -256, -2, n, n + 1, n + 254, n + 255, n + 256, 1 << 32, math.MaxInt - 1, math.MaxInt}
}

// asPart has a column's part by the chapter's words.
func asPart(d impl.Def, p impl.By) impl.Part {
	return impl.Part{Col: p.Col, Type: d.Cols[p.Col].Type, Null: d.Cols[p.Col].Null, Desc: p.Desc}
}

// wordsPrimary, wordsIndex and wordsRow are the plans by the chapter's words.
func wordsPrimary(d impl.Def) []impl.Part {
	if firstOf(d) != impl.ChGood {
		return nil
	}
	var out []impl.Part
	for _, p := range d.Primary {
		out = append(out, asPart(d, p))
	}
	return out
}

func wordsIndex(d impl.Def, i int) []impl.Part {
	if firstOf(d) != impl.ChGood || i < 0 || i >= len(d.Indexes) {
		return nil
	}
	var out []impl.Part
	for _, p := range d.Indexes[i].Parts {
		out = append(out, asPart(d, p))
	}
	return append(out, wordsPrimary(d)...)
}

func wordsRow(d impl.Def) []impl.Part {
	if firstOf(d) != impl.ChGood {
		return nil
	}
	var out []impl.Part
	for at := range d.Cols {
		out = append(out, asPart(d, up(at)))
	}
	return out
}

// plansAre holds all plans of a table against the words, those of indexes that are not there too.
func plansAre(t *testing.T, what string, d impl.Def) {
	t.Helper()
	if got, want := impl.PrimaryPlan(d), wordsPrimary(d); !slices.Equal(got, want) {
		t.Errorf("%s: PrimaryPlan(%+v) = %+v, not %+v", what, d, got, want)
	}
	if got, want := impl.RowPlan(d), wordsRow(d); !slices.Equal(got, want) {
		t.Errorf("%s: RowPlan(%+v) = %+v, not %+v", what, d, got, want)
	}
	for i := -2; i <= len(d.Indexes)+1; i++ {
		if got, want := impl.IndexPlan(d, i), wordsIndex(d, i); !slices.Equal(got, want) {
			t.Errorf("%s: IndexPlan(%+v, %d) = %+v, not %+v", what, d, i, got, want)
		}
	}
}

func TestMaxKey(t *testing.T) {
	if impl.MaxKey != 48 {
		t.Error(impl.MaxKey)
	}
}

// Written out, so that no other making of plans stands between.
func TestPlansOfATable(t *testing.T) {
	d := fourCols()
	id, sum := impl.Part{Col: 0, Type: impl.TInt}, impl.Part{Col: 1, Type: impl.TNum, Null: true}
	called, in := impl.Part{Col: 2, Type: impl.TText}, impl.Part{Col: 3, Type: impl.TBool, Null: true}
	calledDesc, inDesc := called, in
	calledDesc.Desc, inDesc.Desc = true, true
	cases := []struct {
		name string
		got  []impl.Part
		want []impl.Part
	}{
		{"Primary", impl.PrimaryPlan(d), []impl.Part{calledDesc, id}},
		{"the first index", impl.IndexPlan(d, 0), []impl.Part{sum, calledDesc, id}},
		{"the second index", impl.IndexPlan(d, 1), []impl.Part{inDesc, sum, calledDesc, id}},
		{"the rows", impl.RowPlan(d), []impl.Part{id, sum, called, in}},
		{"Primary in the place of an index", impl.IndexPlan(d, -1), nil},
		{"a third index", impl.IndexPlan(d, 2), nil},
		{"Primary of one part", impl.PrimaryPlan(oneCol()), []impl.Part{{Type: impl.TInt}}},
		{"the rows of one column", impl.RowPlan(oneCol()), []impl.Part{{Type: impl.TInt}}},
		{"an index of no index", impl.IndexPlan(oneCol(), 0), nil},
	}
	for _, c := range cases {
		if !slices.Equal(c.got, c.want) {
			t.Errorf("%s: %+v, not %+v", c.name, c.got, c.want)
		}
	}
}

// A column may stand in an index and in Primary, each in its own direction: neither takes the place of the other.
func TestPlansOfOneColumnTwice(t *testing.T) {
	d := impl.Def{Name: "t", Cols: []impl.Col{{Name: "a", Type: impl.TInt}, {Name: "b", Type: impl.TText}}, Primary: by(up(1), down(0))}
	d.Indexes = []impl.Index{index("x", up(0), down(1)), unique("y", up(1), down(0))}
	a, b := impl.Part{Col: 0, Type: impl.TInt}, impl.Part{Col: 1, Type: impl.TText}
	aDesc, bDesc := a, b
	aDesc.Desc, bDesc.Desc = true, true
	if got := impl.IndexPlan(d, 0); !slices.Equal(got, []impl.Part{a, bDesc, b, aDesc}) {
		t.Errorf("the other way round: %+v", got)
	}
	if got := impl.IndexPlan(d, 1); !slices.Equal(got, []impl.Part{b, aDesc, b, aDesc}) {
		t.Errorf("the same parts: %+v", got)
	}
}

func TestPlansOfTablesThatAreRight(t *testing.T) {
	for _, l := range goodLists() {
		for _, d := range l {
			plansAre(t, "a table that is right", d)
			if len(impl.PrimaryPlan(d)) != len(d.Primary) || len(impl.RowPlan(d)) != len(d.Cols) {
				t.Errorf("plans of %+v have other counts", d)
			}
			for i := range d.Indexes {
				if got := impl.IndexPlan(d, i); len(got) != len(d.Indexes[i].Parts)+len(d.Primary) || !impl.PlanOk(got) {
					t.Errorf("IndexPlan(%+v, %d) = %+v", d, i, got)
				}
			}
			if !impl.PlanOk(impl.PrimaryPlan(d)) || !impl.PlanOk(impl.RowPlan(d)) {
				t.Errorf("plans of %+v are not right", d)
			}
		}
	}
}

func TestPlansOfTablesThatAreWrong(t *testing.T) {
	nothingOf := func(what string, d impl.Def) {
		t.Helper()
		if len(impl.PrimaryPlan(d)) != 0 || len(impl.RowPlan(d)) != 0 {
			t.Errorf("%s: plans of %+v: %+v, %+v", what, d, impl.PrimaryPlan(d), impl.RowPlan(d))
		}
		for i := -1; i <= len(d.Indexes); i++ {
			if got := impl.IndexPlan(d, i); len(got) != 0 {
				t.Errorf("%s: IndexPlan(%+v, %d) = %+v", what, d, i, got)
			}
		}
	}
	nothingOf("nothing at all", impl.Def{})
	nothingOf("seven columns", manyCols(7, 2))
	nothingOf("three indexes", manyCols(6, 3))
	for _, w := range wrongWays() {
		d := fourCols()
		w.do(&d)
		nothingOf(w.what, d)
	}
}

func TestPlansOfNoIndex(t *testing.T) {
	for m := range 3 {
		d := manyCols(6, m)
		for _, i := range append(noPlace(m), -1) {
			if got := impl.IndexPlan(d, i); len(got) != 0 {
				t.Errorf("%d indexes: IndexPlan of %d = %+v", m, i, got)
			}
		}
	}
}

// Every key and every index of at most two parts, of a table of three columns, of which one may be nothing.
func TestPlansOfEveryKey(t *testing.T) {
	var some []impl.By
	for place := range 3 {
		some = append(some, up(place), down(place))
	}
	lists := [][]impl.By{}
	for _, p := range some {
		lists = append(lists, by(p))
		for _, q := range some {
			lists = append(lists, by(p, q))
		}
	}
	for _, key := range lists {
		for _, l := range lists {
			d := impl.Def{Name: "t", Cols: []impl.Col{{Name: "a", Type: impl.TBool}, {Name: "b", Type: impl.TNum, Null: true}, {Name: "c", Type: impl.TText}}, Primary: key}
			d.Indexes = []impl.Index{index("x", l...), unique("y", key...)}
			plansAre(t, "a key and an index", d)
		}
	}
}

// The seed is fixed: the same tables each time.
func TestPlansByTheWords(t *testing.T) {
	r := rand.New(rand.NewSource(11))
	right := 0
	for range 20000 {
		d := someDef(r)
		if firstOf(d) == impl.ChGood {
			right++
		}
		plansAre(t, "some table", d)
		if t.Failed() {
			return
		}
	}
	if right < 1000 || right > 19000 {
		t.Errorf("%d tables are right", right)
	}
}

// However many there are, the plans of such a table take no time to speak of.
func TestPlansOfVeryMany(t *testing.T) {
	const many = 200000
	d := manyCols(1, many)
	s := tables(d)
	row := []impl.Val{whole(1)}
	if len(impl.PrimaryPlan(d)) != 0 || len(impl.IndexPlan(d, 7)) != 0 || len(impl.RowPlan(d)) != 0 {
		t.Error("plans of very many indexes")
	}
	if len(impl.KeyOf(s, 0, 7, row)) != 0 || len(impl.HeadOf(s, 0, 7)) != 0 || impl.LongKey(s, 0, row) {
		t.Error("keys of very many indexes")
	}
	all := slices.Repeat(tables(oneCol()), many)
	if len(impl.KeyOf(all, many-1, -1, row)) != 0 || len(impl.HeadOf(all, many-1, -1)) != 0 || impl.LongKey(all, many-1, row) {
		t.Error("keys of very many tables")
	}
	long := slices.Repeat(row, many)
	if len(impl.KeyOf(tables(oneCol()), 0, -1, long)) != 0 || impl.LongKey(tables(oneCol()), 0, long) {
		t.Error("keys of very many values")
	}
}

// formOf has the bytes of one value in a key by the words of the chapters ahead.
func formOf(p impl.Part, v impl.Val) string {
	form := ""
	switch v.K {
	case impl.VNull:
		return map[bool]string{false: "\x00", true: "\xff"}[p.Desc]
	case impl.VInt:
		n := v.N + 2147483648
		form = string([]byte{byte(n / 16777216), byte(n / 65536), byte(n / 256), byte(n)})
	case impl.VNum:
		form = varForm(v.N)
	case impl.VText:
		form = strings.ReplaceAll(v.S, "\x00", "\x00\xff") + "\x00\x01"
	case impl.VBool:
		form = string([]byte{byte(v.N)})
	}
	return inPart(p, form)
}

// wordsPlan is the plan of an index, or of Primary, which is -1.
func wordsPlan(d impl.Def, i int) []impl.Part {
	if i == -1 {
		return wordsPrimary(d)
	}
	return wordsIndex(d, i)
}

// wordsHead has the bytes ahead of a key by the chapter's words.
func wordsHead(s []impl.Def, t int, i int) string {
	if firstWrong(s) != -1 || t < 0 || t >= len(s) || i < -1 || i >= len(s[t].Indexes) {
		return ""
	}
	return string([]byte{byte(t + 1), byte(i + 1)})
}

func wordsKey(s []impl.Def, t int, i int, row []impl.Val) string {
	out := wordsHead(s, t, i)
	if out == "" || !rowFits(s[t], row) {
		return ""
	}
	for _, p := range wordsPlan(s[t], i) {
		out += formOf(p, row[p.Col])
	}
	return out
}

// rowFits tells by the words whether a row is one of a table that is right.
func rowFits(d impl.Def, row []impl.Val) bool {
	if len(row) != len(d.Cols) {
		return false
	}
	for at, c := range d.Cols {
		if row[at] == nothing() && c.Null {
			continue
		}
		if row[at].K != c.Type || slices.Contains(wrongVals(), row[at]) {
			return false
		}
	}
	return true
}

// wordsRowSize is how many bytes a row has that fits.
func wordsRowSize(row []impl.Val) int {
	size := 1 + 4
	for _, v := range row {
		size++
		switch v.K {
		case impl.VInt, impl.VNum:
			size += len(varForm(v.N))
		case impl.VText:
			size += 1 + len(v.S)
		case impl.VBool:
			size++
		}
	}
	return size
}

func wordsLong(s []impl.Def, t int, row []impl.Val) bool {
	if t < 0 || t >= len(s) {
		return false
	}
	for i := -1; i < len(s[t].Indexes); i++ {
		if len(wordsKey(s, t, i, row)) > 48 {
			return true
		}
	}
	return firstOf(s[t]) == impl.ChGood && rowFits(s[t], row) && wordsRowSize(row) > 60
}

// keysAre holds all keys of a row against the words, and those of tables and indexes that are not there.
func keysAre(t *testing.T, what string, s []impl.Def, row []impl.Val) {
	t.Helper()
	for at := -1; at <= len(s); at++ {
		indexes := 0
		if 0 <= at && at < len(s) {
			indexes = len(s[at].Indexes)
		}
		for i := -2; i <= indexes; i++ {
			if got, want := impl.KeyOf(s, at, i, row), wordsKey(s, at, i, row); string(got) != want {
				t.Errorf("%s: KeyOf(%+v, %d, %d, %#v) = %x, not %x", what, s, at, i, row, got, want)
			}
			if got, want := impl.HeadOf(s, at, i), wordsHead(s, at, i); string(got) != want {
				t.Errorf("%s: HeadOf(%+v, %d, %d) = %x, not %x", what, s, at, i, got, want)
			}
		}
		if got, want := impl.LongKey(s, at, row), wordsLong(s, at, row); got != want {
			t.Errorf("%s: LongKey(%+v, %d, %#v) = %v, not %v", what, s, at, row, got, want)
		}
	}
}

// Written out, so that no other making of bytes stands between.
func TestKeysOfARow(t *testing.T) {
	s := tables(oneCol(), fourCols(), allKinds())
	row := []impl.Val{whole(5), number(-2), textVal("a\x00"), nothing()}
	kinds := []impl.Val{whole(-1), number(300), textVal("xy"), flag(1), nothing(), textVal("")}
	cases := []struct {
		name string
		t, i int
		row  []impl.Val
		want string
	}{
		{"Primary of one part", 0, -1, []impl.Val{whole(7)}, "\x01\x00" + "\x80\x00\x00\x07"},
		{"Primary", 1, -1, row, "\x02\x00" + "\x9e\xff\x00\xff\xfe" + "\x80\x00\x00\x05"},
		{"the first index", 1, 0, row, "\x02\x01" + "\x01\x7e\xfe" + "\x9e\xff\x00\xff\xfe" + "\x80\x00\x00\x05"},
		{"the second index", 1, 1, row, "\x02\x02" + "\xff" + "\x01\x7e\xfe" + "\x9e\xff\x00\xff\xfe" + "\x80\x00\x00\x05"},
		{"Primary of the third table", 2, -1, kinds, "\x03\x00" + "\x01" + "\x7d\xfe\xd3"},
		{"its first index", 2, 0, kinds, "\x03\x01" + "\xff" + "xy\x00\x01" + "\x01" + "\x7d\xfe\xd3"},
		{"its second index", 2, 1, kinds, "\x03\x02" + "\x7f\xff\xff\xff" + "\xfe\xff\xfe" + "\x01" + "\x7d\xfe\xd3"},
	}
	for _, c := range cases {
		if got := impl.KeyOf(s, c.t, c.i, c.row); string(got) != c.want {
			t.Errorf("%s: %x, not %x", c.name, got, c.want)
		}
		if got := impl.HeadOf(s, c.t, c.i); string(got) != c.want[:2] {
			t.Errorf("%s: the head %x", c.name, got)
		}
		if impl.LongKey(s, c.t, c.row) {
			t.Errorf("%s: a short key is long", c.name)
		}
	}
}

func TestHeads(t *testing.T) {
	s := tables(manyCols(6, 2), renamed(manyCols(1, 0), "u"), renamed(manyCols(3, 1), "v"))
	cases := []struct {
		t, i int
		want string
	}{
		{0, -1, "\x01\x00"}, {0, 0, "\x01\x01"}, {0, 1, "\x01\x02"}, {0, 2, ""},
		{1, -1, "\x02\x00"}, {1, 0, ""}, {1, 1, ""},
		{2, -1, "\x03\x00"}, {2, 0, "\x03\x01"}, {2, 1, ""},
		{3, -1, ""}, {3, 0, ""}, {-1, -1, ""}, {-1, 0, ""}, {0, -2, ""}, {2, -2, ""},
	}
	for _, c := range cases {
		if got := impl.HeadOf(s, c.t, c.i); string(got) != c.want {
			t.Errorf("HeadOf(s, %d, %d) = %x", c.t, c.i, got)
		}
	}
}

// rowOf has of each column the value at this place among those that fit it, from the first on again.
func rowOf(d impl.Def, at int) []impl.Val {
	var out []impl.Val
	for col := range d.Cols {
		vals := valsOfPart(asPart(d, up(col)))
		out = append(out, vals[(at+3*col)%len(vals)].v)
	}
	return out
}

func TestNoSuchTableOrIndex(t *testing.T) {
	for _, s := range goodLists() {
		for at, d := range s {
			row := rowOf(d, 1)
			for _, i := range noPlace(len(d.Indexes)) {
				if key, head := impl.KeyOf(s, at, i, row), impl.HeadOf(s, at, i); len(key) != 0 || len(head) != 0 {
					t.Errorf("the index %d: %x, %x", i, key, head)
				}
			}
			for _, other := range append(noPlace(len(s)), -1) {
				for i := -1; i < len(d.Indexes); i++ {
					if key, head := impl.KeyOf(s, other, i, row), impl.HeadOf(s, other, i); len(key) != 0 || len(head) != 0 {
						t.Errorf("the table %d: %x, %x", other, key, head)
					}
				}
				if impl.LongKey(s, other, row) {
					t.Errorf("the table %d: a long key", other)
				}
			}
		}
	}
	for _, s := range [][]impl.Def{nil, {}} {
		for _, row := range [][]impl.Val{nil, {}, {whole(1)}} {
			if len(impl.KeyOf(s, 0, -1, row)) != 0 || len(impl.HeadOf(s, 0, -1)) != 0 || impl.LongKey(s, 0, row) {
				t.Error("no table at all has keys")
			}
		}
	}
}

// A table that is right has no keys, where another one of the list is not, wherever that stands.
func TestKeysOfListsThatAreNotRight(t *testing.T) {
	noKeys := func(what string, s []impl.Def, at int) {
		t.Helper()
		row := []impl.Val{whole(1)}
		if len(impl.KeyOf(s, at, -1, row)) != 0 || len(impl.HeadOf(s, at, -1)) != 0 || impl.LongKey(s, at, row) {
			t.Errorf("%s: %x, %x, %v", what, impl.KeyOf(s, at, -1, row), impl.HeadOf(s, at, -1), impl.LongKey(s, at, row))
		}
		keysAre(t, what, s, row)
	}
	one, other := oneCol(), renamed(oneCol(), "u")
	for _, w := range wrongWays() {
		bad := fourCols()
		w.do(&bad)
		noKeys(w.what, tables(bad), 0)
		noKeys(w.what+", behind", tables(one, bad), 0)
		noKeys(w.what+", ahead", tables(bad, one), 1)
		noKeys(w.what+", behind two", tables(one, other, bad), 1)
		for i := -1; i < len(bad.Indexes); i++ {
			if row := rowOf(fourCols(), 2); len(impl.KeyOf(tables(one, bad), 1, i, row)) != 0 || len(impl.HeadOf(tables(one, bad), 1, i)) != 0 {
				t.Errorf("%s: it has keys itself", w.what)
			}
		}
	}
	noKeys("two of one name", tables(one, one), 0)
	noKeys("two of one name", tables(one, one), 1)
	noKeys("the third of the first's name", tables(one, other, one), 1)
	for at := range 4 {
		noKeys("four tables", tables(renamed(one, "a"), renamed(one, "b"), renamed(one, "c"), renamed(one, "d")), at)
	}
	for at := range 3 {
		s := tables(renamed(one, "a"), renamed(one, "b"), renamed(one, "c"))
		if got := impl.KeyOf(s, at, -1, []impl.Val{whole(1)}); string(got) != string([]byte{byte(at + 1), 0})+"\x80\x00\x00\x01" {
			t.Errorf("three tables: %x", got)
		}
	}
}

// A row that does not fit has no key, be the column that is wrong in the plan or not.
func TestKeysOfRowsThatAreNotRight(t *testing.T) {
	for _, d := range tables(oneCol(), fourCols(), allKinds(), fullTable()) {
		s := tables(renamed(oneCol(), "first"), d)
		noKeys := func(what string, row []impl.Val) {
			t.Helper()
			for i := -1; i < len(d.Indexes); i++ {
				if got := impl.KeyOf(s, 1, i, row); len(got) != 0 {
					t.Errorf("%s: KeyOf(%+v, %d, %#v) = %x", what, d, i, row, got)
				}
			}
			if impl.LongKey(s, 1, row) {
				t.Errorf("%s: LongKey(%+v, %#v)", what, d, row)
			}
		}
		fine := rowOf(d, 1)
		noKeys("no row", nil)
		noKeys("an empty row", []impl.Val{})
		for n := range fine {
			noKeys("fewer values", fine[:n])
		}
		for _, v := range []impl.Val{nothing(), whole(1), textVal("a"), {K: 5}} {
			noKeys("one value more", append(slices.Clone(fine), v))
		}
		for at, p := range wordsRow(d) {
			for _, v := range allVals() {
				row := slices.Clone(fine)
				row[at] = v
				if rowFits(d, row) != impl.Fits(p, v) {
					t.Fatalf("the words tell another of %#v at %d", v, at)
				}
				if !rowFits(d, row) {
					noKeys("a value that does not fit", row)
				}
			}
		}
		keysAre(t, "a row that is right", s, fine)
	}
}

func TestKeysByTheWords(t *testing.T) {
	for _, s := range goodLists() {
		keysAre(t, "no row", s, nil)
		for _, d := range s {
			for at := range 13 {
				keysAre(t, "a row of a table that is right", s, rowOf(d, at))
			}
		}
	}
}

// someRow makes a row from numbers, mostly right, often near the limits.
func someRow(r *rand.Rand, d impl.Def) []impl.Val {
	var out []impl.Val
	for _, c := range d.Cols {
		kind := c.Type
		if r.Intn(60) == 0 {
			kind = r.Intn(6)
		}
		if c.Null && r.Intn(4) == 0 {
			kind = impl.VNull
		}
		out = append(out, someVal(r, kind))
	}
	if r.Intn(60) == 0 {
		out = append(out, nothing())
	}
	return out
}

func someVal(r *rand.Rand, kind int) impl.Val {
	switch kind {
	case impl.VNull:
		return nothing()
	case impl.VInt:
		return whole(r.Intn(7) - 3)
	case impl.VNum:
		return number((r.Intn(7) - 3) * []int{1, 100, 100000, 300000000000000}[r.Intn(4)])
	case impl.VText:
		s := strings.Repeat([]string{"a", "b", "\x00", "\xff"}[r.Intn(4)], r.Intn(3))
		if r.Intn(4) > 0 {
			s = strings.Repeat("m", 14+r.Intn(15)) + s
		}
		return textVal(s)
	case impl.VBool:
		return flag(r.Intn(2))
	}
	return impl.Val{K: kind}
}

// someSchema makes a list of tables from numbers, mostly right.
func someSchema(r *rand.Rand) []impl.Def {
	var out []impl.Def
	count := 1 + r.Intn(3)
	if r.Intn(20) == 0 {
		count = 4
	}
	for len(out) < count {
		d := someDef(r)
		if firstOf(d) == impl.ChGood || r.Intn(100) == 0 {
			out = append(out, d)
		}
	}
	return out
}

// The seed is fixed: the same tables and rows each time.
func TestKeysOfSomeTablesByTheWords(t *testing.T) {
	r := rand.New(rand.NewSource(1111))
	long, short, refused := 0, 0, 0
	for range 1000 {
		s := someSchema(r)
		for at, d := range s {
			for range 4 {
				row := someRow(r, d)
				keysAre(t, "some row", s, row)
				switch {
				case wordsKey(s, at, -1, row) == "":
					refused++
				case wordsLong(s, at, row):
					long++
				default:
					short++
				}
			}
		}
		if t.Failed() {
			return
		}
	}
	if long < 200 || short < 200 || refused < 200 {
		t.Errorf("%d rows are long, %d short, %d refused", long, short, refused)
	}
}

// keyAt has a key, and what it is of.
type keyAt struct {
	t, i int
	row  []impl.Val
	b    []byte
}

// rowsOfTable has some rows that differ in all columns, and some in each column alone.
func rowsOfTable(d impl.Def) [][]impl.Val {
	var out [][]impl.Val
	for n := range 12 {
		out = append(out, rowOf(d, n))
	}
	base := rowOf(d, 1)
	for at, p := range wordsRow(d) {
		for _, c := range valsOfPart(p) {
			row := slices.Clone(base)
			row[at] = c.v
			out = append(out, row)
		}
	}
	return out
}

func keysOfTables(t *testing.T, s []impl.Def) []keyAt {
	t.Helper()
	var out []keyAt
	for at, d := range s {
		for i := -1; i < len(d.Indexes); i++ {
			for _, row := range rowsOfTable(d) {
				b := impl.KeyOf(s, at, i, row)
				if len(b) < 3 {
					t.Fatalf("KeyOf(%+v, %d, %d, %#v) = %x", s, at, i, row, b)
				}
				out = append(out, keyAt{at, i, row, b})
			}
		}
	}
	return out
}

func picked(l []impl.Part, row []impl.Val) []impl.Val {
	var out []impl.Val
	for _, p := range l {
		out = append(out, row[p.Col])
	}
	return out
}

// aheadByWords is the order of keys: the table, then the index, Primary first, then the values of the plan.
func aheadByWords(s []impl.Def, a keyAt, b keyAt) bool {
	if a.t != b.t {
		return a.t < b.t
	}
	if a.i != b.i {
		return a.i < b.i
	}
	l := wordsPlan(s[a.t], a.i)
	return lessByPlan(l, picked(l, a.row), picked(l, b.row))
}

// Keys of one table stand together, and there those of one index; in these the values tell the order.
func TestKeysStandInTheOrderOfValues(t *testing.T) {
	for _, s := range goodLists() {
		keys := keysOfTables(t, s)
		for _, a := range keys {
			for _, b := range keys {
				if got, want := impl.Before(a.b, b.b), aheadByWords(s, a, b); got != want {
					t.Fatalf("%d, %d, %#v ahead of %d, %d, %#v: %v, %x, %x", a.t, a.i, a.row, b.t, b.i, b.row, got, a.b, b.b)
				}
			}
		}
	}
}

// No key begins another one, and two are alike only where the plan's values are.
func TestKeysBeginNoOthers(t *testing.T) {
	s := tables(fourCols(), allKinds(), beginnings())
	keys := keysOfTables(t, s)
	for _, a := range keys {
		for _, b := range keys {
			alike := a.t == b.t && a.i == b.i && !aheadByWords(s, a, b) && !aheadByWords(s, b, a)
			if got := strings.HasPrefix(string(a.b), string(b.b)); got != alike {
				t.Fatalf("%x begins with %x: %v", a.b, b.b, got)
			}
		}
	}
}

// Two rows of unlike Primary have unlike keys in each index, though all that the index names is alike.
func TestKeysOfRowsThatAnIndexDoesNotTell(t *testing.T) {
	d := fourCols()
	a := []impl.Val{whole(1), nothing(), textVal("x"), flag(1)}
	for at, v := range map[int]impl.Val{0: whole(2), 2: textVal("y")} {
		b := slices.Clone(a)
		b[at] = v
		for i := range d.Indexes {
			first, second := impl.KeyOf(tables(d), 0, i, a), impl.KeyOf(tables(d), 0, i, b)
			// The id stands the lower first, the text the greatest first.
			if impl.Before(first, second) != (at == 0) || impl.Before(second, first) != (at == 2) {
				t.Errorf("the index %d: %x, %x", i, first, second)
			}
		}
	}
}

func TestKeysComeBackByTheirPlans(t *testing.T) {
	for _, s := range goodLists() {
		for _, k := range keysOfTables(t, s) {
			l := impl.PrimaryPlan(s[k.t])
			if k.i >= 0 {
				l = impl.IndexPlan(s[k.t], k.i)
			}
			if head := impl.HeadOf(s, k.t, k.i); string(k.b[:2]) != string(head) {
				t.Errorf("%x does not begin with %x", k.b, head)
			}
			if vals, ok := impl.DecodeKey(l, k.b[2:]); !ok || !slices.Equal(vals, picked(l, k.row)) {
				t.Errorf("%x: %#v, %v", k.b, vals, ok)
			}
		}
	}
}

// longCase is a table and a row of it, made for a count of bytes.
type longCase struct {
	what  string
	d     impl.Def
	row   []impl.Val
	sizes []int // of the keys, Primary's first, and of the row
}

// threeTexts has an id, a text that may be nothing, and a text.
func threeTexts(primary []impl.By, indexes ...impl.Index) impl.Def {
	return impl.Def{
		Name:    "t",
		Cols:    []impl.Col{{Name: "id", Type: impl.TInt}, {Name: "a", Type: impl.TText, Null: true}, {Name: "b", Type: impl.TText}, {Name: "c", Type: impl.TText}},
		Primary: primary,
		Indexes: indexes,
	}
}

// letters is a row of threeTexts, of texts of so many bytes.
func letters(a int, b int, c int) []impl.Val {
	return []impl.Val{whole(5), textVal(strings.Repeat("a", a)), textVal(strings.Repeat("b", b)), textVal(strings.Repeat("c", c))}
}

// Each limit met exactly, and passed by one, by one of the keys alone, or by the row alone.
func longCases() []longCase {
	primary := threeTexts(by(down(2), up(3)))
	first := threeTexts(by(up(0)), index("x", up(1), down(2)), index("y", up(0)))
	second := threeTexts(by(down(0)), index("x", up(3)), unique("y", down(2), up(1)))
	behind := threeTexts(by(up(2), up(3)), index("x", up(0)))
	without := letters(0, 20, 16)
	without[1] = nothing()
	return []longCase{
		{"Primary, met", primary, letters(0, 21, 21), []int{48, 56}},
		{"Primary, passed", primary, letters(0, 21, 22), []int{49, 57}},
		{"Primary, met by one text as long as may be", primary, letters(0, 30, 12), []int{48, 56}},
		{"Primary, passed by one text as long as may be", primary, letters(0, 30, 13), []int{49, 57}},
		{"the first index, met", first, letters(20, 17, 0), []int{6, 48, 10, 51}},
		{"the first index, passed", first, letters(20, 18, 0), []int{6, 49, 10, 52}},
		{"the second index, met", second, letters(20, 17, 0), []int{6, 8, 48, 51}},
		{"the second index, passed", second, letters(21, 17, 0), []int{6, 8, 49, 52}},
		{"Primary behind an index, met", behind, letters(0, 20, 18), []int{44, 48, 52}},
		{"Primary behind an index, passed", behind, letters(0, 20, 19), []int{45, 49, 53}},
		{"the row, met", first, letters(0, 16, 30), []int{6, 27, 10, 60}},
		{"the row, passed", first, letters(0, 17, 30), []int{6, 28, 10, 61}},
		{"nothing in an index, met", threeTexts(by(up(2), up(3)), unique("x", down(1))), append(without[:3:3], textVal(strings.Repeat("c", 21))), []int{47, 48, 54}},
		{"nothing in an index, passed", threeTexts(by(up(2), up(3)), unique("x", down(1))), append(without[:3:3], textVal(strings.Repeat("c", 22))), []int{48, 49, 55}},
		{"noughts in Primary, met", threeTexts(by(up(2))), []impl.Val{whole(5), nothing(), textVal(strings.Repeat("\x00", 22)), textVal("")}, []int{48, 35}},
		{"noughts in Primary, one letter more", threeTexts(by(up(2))), []impl.Val{whole(5), nothing(), textVal(strings.Repeat("\x00", 22) + "z"), textVal("")}, []int{49, 36}},
	}
}

func TestLongKeys(t *testing.T) {
	for _, c := range longCases() {
		last := len(c.sizes) - 1
		want := c.sizes[last] > 60
		for at, s := range [][]impl.Def{tables(c.d), tables(renamed(oneCol(), "u"), c.d), tables(renamed(c.d, "u"), renamed(oneCol(), "v"), c.d)} {
			for i, size := range c.sizes[:last] {
				if got := len(impl.KeyOf(s, at, i-1, c.row)); got != size {
					t.Errorf("%s: the key %d has %d bytes, not %d", c.what, i-1, got, size)
				}
				want = want || size > 48
			}
			if got := len(impl.EncodeRow(impl.RowPlan(c.d), c.row)); got != c.sizes[last] {
				t.Errorf("%s: the row has %d bytes, not %d", c.what, got, c.sizes[last])
			}
			if got := impl.LongKey(s, at, c.row); got != want {
				t.Errorf("%s: LongKey = %v", c.what, got)
			}
			keysAre(t, c.what, s, c.row)
		}
		if got := strings.Contains(c.what, "passed") || strings.Contains(c.what, "more"); got != want {
			t.Errorf("%s: told as %v", c.what, want)
		}
	}
}

// A long key is made whole: it is told, not cut.
func TestLongKeysAreWhole(t *testing.T) {
	d := threeTexts(by(down(2), up(3)), index("x", up(1), down(2)))
	row := letters(30, 30, 30)
	s := tables(d)
	keysAre(t, "long", s, row)
	if a, b := len(impl.KeyOf(s, 0, -1, row)), len(impl.KeyOf(s, 0, 0, row)); a != 2+32+32 || b != 2+33+32+32+32 {
		t.Errorf("%d and %d bytes", a, b)
	}
	noughts := textVal(strings.Repeat("\x00", 30))
	row = []impl.Val{whole(5), noughts, noughts, noughts}
	keysAre(t, "long, of noughts", s, row)
	if a, b := len(impl.KeyOf(s, 0, -1, row)), len(impl.KeyOf(s, 0, 0, row)); a != 2+62+62 || b != 2+63+62+62+62 {
		t.Errorf("%d and %d bytes", a, b)
	}
}

// Where the list is not right there are no keys, of which none is long; the row has its bytes by its own table still.
func TestLongRowsOfListsThatAreNotRight(t *testing.T) {
	d := threeTexts(by(down(2), up(3)))
	wrong := [][]impl.Def{tables(d, d), tables(d, impl.Def{}), tables(d, renamed(d, "u"), renamed(d, "v"), renamed(d, "w"))}
	for _, s := range wrong {
		if impl.LongKey(s, 0, letters(0, 30, 14)) {
			t.Error("a key of no list is long")
		}
		if !impl.LongKey(s, 0, letters(0, 30, 17)) {
			t.Error("a row of 61 bytes is not long")
		}
		if impl.LongKey(s, 0, letters(0, 30, 16)) {
			t.Error("a row of 60 bytes is long")
		}
		keysAre(t, "a list that is not right", s, letters(30, 30, 30))
	}
	bad := copied(d)
	bad.Primary = nil
	for _, s := range [][]impl.Def{tables(bad), tables(oneCol(), bad)} {
		if impl.LongKey(s, len(s)-1, letters(30, 30, 30)) {
			t.Error("a row of a table that is not right is long")
		}
	}
}

// What is refused leaves nothing behind for the next call.
func TestPlansKeepNothing(t *testing.T) {
	s, row := tables(fourCols()), rowOf(fourCols(), 1)
	for _, w := range wrongWays() {
		bad := fourCols()
		w.do(&bad)
		impl.PrimaryPlan(bad)
		impl.KeyOf(tables(bad), 0, 0, row)
		impl.KeyOf(s, 0, 1, row[:3])
		impl.LongKey(tables(bad), 0, row)
		keysAre(t, "behind "+w.what, s, row)
		plansAre(t, "behind "+w.what, fourCols())
	}
}

func overwriteParts(l []impl.Part) {
	l = l[:cap(l)]
	for i := range l {
		l[i] = impl.Part{Col: 77, Type: 77, Null: true, Desc: true}
	}
}

// planMakers has each way to a plan of a table that has two indexes.
func planMakers() []func(d impl.Def) []impl.Part {
	return []func(d impl.Def) []impl.Part{
		impl.PrimaryPlan,
		impl.RowPlan,
		func(d impl.Def) []impl.Part { return impl.IndexPlan(d, 0) },
		func(d impl.Def) []impl.Part { return impl.IndexPlan(d, 1) },
		func(d impl.Def) []impl.Part { return impl.IndexPlan(d, 2) },
	}
}

func TestPlansAreNewMemory(t *testing.T) {
	for _, d := range tables(fourCols(), allKinds(), fullTable(), manyCols(7, 3), impl.Def{}) {
		for i, plan := range planMakers() {
			second := plan(d)
			wanted := slices.Clone(second)
			first := plan(d)
			overwriteParts(first)
			_ = append(first, impl.Part{Col: 78})
			if !slices.Equal(second, wanted) || !slices.Equal(plan(d), wanted) {
				t.Errorf("the plan %d of %+v turned into %+v", i, d, second)
			}
		}
	}
}

func TestKeyOfAndHeadOfAreNewMemory(t *testing.T) {
	s := tables(fourCols(), allKinds())
	for at, d := range s {
		row := rowOf(d, 1)
		for i := -2; i <= len(d.Indexes); i++ {
			for _, made := range []func() []byte{func() []byte { return impl.KeyOf(s, at, i, row) }, func() []byte { return impl.HeadOf(s, at, i) }} {
				first, second := made(), made()
				want := string(second)
				overwrite(first)
				_ = append(first, 0x5a)
				if string(second) != want || string(made()) != want {
					t.Errorf("%d, %d: the bytes turned into %x", at, i, second)
				}
			}
		}
	}
}

// asksAll asks all there is of a table that has spare room, holds it against the words of one that has none, and fills what is answered.
func asksAll(t *testing.T, s []impl.Def, l []impl.Def, at int, vals []impl.Val) {
	t.Helper()
	row := roomyVals(vals)
	for i := -2; i <= len(l[at].Indexes)+1; i++ {
		key, head := impl.KeyOf(s, at, i, row), impl.HeadOf(s, at, i)
		if string(key) != wordsKey(l, at, i, vals) || string(head) != wordsHead(l, at, i) {
			t.Errorf("the spare room behind %+v, %#v is read: %x, %x", l, vals, key, head)
		}
		overwrite(key)
		overwrite(head)
		overwriteParts(impl.IndexPlan(s[at], i))
	}
	if impl.LongKey(s, at, row) != wordsLong(l, at, vals) {
		t.Errorf("LongKey reads the spare room behind %+v, %#v", l, vals)
	}
	plansAre(t, "with spare room", s[at])
	overwriteParts(impl.PrimaryPlan(s[at]))
	overwriteParts(impl.RowPlan(s[at]))
	wholeVals(t, "a row", row, vals)
}

// The spare room behind each list is neither read nor written, and neither are the tables and the row.
func TestPlansWriteIntoNoArgument(t *testing.T) {
	for _, l := range append(goodLists(), tables(impl.Def{}), tables(oneCol(), oneCol()), tables(manyCols(7, 3)), tables(fourCols(), manyCols(6, 3))) {
		var roomy, ahead []impl.Def
		for _, d := range append(slices.Clone(l), oneCol(), impl.Def{}) {
			roomy = append(roomy, roomyDef(d))
		}
		for _, d := range roomy {
			ahead = append(ahead, allRoom(d))
		}
		for at, d := range l {
			fine := []impl.Val{whole(1)}
			if firstOf(d) == impl.ChGood {
				fine = rowOf(d, 1)
			}
			for _, vals := range [][]impl.Val{fine, fine[:len(fine)-1], nil, append(slices.Clone(fine), whole(1))} {
				asksAll(t, roomy[:len(l)], l, at, vals)
			}
		}
		for i, d := range roomy {
			if !sameAll(ahead[i], allRoom(d)) {
				t.Errorf("the table %+v turned into %+v", ahead[i], allRoom(d))
			}
		}
	}
}
