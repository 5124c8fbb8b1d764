package tests

import (
	"fmt"
	"math"
	"math/rand"
	"slices"
	"strings"
	"testing"

	"loop.example/g00322/impl"
)

var (
	_ func([]impl.Def) impl.Mdb                                                = impl.MdbNew
	_ func([]impl.Def, impl.Mdb) bool                                          = impl.MdbOk
	_ func(s []impl.Def, m impl.Mdb, t int, key []impl.Val) ([]impl.Val, bool) = impl.RowAt
	_ func(s []impl.Def, m impl.Mdb, o impl.Op) (impl.Mdb, int)                = impl.ApplyOp
	_ func(s []impl.Def, m impl.Mdb, l []impl.Op) (impl.Mdb, int, int)         = impl.ApplyBatch
)

// The places of the tables in shop.
const (
	goodsTab = 0
	pairsTab = 1
	leastTab = 2
)

// shop has rows by a number, the greatest first, with an index that is Unique and one that is not; rows by two texts, with two indexes that are Unique, of two columns each; and the least table.
func shop() []impl.Def {
	s, ok := impl.ParseDefs("table goods { id int; a text null; b int null; primary id desc; unique u a; index v b; }" +
		"table pairs { a text; b text; c num null; d bool null; primary a, b desc; unique u c desc, d; unique w b, d desc; }" +
		"table least { n int; primary n; }")
	if !ok || len(s) != 3 {
		panic("there are no tables")
	}
	return s
}

// good is a row of the first table of shop; without a text its a is nothing.
func good(id int, a string, b int) []impl.Val {
	v := textVal(a)
	if a == "" {
		v = nothing()
	}
	return vals(whole(id), v, whole(b))
}

// pair is a row of the second one.
func pair(a string, b string, c impl.Val, d impl.Val) []impl.Val {
	return []impl.Val{textVal(a), textVal(b), c, d}
}

func vals(l ...impl.Val) []impl.Val { return l }

func tab(rows ...[]impl.Val) impl.MTab { return impl.MTab{Rows: rows} }

func mdb(tabs ...impl.MTab) impl.Mdb { return impl.Mdb{Tabs: tabs} }

func op(kind int, t int, row ...impl.Val) impl.Op { return impl.Op{Kind: kind, T: t, Row: row} }

// stock is right by shop. Nothing stands in an index that is Unique once, alone and beside what is nothing too.
func stock() impl.Mdb {
	return mdb(
		tab(good(30, "x", 7), good(20, "", 7), good(10, "y", 7)),
		tab(pair("a", "z", number(1), flag(0)), pair("a", "b", number(1), flag(1)), pair("b", "b", nothing(), nothing())),
		tab(vals(whole(1)), vals(whole(5))),
	)
}

func mdbCopy(m impl.Mdb) impl.Mdb {
	out := impl.Mdb{}
	for _, x := range m.Tabs {
		next := impl.MTab{}
		for _, row := range x.Rows {
			next.Rows = append(next.Rows, slices.Clone(row))
		}
		out.Tabs = append(out.Tabs, next)
	}
	return out
}

func rowText(row []impl.Val) string {
	out := ""
	for _, v := range row {
		out += fmt.Sprintf("%d:%d:%q ", v.K, v.N, v.S)
	}
	return "(" + out + ")"
}

func mdbText(m impl.Mdb) string {
	out := ""
	for _, x := range m.Tabs {
		out += "["
		for _, row := range x.Rows {
			out += rowText(row)
		}
		out += "]"
	}
	return out
}

func sameMdb(a impl.Mdb, b impl.Mdb) bool { return mdbText(a) == mdbText(b) }

// uniques has the parts of each index that is Unique by the words.
func uniques(d impl.Def) [][]impl.Part {
	var out [][]impl.Part
	for _, x := range d.Indexes {
		var l []impl.Part
		for _, p := range x.Parts {
			l = append(l, asPart(d, p))
		}
		if x.Unique {
			out = append(out, l)
		}
	}
	return out
}

// wordsTaken tells whether one of two rows that fit has what the other has, by an index that is Unique.
func wordsTaken(d impl.Def, a []impl.Val, b []impl.Val) bool {
	for _, l := range uniques(d) {
		if slices.Equal(picked(l, a), picked(l, b)) {
			return true
		}
	}
	return false
}

// wordsAhead tells whether a row that fits stands ahead of another.
func wordsAhead(d impl.Def, a []impl.Val, b []impl.Val) bool {
	l := wordsPrimary(d)
	return lessByPlan(l, picked(l, a), picked(l, b))
}

// wordsRows holds each row against each one ahead of it.
func wordsRows(s []impl.Def, t int, rows [][]impl.Val) bool {
	for i, row := range rows {
		if !impl.RowOk(wordsRow(s[t]), row) || wordsLong(s, t, row) {
			return false
		}
		for _, ahead := range rows[:i] {
			if !wordsAhead(s[t], ahead, row) || wordsTaken(s[t], ahead, row) {
				return false
			}
		}
	}
	return true
}

func wordsMdbOk(s []impl.Def, m impl.Mdb) bool {
	if firstWrong(s) != -1 || len(m.Tabs) != len(s) {
		return false
	}
	for t, x := range m.Tabs {
		if !wordsRows(s, t, x.Rows) {
			return false
		}
	}
	return true
}

// wordsRowAt takes rows that have too few columns, too: what they lack is nothing.
func wordsRowAt(s []impl.Def, m impl.Mdb, t int, key []impl.Val) ([]impl.Val, bool) {
	if firstWrong(s) != -1 || t < 0 || t >= len(s) || t >= len(m.Tabs) {
		return nil, false
	}
	for _, row := range m.Tabs[t].Rows {
		wide := append(slices.Clone(row), make([]impl.Val, 10)...)
		if slices.Equal(picked(wordsPrimary(s[t]), wide), key) {
			return row, true
		}
	}
	return nil, false
}

// wordsCode has the first code that holds.
func wordsCode(s []impl.Def, m impl.Mdb, o impl.Op) int {
	if !wordsMdbOk(s, m) || o.Kind < 1 || o.Kind > 4 {
		return impl.CoForm
	}
	if o.T < 0 || o.T >= len(s) {
		return impl.CoNone
	}
	d := s[o.T]
	if o.Kind == 4 {
		if !impl.RowOk(wordsPrimary(d), o.Row) {
			return impl.CoType
		}
		if _, there := wordsRowAt(s, m, o.T, o.Row); !there {
			return impl.CoMissing
		}
		return impl.CoGood
	}
	if !impl.RowOk(wordsRow(d), o.Row) {
		return impl.CoType
	}
	if wordsLong(s, o.T, o.Row) {
		return impl.CoLarge
	}
	key := picked(wordsPrimary(d), o.Row)
	_, there := wordsRowAt(s, m, o.T, key)
	if o.Kind == 1 && there {
		return impl.CoDup
	}
	if o.Kind == 3 && !there {
		return impl.CoMissing
	}
	for _, other := range m.Tabs[o.T].Rows {
		if !slices.Equal(picked(wordsPrimary(d), other), key) && wordsTaken(d, other, o.Row) {
			return impl.CoUnique
		}
	}
	return impl.CoGood
}

func wordsApply(s []impl.Def, m impl.Mdb, o impl.Op) (impl.Mdb, int) {
	next := mdbCopy(m)
	if code := wordsCode(s, m, o); code != impl.CoGood {
		return next, code
	}
	d := s[o.T]
	key := o.Row
	if o.Kind != 4 {
		key = picked(wordsPrimary(d), o.Row)
	}
	rows := slices.DeleteFunc(next.Tabs[o.T].Rows, func(row []impl.Val) bool { return slices.Equal(picked(wordsPrimary(d), row), key) })
	if o.Kind != 4 {
		place := 0
		for place < len(rows) && wordsAhead(d, rows[place], o.Row) {
			place++
		}
		rows = slices.Insert(rows, place, slices.Clone(o.Row))
	}
	next.Tabs[o.T].Rows = rows
	return next, impl.CoGood
}

func wordsBatch(s []impl.Def, m impl.Mdb, l []impl.Op) (impl.Mdb, int, int) {
	if len(l) > 10 {
		return m, impl.CoForm, 0
	}
	next := mdbCopy(m)
	for i, o := range l {
		x, code := wordsApply(s, next, o)
		if code != impl.CoGood {
			return m, code, i
		}
		next = x
	}
	return next, impl.CoGood, len(l)
}

// mdbIs holds MdbOk against the words, and against what is told.
func mdbIs(t *testing.T, what string, s []impl.Def, m impl.Mdb, want bool) {
	t.Helper()
	if wordsMdbOk(s, m) != want {
		t.Errorf("%s: by the words it is %v: %s", what, !want, mdbText(m))
	}
	if got := impl.MdbOk(s, m); got != want {
		t.Errorf("%s: MdbOk(%s) = %v", what, mdbText(m), got)
	}
}

// rowAt holds RowAt against the words.
func rowAt(t *testing.T, what string, s []impl.Def, m impl.Mdb, at int, key []impl.Val) ([]impl.Val, bool) {
	t.Helper()
	want, wantOk := wordsRowAt(s, m, at, key)
	got, ok := impl.RowAt(s, m, at, key)
	if ok != wantOk || !slices.Equal(got, want) {
		t.Errorf("%s: RowAt(%s, %d, %s) = %s, %v, not %s, %v", what, mdbText(m), at, rowText(key), rowText(got), ok, rowText(want), wantOk)
	}
	return got, ok
}

// applyAs holds ApplyOp against the words; what comes of what is right is right.
func applyAs(t *testing.T, what string, s []impl.Def, m impl.Mdb, o impl.Op) (impl.Mdb, int) {
	t.Helper()
	want, wantCode := wordsApply(s, m, o)
	ahead, isRight := mdbText(m), impl.MdbOk(s, m)
	got, code := impl.ApplyOp(s, m, o)
	if code != wantCode || !sameMdb(got, want) {
		t.Errorf("%s: ApplyOp(%s, %d %d %s) = %s, %d, not %s, %d", what, ahead, o.Kind, o.T, rowText(o.Row), mdbText(got), code, mdbText(want), wantCode)
	}
	if mdbText(m) != ahead {
		t.Errorf("%s: %s turned into %s", what, ahead, mdbText(m))
	}
	if impl.MdbOk(s, got) != isRight {
		t.Errorf("%s: what was right: %v, turned into %s", what, isRight, mdbText(got))
	}
	if code != impl.CoGood && !sameMdb(got, m) {
		t.Errorf("%s: what is refused turned %s into %s", what, ahead, mdbText(got))
	}
	return got, code
}

// applies asks for what comes of it, written out.
func applies(t *testing.T, what string, m impl.Mdb, o impl.Op, want impl.Mdb) {
	t.Helper()
	got, code := applyAs(t, what, shop(), m, o)
	if code != impl.CoGood || !sameMdb(got, want) {
		t.Errorf("%s: %s, %d, not %s", what, mdbText(got), code, mdbText(want))
	}
}

// appliesNot asks for this code, and that nothing turned.
func appliesNot(t *testing.T, what string, m impl.Mdb, o impl.Op, want int) {
	t.Helper()
	got, code := applyAs(t, what, shop(), m, o)
	if code != want || !sameMdb(got, m) {
		t.Errorf("%s: %d %d %s: %d, not %d, of %s came %s", what, o.Kind, o.T, rowText(o.Row), code, want, mdbText(m), mdbText(got))
	}
}

func batchAs(t *testing.T, what string, s []impl.Def, m impl.Mdb, l []impl.Op) (impl.Mdb, int, int) {
	t.Helper()
	want, wantCode, wantCount := wordsBatch(s, m, l)
	ahead := mdbText(m)
	got, code, count := impl.ApplyBatch(s, m, l)
	if code != wantCode || count != wantCount || !sameMdb(got, want) {
		t.Errorf("%s: ApplyBatch(%s, %v) = %s, %d, %d, not %s, %d, %d", what, ahead, l, mdbText(got), code, count, mdbText(want), wantCode, wantCount)
	}
	if mdbText(m) != ahead || code != impl.CoGood && !sameMdb(got, m) {
		t.Errorf("%s: of %s came %s, %s", what, ahead, mdbText(m), mdbText(got))
	}
	return got, code, count
}

func TestNumbersOfOps(t *testing.T) {
	if impl.OpInsert != 1 || impl.OpUpsert != 2 || impl.OpUpdate != 3 || impl.OpDelete != 4 {
		t.Error("kinds", impl.OpInsert, impl.OpUpsert, impl.OpUpdate, impl.OpDelete)
	}
}

// wrongSchemas has lists of tables that are not right, with what is wrong of them.
func wrongSchemas() map[string][]impl.Def {
	one := oneCol()
	out := map[string][]impl.Def{
		"a table of nothing":           {{}},
		"a table of nothing, behind":   {one, {}},
		"a table of nothing, ahead":    {{}, one},
		"two of one name":              {one, one},
		"the third of the first name":  {one, renamed(one, "u"), one},
		"four tables":                  {renamed(one, "a"), renamed(one, "b"), renamed(one, "c"), renamed(one, "d")},
		"four tables, the last is bad": {renamed(one, "a"), renamed(one, "b"), renamed(one, "c"), {}},
	}
	for _, w := range wrongWays() {
		bad := fourCols()
		w.do(&bad)
		out[w.what] = tables(bad)
		out[w.what+", behind"] = tables(one, bad)
	}
	return out
}

func TestNewTables(t *testing.T) {
	for _, s := range append(goodLists(), shop()) {
		m := impl.MdbNew(s)
		if len(m.Tabs) != len(s) {
			t.Fatalf("%d tables of %d", len(m.Tabs), len(s))
		}
		for i, x := range m.Tabs {
			if len(x.Rows) != 0 {
				t.Errorf("the table %d has rows: %s", i, mdbText(m))
			}
		}
		mdbIs(t, "new", s, m, true)
	}
	for what, s := range wrongSchemas() {
		if m := impl.MdbNew(s); len(m.Tabs) != 0 {
			t.Errorf("%s: %d tables", what, len(m.Tabs))
		}
	}
}

// No table at all is a right list, of which nothing but no table is right.
func TestNoTablesAtAll(t *testing.T) {
	for _, s := range [][]impl.Def{nil, {}} {
		for _, m := range []impl.Mdb{{}, {Tabs: []impl.MTab{}}, impl.MdbNew(s)} {
			mdbIs(t, "no table", s, m, true)
			rowAt(t, "no table", s, m, 0, vals(whole(1)))
			for kind := -1; kind < 6; kind++ {
				_, code := applyAs(t, "no table", s, m, op(kind, 0, whole(1)))
				want := impl.CoNone
				if kind < 1 || kind > 4 {
					want = impl.CoForm
				}
				if code != want {
					t.Errorf("no table: %d of the kind %d", code, kind)
				}
			}
			if got, code, count := batchAs(t, "no table", s, m, nil); code != impl.CoGood || count != 0 || len(got.Tabs) != 0 {
				t.Error("no table: a batch of nothing", code, count)
			}
			if _, code, count := batchAs(t, "no table", s, m, []impl.Op{op(1, 0, whole(1))}); code != impl.CoNone || count != 0 {
				t.Error("no table: a batch", code, count)
			}
		}
		mdbIs(t, "a table of no list", s, mdb(tab()), false)
	}
}

// Where the list of tables is not right, nothing is, also of the tables of it that are.
func TestTablesOfListsThatAreNotRight(t *testing.T) {
	for what, s := range wrongSchemas() {
		full := impl.Mdb{Tabs: make([]impl.MTab, len(s))}
		full.Tabs[0] = tab(vals(whole(1)))
		full.Tabs[len(s)-1] = tab(vals(whole(1)))
		for _, m := range []impl.Mdb{{}, {Tabs: make([]impl.MTab, len(s))}, {Tabs: make([]impl.MTab, firstWrong(s))}, full} {
			mdbIs(t, what, s, m, false)
			for at := range s {
				if row, ok := rowAt(t, what, s, m, at, vals(whole(1))); ok || len(row) != 0 {
					t.Errorf("%s: a row: %s", what, rowText(row))
				}
				for kind := range 6 {
					if _, code := applyAs(t, what, s, m, op(kind, at, whole(1))); code != impl.CoForm {
						t.Errorf("%s: %d", what, code)
					}
				}
			}
			if _, code, place := batchAs(t, what, s, m, []impl.Op{op(1, 0, whole(2)), op(1, 0, whole(3))}); code != impl.CoForm || place != 0 {
				t.Errorf("%s: a batch: %d, %d", what, code, place)
			}
		}
	}
}

func TestMdbsThatAreRight(t *testing.T) {
	s := shop()
	long, noughts := strings.Repeat("l", 30), strings.Repeat("\x00", 19)
	for what, m := range map[string]impl.Mdb{
		"rows in each table":               stock(),
		"no rows":                          mdb(tab(), tab(), tab()),
		"no rows, nil and empty":           mdb(impl.MTab{}, impl.MTab{Rows: [][]impl.Val{}}, impl.MTab{}),
		"rows in the first alone":          mdb(tab(good(2, "x", 1), good(1, "y", 1)), tab(), tab()),
		"rows in the last alone":           mdb(tab(), tab(), tab(vals(whole(-1)), vals(whole(0)), vals(whole(1)))),
		"one row":                          mdb(tab(good(1, "", 1)), tab(), tab()),
		"the index that is not Unique":     mdb(tab(good(3, "x", 7), good(2, "y", 7), good(1, "z", 7)), tab(), tab()),
		"nothing there, not Unique":        mdb(tab(vals(whole(3), textVal("x"), nothing()), vals(whole(2), textVal("y"), nothing())), tab(), tab()),
		"nothing and the empty text":       mdb(tab(vals(whole(3), textVal(""), whole(1)), vals(whole(2), nothing(), whole(1))), tab(), tab()),
		"both ends of the numbers":         mdb(tab(good(2147483647, "x", 1), good(-2147483648, "y", 1)), tab(), tab(vals(whole(-2147483648)), vals(whole(2147483647)))),
		"texts that begin each other":      mdb(tab(), tab(pair("", "\x00", number(1), flag(1)), pair("", "", number(2), flag(1)), pair("a", "", number(3), nothing())), tab()),
		"one column alike, the other not":  mdb(tab(), tab(pair("a", "c", number(1), flag(0)), pair("a", "b", number(1), flag(1)), pair("b", "c", number(2), flag(1))), tab()),
		"nothing and not nothing together": mdb(tab(), tab(pair("a", "d", nothing(), nothing()), pair("a", "c", number(1), nothing()), pair("a", "b", nothing(), flag(0)), pair("b", "a", number(0), nothing())), tab()),
		"a row as long as may be":          mdb(tab(good(2, long, 1), good(1, noughts+"z", 1)), tab(), tab()),
	} {
		mdbIs(t, what, s, m, true)
	}
}

// mdbTurn makes what is right another one.
type mdbTurn struct {
	what string
	turn func(m *impl.Mdb)
}

// rowsAre puts these rows in the place of those of a table.
func rowsAre(t int, rows ...[]impl.Val) func(m *impl.Mdb) {
	return func(m *impl.Mdb) { m.Tabs[t].Rows = rows }
}

// rowIs puts one row in the place of another.
func rowIs(t int, at int, row []impl.Val) func(m *impl.Mdb) {
	return func(m *impl.Mdb) { m.Tabs[t].Rows[at] = row }
}

func wrongTabs() []mdbTurn {
	return []mdbTurn{
		{"no tables", func(m *impl.Mdb) { m.Tabs = nil }},
		{"no tables, empty", func(m *impl.Mdb) { m.Tabs = []impl.MTab{} }},
		{"one table", func(m *impl.Mdb) { m.Tabs = m.Tabs[:1] }},
		{"one table too few", func(m *impl.Mdb) { m.Tabs = m.Tabs[:2] }},
		{"one table too many", func(m *impl.Mdb) { m.Tabs = append(m.Tabs, impl.MTab{}) }},
		{"one table too many, with a row", func(m *impl.Mdb) { m.Tabs = append(m.Tabs, tab(vals(whole(1)))) }},
		{"the rows of other tables", func(m *impl.Mdb) { m.Tabs[0], m.Tabs[2] = m.Tabs[2], m.Tabs[0] }},
	}
}

func wrongOrders() []mdbTurn {
	return []mdbTurn{
		{"the first two exchanged", func(m *impl.Mdb) { x := m.Tabs[0].Rows; x[0], x[1] = x[1], x[0] }},
		{"the last two exchanged", func(m *impl.Mdb) { x := m.Tabs[0].Rows; x[1], x[2] = x[2], x[1] }},
		{"the first and the last exchanged", func(m *impl.Mdb) { x := m.Tabs[0].Rows; x[0], x[2] = x[2], x[0] }},
		{"by the second part alone out of order", func(m *impl.Mdb) { x := m.Tabs[1].Rows; x[0], x[1] = x[1], x[0] }},
		{"by the first part out of order", func(m *impl.Mdb) { x := m.Tabs[1].Rows; x[1], x[2] = x[2], x[1] }},
		{"out of order in the last table", func(m *impl.Mdb) { x := m.Tabs[2].Rows; x[0], x[1] = x[1], x[0] }},
		{"a text behind the one that it begins, the least first", rowsAre(pairsTab, pair("aa", "z", number(1), flag(0)), pair("a", "z", number(1), flag(1)))},
		{"a row twice", rowsAre(leastTab, vals(whole(1)), vals(whole(5)), vals(whole(5)))},
		{"a row twice, first", rowsAre(leastTab, vals(whole(1)), vals(whole(1)), vals(whole(5)))},
		{"a row twice, apart", rowsAre(leastTab, vals(whole(1)), vals(whole(5)), vals(whole(1)))},
		{"a key twice", rowsAre(goodsTab, good(20, "x", 1), good(20, "y", 2))},
		{"a key twice, apart", rowsAre(goodsTab, good(20, "x", 1), good(10, "z", 2), good(20, "y", 2))},
		{"a key of two parts twice", rowsAre(pairsTab, pair("a", "b", number(1), flag(0)), pair("a", "b", number(2), flag(1)))},
	}
}

func wrongRows() []mdbTurn {
	long, noughts := strings.Repeat("l", 30), strings.Repeat("\x00", 20)
	return []mdbTurn{
		{"no row, nil", rowIs(leastTab, 0, nil)},
		{"no row, empty", rowIs(leastTab, 1, []impl.Val{})},
		{"a value too few", rowIs(goodsTab, 0, vals(whole(30), textVal("x")))},
		{"a value too many", rowIs(goodsTab, 1, append(good(20, "", 7), nothing()))},
		{"another type", rowIs(goodsTab, 2, vals(whole(10), textVal("y"), number(7)))},
		{"another type in the key", rowIs(leastTab, 0, vals(number(1)))},
		{"nothing where it may not be", rowIs(leastTab, 0, vals(nothing()))},
		{"nothing in a key of two parts", rowIs(pairsTab, 2, vals(textVal("b"), nothing(), number(1), nothing()))},
		{"a value that is none", rowIs(goodsTab, 1, vals(whole(20), impl.Val{N: 1}, whole(7)))},
		{"a number too great", rowIs(leastTab, 1, vals(whole(2147483648)))},
		{"a text too long", rowIs(goodsTab, 0, good(30, strings.Repeat("x", 31), 7))},
		{"a flag that is none", rowIs(pairsTab, 0, pair("a", "z", number(1), flag(2)))},
		{"a key of an index too long", rowIs(goodsTab, 1, good(20, noughts, 7))},
		{"a key too long", rowsAre(pairsTab, pair(long, long, number(1), flag(0)))},
		{"a key too long, last", rowsAre(pairsTab, pair("a", "z", number(2), flag(0)), pair(long, long, number(1), flag(0)))},
	}
}

func wrongUniques() []mdbTurn {
	return []mdbTurn{
		{"a text twice", rowsAre(goodsTab, good(30, "x", 1), good(20, "x", 2))},
		{"a text twice, apart", rowsAre(goodsTab, good(30, "x", 1), good(20, "y", 2), good(10, "x", 3))},
		{"a text twice, the first in order", rowsAre(goodsTab, good(30, "y", 1), good(20, "x", 2), good(10, "x", 3))},
		{"nothing twice", rowsAre(goodsTab, good(30, "", 1), good(20, "", 2))},
		{"nothing twice, apart", rowsAre(goodsTab, good(30, "", 1), good(20, "a", 2), good(10, "", 3))},
		{"the empty text twice", rowsAre(goodsTab, vals(whole(2), textVal(""), whole(1)), vals(whole(1), textVal(""), whole(1)))},
		{"the first index of two parts", rowsAre(pairsTab, pair("a", "c", number(1), flag(0)), pair("a", "b", number(1), flag(0)))},
		{"nothing in both parts", rowsAre(pairsTab, pair("a", "c", nothing(), nothing()), pair("a", "b", nothing(), nothing()))},
		{"nothing in the first part", rowsAre(pairsTab, pair("a", "c", nothing(), flag(1)), pair("a", "b", nothing(), flag(1)))},
		{"nothing in the last part", rowsAre(pairsTab, pair("a", "c", number(1), nothing()), pair("a", "b", number(1), nothing()))},
		{"the second index of two parts", rowsAre(pairsTab, pair("a", "c", number(1), flag(0)), pair("b", "c", number(2), flag(0)))},
		{"nothing in the second index", rowsAre(pairsTab, pair("a", "c", number(1), nothing()), pair("b", "c", number(2), nothing()))},
	}
}

func wrongMdbs() []mdbTurn {
	return slices.Concat(wrongTabs(), wrongOrders(), wrongRows(), wrongUniques())
}

// What is not right is refused whatever is done, ahead of all else, and nothing of it turns.
func TestMdbsThatAreWrong(t *testing.T) {
	s := shop()
	for _, c := range wrongMdbs() {
		m := stock()
		c.turn(&m)
		mdbIs(t, c.what, s, m, false)
		for at := -1; at < 4; at++ {
			for _, key := range [][]impl.Val{nil, vals(whole(20)), vals(whole(1)), vals(textVal("a"), textVal("b")), vals(nothing())} {
				rowAt(t, c.what, s, m, at, key)
			}
		}
		for kind := range 6 {
			for _, o := range []impl.Op{op(kind, goodsTab, good(20, "w", 1)...), op(kind, leastTab, whole(1)), op(kind, -1), op(kind, 3, whole(1)), op(kind, goodsTab)} {
				appliesNot(t, c.what, m, o, impl.CoForm)
			}
		}
		if _, code, place := batchAs(t, c.what, s, m, []impl.Op{op(1, leastTab, whole(9)), op(1, 3)}); code != impl.CoForm || place != 0 {
			t.Errorf("%s: a batch: %d, %d", c.what, code, place)
		}
	}
}

// Of the words alone: where no index is Unique, none tells two rows apart.
func TestIndexesThatAreNotUnique(t *testing.T) {
	s := shop()
	for _, c := range wrongUniques() {
		m := stock()
		c.turn(&m)
		other := slices.Clone(s)
		for at, d := range s {
			other[at] = copied(d)
			for i := range d.Indexes {
				other[at].Indexes[i].Unique = false
			}
		}
		mdbIs(t, c.what, s, m, false)
		mdbIs(t, c.what+", not Unique", other, m, true)
	}
}

// Each table by itself: what another one has does not count.
func TestTablesByThemselves(t *testing.T) {
	d := shop()[goodsTab]
	s := tables(d, renamed(d, "others"))
	m := mdb(tab(good(1, "x", 7)), tab(good(1, "x", 7)))
	mdbIs(t, "alike", s, m, true)
	next, code := applyAs(t, "alike", s, m, op(impl.OpInsert, 1, good(2, "y", 7)...))
	if code != impl.CoGood || len(next.Tabs[0].Rows) != 1 || len(next.Tabs[1].Rows) != 2 {
		t.Errorf("alike: %d, %s", code, mdbText(next))
	}
	if _, code = applyAs(t, "alike", s, next, op(impl.OpInsert, 0, good(2, "y", 7)...)); code != impl.CoGood {
		t.Errorf("alike, in the first: %d", code)
	}
	if _, code = applyAs(t, "alike", s, next, op(impl.OpDelete, 0, whole(2))); code != impl.CoMissing {
		t.Errorf("alike, missing in the first: %d", code)
	}
}

func TestRowAt(t *testing.T) {
	s := shop()
	for _, c := range []struct {
		what string
		t    int
		key  []impl.Val
		want []impl.Val
	}{
		{"the first", goodsTab, vals(whole(30)), good(30, "x", 7)},
		{"one between", goodsTab, vals(whole(20)), good(20, "", 7)},
		{"the last", goodsTab, vals(whole(10)), good(10, "y", 7)},
		{"of two parts", pairsTab, vals(textVal("a"), textVal("b")), pair("a", "b", number(1), flag(1))},
		{"of two parts, the last", pairsTab, vals(textVal("b"), textVal("b")), pair("b", "b", nothing(), nothing())},
		{"a row that is its key", leastTab, vals(whole(5)), vals(whole(5))},
		{"beside the first", goodsTab, vals(whole(31)), nil},
		{"between", goodsTab, vals(whole(15)), nil},
		{"behind the last", goodsTab, vals(whole(9)), nil},
		{"no key", goodsTab, nil, nil},
		{"no key, empty", goodsTab, vals(), nil},
		{"too short", pairsTab, vals(textVal("a")), nil},
		{"too long", goodsTab, vals(whole(30), whole(30)), nil},
		{"too long by nothing", goodsTab, vals(whole(30), nothing()), nil},
		{"the whole row", goodsTab, good(30, "x", 7), nil},
		{"another type", goodsTab, vals(number(30)), nil},
		{"another type, as text", goodsTab, vals(textVal("30")), nil},
		{"a value that is none", goodsTab, vals(impl.Val{K: impl.VInt, N: 30, S: "x"}), nil},
		{"nothing", goodsTab, vals(nothing()), nil},
		{"the parts the other way about", pairsTab, vals(textVal("b"), textVal("a")), nil},
		{"a key of another table", leastTab, vals(textVal("a"), textVal("b")), nil},
		{"a key that another table has", leastTab, vals(whole(30)), nil},
	} {
		row, ok := rowAt(t, c.what, s, stock(), c.t, c.key)
		if ok != (c.want != nil) || !slices.Equal(row, c.want) {
			t.Errorf("%s: %s, %v", c.what, rowText(row), ok)
		}
		if row, ok := rowAt(t, c.what+", of none", s, impl.MdbNew(s), c.t, c.key); ok || len(row) != 0 {
			t.Errorf("%s: of a table without rows: %s", c.what, rowText(row))
		}
		for _, at := range append(noPlace(3), -1) {
			if row, ok := rowAt(t, c.what, s, stock(), at, c.key); ok || len(row) != 0 {
				t.Errorf("%s: the table %d: %s, %v", c.what, at, rowText(row), ok)
			}
		}
	}
}

// RowAt does not ask that the tables are right: of several rows of a key it has the first, and what a row lacks is nothing.
func TestRowAtOfWhatIsNotRight(t *testing.T) {
	s := shop()
	finds := func(what string, m impl.Mdb, at int, key []impl.Val, want []impl.Val) {
		t.Helper()
		mdbIs(t, what, s, m, false)
		if row, ok := rowAt(t, what, s, m, at, key); !ok || !slices.Equal(row, want) {
			t.Errorf("%s: %s, %v", what, rowText(row), ok)
		}
	}
	findsNot := func(what string, m impl.Mdb, at int, key []impl.Val) {
		t.Helper()
		if row, ok := rowAt(t, what, s, m, at, key); ok || len(row) != 0 {
			t.Errorf("%s: %s, %v", what, rowText(row), ok)
		}
	}
	turned := stock()
	slices.Reverse(turned.Tabs[0].Rows)
	for _, id := range []int{10, 20, 30} {
		row, _ := impl.RowAt(s, stock(), goodsTab, vals(whole(id)))
		finds("the other way about", turned, goodsTab, vals(whole(id)), row)
	}
	twice := mdb(tab(good(2, "x", 1), good(1, "a", 1), good(2, "y", 2), good(1, "b", 3)), tab(), tab())
	finds("the first of two", twice, goodsTab, vals(whole(2)), good(2, "x", 1))
	finds("the first of two, behind", twice, goodsTab, vals(whole(1)), good(1, "a", 1))
	few := stock()
	few.Tabs = few.Tabs[:1]
	finds("one table alone", few, goodsTab, vals(whole(20)), good(20, "", 7))
	findsNot("one table alone, the second", few, pairsTab, vals(textVal("a"), textVal("b")))
	findsNot("one table alone, the third", few, leastTab, vals(whole(1)))
	many := stock()
	many.Tabs = append(many.Tabs, tab(vals(whole(1))))
	finds("four tables", many, leastTab, vals(whole(5)), vals(whole(5)))
	findsNot("four tables, the fourth", many, 3, vals(whole(1)))
	short := mdb(tab(vals()), tab(vals(textVal("a"))), tab(nil, vals(number(3)), vals(whole(4), whole(4))))
	finds("a row of nothing", short, goodsTab, vals(nothing()), nil)
	finds("a row of the first part alone", short, pairsTab, vals(textVal("a"), nothing()), vals(textVal("a")))
	findsNot("a row of the first part alone, too short", short, pairsTab, vals(textVal("a")))
	finds("no row", short, leastTab, vals(nothing()), nil)
	finds("another type", short, leastTab, vals(number(3)), vals(number(3)))
	finds("a row that is too long", short, leastTab, vals(whole(4)), vals(whole(4), whole(4)))
}

// fits has of each kind an operation that is taken, done to stock.
func fits() []impl.Op {
	return []impl.Op{
		op(impl.OpInsert, goodsTab, good(40, "w", 7)...),
		op(impl.OpUpsert, goodsTab, good(30, "w", 7)...),
		op(impl.OpUpsert, goodsTab, good(40, "w", 7)...),
		op(impl.OpUpdate, goodsTab, good(30, "w", 7)...),
		op(impl.OpDelete, goodsTab, whole(30)),
		op(impl.OpInsert, leastTab, whole(3)),
		op(impl.OpUpsert, leastTab, whole(3)),
		op(impl.OpUpdate, leastTab, whole(5)),
		op(impl.OpDelete, leastTab, whole(5)),
		op(impl.OpInsert, pairsTab, pair("c", "c", nothing(), flag(0))...),
		op(impl.OpUpdate, pairsTab, pair("a", "z", number(1), nothing())...),
		op(impl.OpDelete, pairsTab, textVal("a"), textVal("z")),
	}
}

func TestKindsOfOps(t *testing.T) {
	kinds := []int{math.MinInt, -257, -256, -4, -1, 0, 5, 6, 255, 256, 257, 260, 1 << 32, 1<<32 + 1, math.MaxInt}
	for _, o := range fits() {
		if _, code := applyAs(t, "taken", shop(), stock(), o); code != impl.CoGood {
			t.Errorf("%v: %d", o, code)
		}
		for _, kind := range kinds {
			bad := o
			bad.Kind = kind
			appliesNot(t, "no such kind", stock(), bad, impl.CoForm)
			bad.T = 3
			appliesNot(t, "no such kind, and no such table", stock(), bad, impl.CoForm)
			bad.T, bad.Row = 0, nil
			appliesNot(t, "no such kind, and no row", stock(), bad, impl.CoForm)
		}
	}
}

func TestOpsOfNoTable(t *testing.T) {
	for _, o := range fits() {
		for _, at := range append(noPlace(3), -1) {
			bad := o
			bad.T = at
			appliesNot(t, "no such table", stock(), bad, impl.CoNone)
			bad.Row = nil
			appliesNot(t, "no such table, and no row", stock(), bad, impl.CoNone)
			bad.Row = good(40, strings.Repeat("\x00", 30), 7)
			appliesNot(t, "no such table, and a long key", stock(), bad, impl.CoNone)
		}
	}
}

// Neither is a key taken where a row must be, nor a row where a key.
func TestOpsOfRowsThatDoNotFit(t *testing.T) {
	zeroes := strings.Repeat("\x00", 30)
	rows := map[string]impl.Op{
		"no row":                         op(0, goodsTab),
		"a value too few":                op(0, goodsTab, whole(40), textVal("w")),
		"a value too many":               op(0, goodsTab, append(good(40, "w", 7), nothing())...),
		"the key alone":                  op(0, goodsTab, whole(30)),
		"another type":                   op(0, goodsTab, whole(40), whole(40), whole(7)),
		"another type in the key":        op(0, goodsTab, number(40), textVal("w"), whole(7)),
		"another type, and a long key":   op(0, goodsTab, number(40), textVal(zeroes), whole(7)),
		"another type, and a key there":  op(0, goodsTab, whole(30), textVal("w"), number(7)),
		"another type, and a text there": op(0, goodsTab, whole(40), textVal("x"), number(7)),
		"nothing in the key":             op(0, goodsTab, nothing(), textVal("w"), whole(7)),
		"a value that is none":           op(0, goodsTab, whole(40), impl.Val{K: 5}, whole(7)),
		"a text too long":                op(0, goodsTab, good(40, strings.Repeat("x", 31), 7)...),
		"a number too great":             op(0, leastTab, whole(2147483648)),
		"nothing in a key of two parts":  op(0, pairsTab, textVal("a"), nothing(), number(1), flag(1)),
		"a row of another table":         op(0, pairsTab, good(40, "w", 7)...),
		"a row too long, of another one": op(0, leastTab, good(40, "w", 7)...),
	}
	for what, o := range rows {
		for kind := impl.OpInsert; kind <= impl.OpUpdate; kind++ {
			o.Kind = kind
			appliesNot(t, what, stock(), o, impl.CoType)
			appliesNot(t, what+", of no rows", impl.MdbNew(shop()), o, impl.CoType)
		}
	}
	keys := map[string]impl.Op{
		"no key":                          op(impl.OpDelete, goodsTab),
		"the whole row":                   op(impl.OpDelete, goodsTab, good(30, "x", 7)...),
		"a value too many":                op(impl.OpDelete, goodsTab, whole(30), nothing()),
		"another type":                    op(impl.OpDelete, goodsTab, number(30)),
		"nothing":                         op(impl.OpDelete, goodsTab, nothing()),
		"a value that is none":            op(impl.OpDelete, goodsTab, impl.Val{K: impl.VInt, N: 30, S: "x"}),
		"a number too small":              op(impl.OpDelete, leastTab, whole(-2147483649)),
		"a value too few":                 op(impl.OpDelete, pairsTab, textVal("a")),
		"the second part nothing":         op(impl.OpDelete, pairsTab, textVal("a"), nothing()),
		"a text too long":                 op(impl.OpDelete, pairsTab, textVal(strings.Repeat("x", 31)), textVal("b")),
		"the whole row, of two parts":     op(impl.OpDelete, pairsTab, pair("a", "b", number(1), flag(1))...),
		"the key of another table":        op(impl.OpDelete, leastTab, textVal("a"), textVal("b")),
		"the key of another table, short": op(impl.OpDelete, pairsTab, whole(1)),
	}
	for what, o := range keys {
		appliesNot(t, what, stock(), o, impl.CoType)
		appliesNot(t, what+", of no rows", impl.MdbNew(shop()), o, impl.CoType)
	}
}

// Where a key or a row is too long nothing behind counts; a key that goes may be as long as it likes.
func TestOpsOfLongKeys(t *testing.T) {
	met, passed := strings.Repeat("\x00", 19)+"z", strings.Repeat("\x00", 20)
	for kind := impl.OpInsert; kind <= impl.OpUpdate; kind++ {
		for _, id := range []int{30, 40} {
			appliesNot(t, "a key of an index", stock(), op(kind, goodsTab, good(id, passed, 7)...), impl.CoLarge)
			appliesNot(t, "a key of an index, of no rows", impl.MdbNew(shop()), op(kind, goodsTab, good(id, passed, 7)...), impl.CoLarge)
		}
		long := pair(strings.Repeat("a", 21), strings.Repeat("b", 22), nothing(), nothing())
		appliesNot(t, "a key, and nothing twice", stock(), op(kind, pairsTab, long...), impl.CoLarge)
	}
	want := stock()
	want.Tabs[0].Rows = slices.Insert(want.Tabs[0].Rows, 0, good(40, met, 7))
	applies(t, "as long as may be", stock(), op(impl.OpInsert, goodsTab, good(40, met, 7)...), want)
	applies(t, "as long as may be, upserted", stock(), op(impl.OpUpsert, goodsTab, good(40, met, 7)...), want)
	appliesNot(t, "as long as may be, and missing", stock(), op(impl.OpUpdate, goodsTab, good(40, met, 7)...), impl.CoMissing)
	full := strings.Repeat("l", 30)
	appliesNot(t, "a key that goes, too long", stock(), op(impl.OpDelete, pairsTab, textVal(full), textVal(full)), impl.CoMissing)
	noughts := strings.Repeat("\x00", 30)
	appliesNot(t, "a key that goes, of noughts", stock(), op(impl.OpDelete, pairsTab, textVal(noughts), textVal(noughts)), impl.CoMissing)
	// Too long by the row alone: the keys have room.
	s := tables(threeTexts(by(up(0)), unique("x", up(1))))
	for size, want := range map[int]int{16: impl.CoGood, 17: impl.CoLarge} {
		if _, code := applyAs(t, "a row", s, mdb(tab()), op(impl.OpInsert, 0, letters(0, size, 30)...)); code != want {
			t.Errorf("a row of %d letters: %d", size, code)
		}
	}
}

// Whether the key must be there, or must not, of each kind.
func TestOpsOfKeysThatAreThereOrNot(t *testing.T) {
	there, missing := good(20, "w", 8), good(25, "w", 8)
	turned, longer, shorter := stock(), stock(), stock()
	turned.Tabs[0].Rows[1] = there
	longer.Tabs[0].Rows = slices.Insert(longer.Tabs[0].Rows, 1, missing)
	shorter.Tabs[0].Rows = slices.Delete(shorter.Tabs[0].Rows, 1, 2)
	appliesNot(t, "insert, there", stock(), op(impl.OpInsert, goodsTab, there...), impl.CoDup)
	applies(t, "insert, missing", stock(), op(impl.OpInsert, goodsTab, missing...), longer)
	applies(t, "upsert, there", stock(), op(impl.OpUpsert, goodsTab, there...), turned)
	applies(t, "upsert, missing", stock(), op(impl.OpUpsert, goodsTab, missing...), longer)
	applies(t, "update, there", stock(), op(impl.OpUpdate, goodsTab, there...), turned)
	appliesNot(t, "update, missing", stock(), op(impl.OpUpdate, goodsTab, missing...), impl.CoMissing)
	applies(t, "delete, there", stock(), op(impl.OpDelete, goodsTab, whole(20)), shorter)
	appliesNot(t, "delete, missing", stock(), op(impl.OpDelete, goodsTab, whole(25)), impl.CoMissing)
	for kind := impl.OpInsert; kind <= impl.OpDelete; kind++ {
		row := good(1, "w", 8)
		if kind == impl.OpDelete {
			row = row[:1]
		}
		empty := impl.MdbNew(shop())
		if kind == impl.OpInsert || kind == impl.OpUpsert {
			applies(t, "no rows", empty, op(kind, goodsTab, row...), mdb(tab(row), tab(), tab()))
		} else {
			appliesNot(t, "no rows", empty, op(kind, goodsTab, row...), impl.CoMissing)
		}
	}
	same := stock()
	appliesNot(t, "insert, the same row", stock(), op(impl.OpInsert, goodsTab, good(20, "", 7)...), impl.CoDup)
	applies(t, "upsert, the same row", stock(), op(impl.OpUpsert, goodsTab, good(20, "", 7)...), same)
	applies(t, "update, the same row", stock(), op(impl.OpUpdate, goodsTab, good(20, "", 7)...), same)
	// By the first part alone it would be there.
	appliesNot(t, "update, a key of two parts", stock(), op(impl.OpUpdate, pairsTab, pair("a", "c", number(9), nothing())...), impl.CoMissing)
	appliesNot(t, "delete, a key of two parts", stock(), op(impl.OpDelete, pairsTab, textVal("a"), textVal("c")), impl.CoMissing)
	appliesNot(t, "insert, a key of two parts", stock(), op(impl.OpInsert, pairsTab, pair("a", "b", number(9), nothing())...), impl.CoDup)
}

// Each kind against the row of its own key, and against another.
func TestOpsOfWhatAnotherRowHas(t *testing.T) {
	for what, text := range map[string]string{"a text": "y", "nothing": ""} {
		taken := mdb(tab(good(30, "x", 7), good(20, text, 7)), tab(), tab())
		appliesNot(t, what+": insert", taken, op(impl.OpInsert, goodsTab, good(40, text, 7)...), impl.CoUnique)
		appliesNot(t, what+": insert, behind", taken, op(impl.OpInsert, goodsTab, good(10, text, 7)...), impl.CoUnique)
		appliesNot(t, what+": upsert", taken, op(impl.OpUpsert, goodsTab, good(40, text, 7)...), impl.CoUnique)
		appliesNot(t, what+": upsert of one that is there", taken, op(impl.OpUpsert, goodsTab, good(30, text, 7)...), impl.CoUnique)
		appliesNot(t, what+": update", taken, op(impl.OpUpdate, goodsTab, good(30, text, 7)...), impl.CoUnique)
		appliesNot(t, what+": insert, there", taken, op(impl.OpInsert, goodsTab, good(30, text, 7)...), impl.CoDup)
		appliesNot(t, what+": insert, its own", taken, op(impl.OpInsert, goodsTab, good(20, text, 7)...), impl.CoDup)
		appliesNot(t, what+": update, missing", taken, op(impl.OpUpdate, goodsTab, good(40, text, 7)...), impl.CoMissing)
		own := mdbCopy(taken)
		own.Tabs[0].Rows[1] = good(20, text, 99)
		applies(t, what+": upsert, its own", taken, op(impl.OpUpsert, goodsTab, good(20, text, 99)...), own)
		applies(t, what+": update, its own", taken, op(impl.OpUpdate, goodsTab, good(20, text, 99)...), own)
		gone := mdbCopy(taken)
		gone.Tabs[0].Rows = gone.Tabs[0].Rows[:1]
		applies(t, what+": delete", taken, op(impl.OpDelete, goodsTab, whole(20)), gone)
		free := mdbCopy(gone)
		free.Tabs[0].Rows = [][]impl.Val{good(40, text, 7), good(30, "x", 7)}
		applies(t, what+": insert behind that", gone, op(impl.OpInsert, goodsTab, good(40, text, 7)...), free)
	}
}

// Of two parts both must be alike, in either index; nothing is a value as any other.
func TestOpsOfWhatAnotherRowHasInTwoParts(t *testing.T) {
	m := mdb(tab(), tab(pair("a", "z", number(1), flag(0)), pair("a", "b", number(1), nothing()), pair("b", "b", nothing(), flag(1))), tab())
	for _, c := range []struct {
		what string
		row  []impl.Val
		want int
	}{
		{"neither", pair("c", "c", number(2), flag(0)), impl.CoGood},
		{"both of the first index", pair("c", "c", number(1), flag(0)), impl.CoUnique},
		{"both of the first index, one nothing", pair("c", "c", number(1), nothing()), impl.CoUnique},
		{"both of the first index, the other nothing", pair("c", "c", nothing(), flag(1)), impl.CoUnique},
		{"the first part of the first index", pair("c", "c", number(1), flag(1)), impl.CoGood},
		{"the last part of the first index", pair("c", "c", number(3), flag(0)), impl.CoGood},
		{"the first part of the first index, nothing", pair("c", "c", nothing(), flag(0)), impl.CoGood},
		{"nothing in both, not in one row", pair("c", "c", nothing(), nothing()), impl.CoGood},
		{"both of the second index", pair("c", "z", number(4), flag(0)), impl.CoUnique},
		{"both of the second index, one nothing", pair("c", "b", number(4), nothing()), impl.CoUnique},
		{"both of the second index, last", pair("c", "b", number(4), flag(1)), impl.CoUnique},
		{"the first part of the second index", pair("c", "b", number(4), flag(0)), impl.CoGood},
		{"both of both", pair("c", "b", number(1), nothing()), impl.CoUnique},
	} {
		for _, kind := range []int{impl.OpInsert, impl.OpUpsert} {
			if _, code := applyAs(t, c.what, shop(), m, op(kind, pairsTab, c.row...)); code != c.want {
				t.Errorf("%s: %d, not %d", c.what, code, c.want)
			}
		}
		appliesNot(t, c.what, m, op(impl.OpUpdate, pairsTab, c.row...), impl.CoMissing)
	}
	// The third row takes over what the second has, but for that one's going.
	appliesNot(t, "of another", m, op(impl.OpUpdate, pairsTab, pair("b", "b", number(1), nothing())...), impl.CoUnique)
	next, code := applyAs(t, "of another", shop(), m, op(impl.OpDelete, pairsTab, textVal("a"), textVal("b")))
	if code != impl.CoGood {
		t.Fatal("of another: it does not go", code)
	}
	if next, code = applyAs(t, "of one that went", shop(), next, op(impl.OpUpdate, pairsTab, pair("b", "b", number(1), nothing())...)); code != impl.CoGood || len(next.Tabs[1].Rows) != 2 {
		t.Error("of one that went", code, mdbText(next))
	}
}

// The first that holds counts, of any that do: each is put right in its turn, and the next one is told.
func TestWhichCodeOfOpsCounts(t *testing.T) {
	long := strings.Repeat("\x00", 20)
	s := tables(threeTexts(by(up(0)), unique("x", up(3))))
	row := func(id int, a string, c string) []impl.Val {
		return vals(whole(id), textVal(a), textVal(""), textVal(c))
	}
	m := mdb(tab(row(1, "", "taken"), row(2, "", "own")))
	mdbIs(t, "all at once", s, m, true)
	for _, c := range []struct {
		what string
		m    impl.Mdb
		o    impl.Op
		want int
	}{
		{"all of it", mdb(), op(9, 9, row(1, long+long, "x")...), impl.CoForm},
		{"all of it but the kind", mdb(), op(1, 9, row(1, long+long, "x")...), impl.CoForm},
		{"all of it but the tables", m, op(9, 9, row(1, long+long, "x")...), impl.CoForm},
		{"no table, and all behind", m, op(1, 9, row(1, long+long, "x")...), impl.CoNone},
		{"another type, and all behind", m, op(1, 0, row(1, long+long, "x")...), impl.CoType},
		{"too long, there, and taken", m, op(1, 0, vals(whole(2), textVal(strings.Repeat("a", 20)), textVal(strings.Repeat("b", 24)), textVal("taken"))...), impl.CoLarge},
		{"too long, missing, and taken", m, op(3, 0, vals(whole(3), textVal(strings.Repeat("a", 20)), textVal(strings.Repeat("b", 24)), textVal("taken"))...), impl.CoLarge},
		{"too long, and taken", m, op(2, 0, vals(whole(2), textVal(strings.Repeat("a", 20)), textVal(strings.Repeat("b", 24)), textVal("taken"))...), impl.CoLarge},
		{"there, and taken", m, op(1, 0, row(2, "", "taken")...), impl.CoDup},
		{"missing, and taken", m, op(3, 0, row(3, "", "taken")...), impl.CoMissing},
		{"taken, inserted", m, op(1, 0, row(3, "", "taken")...), impl.CoUnique},
		{"taken, upserted", m, op(2, 0, row(2, "", "taken")...), impl.CoUnique},
		{"taken, updated", m, op(3, 0, row(2, "", "taken")...), impl.CoUnique},
		{"none of it", m, op(1, 0, row(3, "", "free")...), impl.CoGood},
	} {
		if _, code := applyAs(t, c.what, s, c.m, c.o); code != c.want {
			t.Errorf("%s: %d, not %d", c.what, code, c.want)
		}
	}
}

// ids has the first values of a table's rows.
func ids(m impl.Mdb, t int) []int {
	var out []int
	for _, row := range m.Tabs[t].Rows {
		out = append(out, row[0].N)
	}
	return out
}

// A row comes in its place, wherever that is.
func TestPlacesOfRows(t *testing.T) {
	for _, kind := range []int{impl.OpInsert, impl.OpUpsert} {
		for n := range 6 {
			m, want := impl.MdbNew(shop()), []int(nil)
			for i := range n {
				m.Tabs[0].Rows = append(m.Tabs[0].Rows, good(2*(n-i), fmt.Sprint(i), 1))
				m.Tabs[2].Rows = append(m.Tabs[2].Rows, vals(whole(2*(i+1))))
				want = append(want, 2*(i+1))
			}
			mdbIs(t, "even", shop(), m, true)
			for id := 1; id <= 2*n+1; id += 2 {
				up := slices.Sorted(slices.Values(append(slices.Clone(want), id)))
				next, code := applyAs(t, "up", shop(), m, op(kind, leastTab, whole(id)))
				if code != impl.CoGood || !slices.Equal(ids(next, leastTab), up) || !slices.Equal(next.Tabs[2].Rows[id/2], vals(whole(id))) {
					t.Errorf("%d into %v: %s", id, want, mdbText(next))
				}
				slices.Reverse(up)
				next, code = applyAs(t, "down", shop(), m, op(kind, goodsTab, good(id, "new", 5)...))
				if code != impl.CoGood || !slices.Equal(ids(next, goodsTab), up) || !slices.Equal(next.Tabs[0].Rows[n-id/2], good(id, "new", 5)) {
					t.Errorf("%d into %v: %s", id, want, mdbText(next))
				}
			}
		}
	}
}

// A row comes in the place of the one of its key, or goes, wherever that is; the others stay.
func TestPlacesOfRowsThatAreThere(t *testing.T) {
	for n := 1; n < 6; n++ {
		m := impl.MdbNew(shop())
		for i := range n {
			m.Tabs[0].Rows = append(m.Tabs[0].Rows, good(n-i, fmt.Sprint(i), 1))
		}
		for at := range n {
			want := mdbCopy(m)
			want.Tabs[0].Rows[at] = good(n-at, "new", 5)
			applies(t, "in its place", m, op(impl.OpUpsert, goodsTab, good(n-at, "new", 5)...), want)
			applies(t, "in its place", m, op(impl.OpUpdate, goodsTab, good(n-at, "new", 5)...), want)
			want.Tabs[0].Rows = slices.Delete(want.Tabs[0].Rows, at, at+1)
			applies(t, "gone", m, op(impl.OpDelete, goodsTab, whole(n-at)), want)
		}
	}
}

// Rows stand in the order of all types, not in that of their bytes or texts.
func TestOrderOfRows(t *testing.T) {
	numbers := []int{-2147483648, -300, -256, -1, 0, 1, 2, 10, 255, 256, 1000, 2147483647}
	texts := []string{"", "\x00", "\x00\x00", "\x00a", "\x01", "A", "a", "a\x00", "aa", "b", "\x7f", "\x80", "\xff"}
	s, ok := impl.ParseDefs("table a { k int; primary k; } table b { k text; n bool; primary k, n desc; } table c { k num; primary k desc; }")
	if !ok {
		t.Fatal("no tables")
	}
	want := mdb(tab(), tab(), tab())
	var all []impl.Op
	for _, n := range numbers {
		want.Tabs[0].Rows = append(want.Tabs[0].Rows, vals(whole(n)))
		want.Tabs[2].Rows = slices.Insert(want.Tabs[2].Rows, 0, vals(number(n)))
		all = append(all, op(1, 0, whole(n)), op(1, 2, number(n)))
	}
	for _, x := range texts {
		want.Tabs[1].Rows = append(want.Tabs[1].Rows, vals(textVal(x), flag(1)), vals(textVal(x), flag(0)))
		all = append(all, op(1, 1, textVal(x), flag(0)), op(1, 1, textVal(x), flag(1)))
	}
	mdbIs(t, "in order", s, want, true)
	r := rand.New(rand.NewSource(2200))
	for range 20 {
		r.Shuffle(len(all), func(i, j int) { all[i], all[j] = all[j], all[i] })
		m := impl.MdbNew(s)
		for _, o := range all {
			next, code := impl.ApplyOp(s, m, o)
			if code != impl.CoGood {
				t.Fatalf("%v: %d", o, code)
			}
			m = next
		}
		if !sameMdb(m, want) {
			t.Fatalf("in order: %s, not %s", mdbText(m), mdbText(want))
		}
		for i, o := range all {
			next, code := impl.ApplyOp(s, m, impl.Op{Kind: impl.OpDelete, T: o.T, Row: o.Row})
			if code != impl.CoGood || !impl.MdbOk(s, next) {
				t.Fatalf("%v, the %dth that goes: %d", o, i, code)
			}
			m = next
		}
		if !sameMdb(m, impl.MdbNew(s)) {
			t.Fatalf("all went, but %s", mdbText(m))
		}
	}
}

func TestBatches(t *testing.T) {
	s := shop()
	inserts := func(n int) []impl.Op {
		var out []impl.Op
		for i := range n {
			out = append(out, op(impl.OpInsert, leastTab, whole(10+i)))
		}
		return out
	}
	for n := range 14 {
		got, code, count := batchAs(t, "inserts", s, stock(), inserts(n))
		switch {
		case n <= 10 && (code != impl.CoGood || count != n || len(got.Tabs[2].Rows) != 2+n):
			t.Errorf("%d inserts: %d, %d, %s", n, code, count, mdbText(got))
		case n > 10 && (code != impl.CoForm || count != 0 || !sameMdb(got, stock())):
			t.Errorf("%d inserts: %d, %d, %s", n, code, count, mdbText(got))
		}
	}
	for _, l := range [][]impl.Op{nil, {}} {
		if got, code, count := batchAs(t, "nothing", s, stock(), l); code != impl.CoGood || count != 0 || !sameMdb(got, stock()) {
			t.Errorf("of nothing: %d, %d, %s", code, count, mdbText(got))
		}
	}
	// That there are too many counts ahead of what each of them is.
	if _, code, place := batchAs(t, "too many", s, stock(), make([]impl.Op, 11)); code != impl.CoForm || place != 0 {
		t.Error("eleven of no kind", code, place)
	}
	if got, code, place := batchAs(t, "too many, of what is not right", s, mdb(tab(good(1, "x", 1))), inserts(11)); code != impl.CoForm || place != 0 || len(got.Tabs) != 1 {
		t.Error("eleven", code, place)
	}
}

// The one that is refused at each place, of each code: nothing of the batch is done.
func TestBatchesThatAreRefused(t *testing.T) {
	refused := map[int]impl.Op{
		impl.CoForm:    op(5, leastTab, whole(77)),
		impl.CoNone:    op(impl.OpInsert, 3, whole(77)),
		impl.CoType:    op(impl.OpInsert, leastTab, number(77)),
		impl.CoLarge:   op(impl.OpInsert, goodsTab, good(77, strings.Repeat("\x00", 20), 7)...),
		impl.CoDup:     op(impl.OpInsert, leastTab, whole(5)),
		impl.CoMissing: op(impl.OpDelete, leastTab, whole(77)),
		impl.CoUnique:  op(impl.OpInsert, goodsTab, good(77, "x", 7)...),
	}
	for want, bad := range refused {
		for n := 1; n <= 10; n++ {
			for at := range n {
				var l []impl.Op
				for i := range n {
					l = append(l, op(impl.OpInsert, leastTab, whole(10+i)))
				}
				l[at] = bad
				got, code, place := batchAs(t, "refused", shop(), stock(), l)
				if code != want || place != at || !sameMdb(got, stock()) {
					t.Errorf("%d at %d of %d: %d, %d, %s", want, at, n, code, place, mdbText(got))
				}
			}
		}
	}
	// Of two the first counts.
	l := []impl.Op{op(impl.OpInsert, leastTab, whole(7)), op(impl.OpDelete, leastTab, whole(77)), op(impl.OpInsert, leastTab, whole(5))}
	if _, code, place := batchAs(t, "two", shop(), stock(), l); code != impl.CoMissing || place != 1 {
		t.Error("of two", code, place)
	}
}

// Each stands on what those ahead made.
func TestBatchesInOrder(t *testing.T) {
	l := []impl.Op{
		op(impl.OpInsert, goodsTab, good(40, "w", 1)...),
		op(impl.OpUpdate, goodsTab, good(40, "v", 1)...),
		op(impl.OpInsert, goodsTab, good(50, "w", 1)...),
		op(impl.OpDelete, goodsTab, whole(30)),
		op(impl.OpUpsert, goodsTab, good(20, "x", 2)...),
		op(impl.OpInsert, goodsTab, good(5, "", 3)...),
		op(impl.OpDelete, goodsTab, whole(50)),
		op(impl.OpInsert, leastTab, whole(3)),
		op(impl.OpInsert, pairsTab, pair("a", "c", number(7), nothing())...),
		op(impl.OpUpdate, leastTab, whole(3)),
	}
	want := stock()
	want.Tabs[0].Rows = [][]impl.Val{good(40, "v", 1), good(20, "x", 2), good(10, "y", 7), good(5, "", 3)}
	want.Tabs[1].Rows = slices.Insert(want.Tabs[1].Rows, 1, pair("a", "c", number(7), nothing()))
	want.Tabs[2].Rows = slices.Insert(want.Tabs[2].Rows, 1, vals(whole(3)))
	got, code, count := batchAs(t, "in order", shop(), stock(), l)
	if code != impl.CoGood || count != 10 || !sameMdb(got, want) {
		t.Errorf("in order: %d, %d, %s", code, count, mdbText(got))
	}
	turned := slices.Clone(l)
	slices.Reverse(turned)
	if _, code, place := batchAs(t, "the other way about", shop(), stock(), turned); code != impl.CoMissing || place != 0 {
		t.Error("the other way about", code, place)
	}
	twice := []impl.Op{l[0], l[0]}
	if _, code, place := batchAs(t, "twice", shop(), stock(), twice); code != impl.CoDup || place != 1 {
		t.Error("twice", code, place)
	}
	for n := range l {
		batchAs(t, "in order, the first", shop(), stock(), l[:n])
		batchAs(t, "in order, the last", shop(), stock(), l[n:])
	}
}

// fewVals has so few values of each kind that rows often have one key, or what another has.
func fewVals(r *rand.Rand, c impl.Col) impl.Val {
	if c.Null && r.Intn(3) == 0 {
		return nothing()
	}
	switch c.Type {
	case impl.TInt:
		return whole(r.Intn(4) - 1)
	case impl.TNum:
		return number(r.Intn(4) * 1000)
	case impl.TText:
		return textVal([]string{"", "a", "b", "ab", "\x00", strings.Repeat("\x00", 20)}[r.Intn(6)])
	}
	return flag(r.Intn(2))
}

// fewRow is mostly right by this table.
func fewRow(r *rand.Rand, d impl.Def) []impl.Val {
	var out []impl.Val
	for _, c := range d.Cols {
		out = append(out, fewVals(r, c))
	}
	switch r.Intn(40) {
	case 0:
		return out[:len(out)-1]
	case 1:
		return append(out, nothing())
	case 2:
		out[r.Intn(len(out))] = allVals()[r.Intn(len(allVals()))]
	}
	return out
}

// someOp is mostly one that may be done.
func someOp(r *rand.Rand, s []impl.Def) impl.Op {
	o := impl.Op{Kind: 1 + r.Intn(4), T: r.Intn(len(s))}
	o.Row = fewRow(r, s[o.T])
	if o.Kind == impl.OpDelete && len(o.Row) == len(s[o.T].Cols) && firstOf(s[o.T]) == impl.ChGood {
		o.Row = picked(wordsPrimary(s[o.T]), o.Row)
	}
	if r.Intn(60) == 0 {
		o.Kind = r.Intn(8) - 1
	}
	if r.Intn(60) == 0 {
		o.T = r.Intn(6) - 1
	}
	return o
}

// holds asks of the rows what the promise says, without any plan: no two of one key.
func holds(t *testing.T, s []impl.Def, m impl.Mdb) {
	t.Helper()
	for at, x := range m.Tabs {
		keys := map[string]int{}
		for _, row := range x.Rows {
			key := ""
			for _, p := range s[at].Primary {
				key += rowText(row[p.Col : p.Col+1])
			}
			keys[key]++
			if keys[key] > 1 {
				t.Errorf("two rows of one key: %s", mdbText(m))
			}
		}
	}
}

func TestManyOps(t *testing.T) {
	r := rand.New(rand.NewSource(22))
	codes := map[int]int{}
	for i := range 90 {
		s := someSchema(r)
		if i%3 == 0 {
			s = shop()
		}
		m := impl.MdbNew(s)
		for range 50 {
			o := someOp(r, s)
			next, code := applyAs(t, "many", s, m, o)
			codes[code]++
			if code == impl.CoGood {
				holds(t, s, next)
				row, ok := rowAt(t, "many", s, next, o.T, o.Row)
				if o.Kind == impl.OpDelete && ok {
					t.Errorf("it is there still: %s", rowText(row))
				}
				if o.Kind != impl.OpDelete {
					row, ok = rowAt(t, "many", s, next, o.T, picked(wordsPrimary(s[o.T]), o.Row))
					if !ok || !slices.Equal(row, o.Row) {
						t.Errorf("it is not there: %s, %v", rowText(row), ok)
					}
				}
			}
			m = next
			if t.Failed() {
				t.FailNow()
			}
		}
	}
	for code, few := range map[int]int{impl.CoGood: 1000, impl.CoForm: 30, impl.CoNone: 20, impl.CoType: 80, impl.CoLarge: 50, impl.CoDup: 150, impl.CoMissing: 150, impl.CoUnique: 100} {
		if codes[code] < few {
			t.Errorf("the codes %v", codes)
		}
	}
}

// someBatch is mostly of operations that are taken behind those ahead.
func someBatch(r *rand.Rand, s []impl.Def, m impl.Mdb) []impl.Op {
	var out []impl.Op
	for range r.Intn(6) + r.Intn(8) {
		o := someOp(r, s)
		for tries := r.Intn(30); tries > 0 && wordsCode(s, m, o) != impl.CoGood; tries-- {
			o = someOp(r, s)
		}
		m, _ = wordsApply(s, m, o)
		out = append(out, o)
	}
	return out
}

func TestManyBatches(t *testing.T) {
	r := rand.New(rand.NewSource(2222))
	codes, places := map[int]int{}, map[int]int{}
	for i := range 30 {
		s := someSchema(r)
		if i%3 == 0 {
			s = shop()
		}
		m := impl.MdbNew(s)
		for range 20 {
			next, code, place := batchAs(t, "many", s, m, someBatch(r, s, m))
			codes[code]++
			if code != impl.CoGood {
				places[place]++
			}
			if code == impl.CoGood {
				holds(t, s, next)
			}
			m = next
			if t.Failed() {
				t.FailNow()
			}
		}
	}
	if codes[impl.CoGood] < 300 || codes[impl.CoUnique] == 0 || codes[impl.CoDup] < 4 || codes[impl.CoForm] < 10 || places[0] < 20 || places[5] == 0 {
		t.Errorf("the codes %v, at %v", codes, places)
	}
}

// someMdb has rows that are mostly right, and mostly in order.
func someMdb(r *rand.Rand, s []impl.Def) impl.Mdb {
	m := impl.Mdb{}
	for at, d := range s {
		x := impl.MTab{}
		for range r.Intn(6) {
			x.Rows = append(x.Rows, fewRow(r, d))
		}
		if r.Intn(5) > 0 {
			x.Rows = slices.DeleteFunc(x.Rows, func(row []impl.Val) bool { return !impl.RowOk(wordsRow(d), row) || wordsLong(s, at, row) })
			slices.SortFunc(x.Rows, func(a []impl.Val, b []impl.Val) int {
				switch {
				case wordsAhead(d, a, b):
					return -1
				case wordsAhead(d, b, a):
					return 1
				}
				return 0
			})
		}
		m.Tabs = append(m.Tabs, x)
	}
	switch r.Intn(20) {
	case 0:
		m.Tabs = m.Tabs[:len(m.Tabs)-1]
	case 1:
		m.Tabs = append(m.Tabs, impl.MTab{})
	}
	return m
}

func TestTablesWithRowsByTheWords(t *testing.T) {
	r := rand.New(rand.NewSource(222))
	rights := map[bool]int{}
	for i := range 3000 {
		s := someSchema(r)
		if i%2 == 0 {
			s = shop()
		}
		m := someMdb(r, s)
		right := wordsMdbOk(s, m)
		rights[right]++
		mdbIs(t, "some", s, m, right)
		o := someOp(r, s)
		applyAs(t, "some", s, m, o)
		batchAs(t, "some", s, m, []impl.Op{o, someOp(r, s)})
		for at := -1; at <= len(s); at++ {
			for range 3 {
				rowAt(t, "some", s, m, at, vals(fewVals(r, impl.Col{Type: impl.TInt, Null: true})))
				if 0 <= at && at < len(s) && firstWrong(s) == -1 {
					rowAt(t, "some", s, m, at, impl.Pick(wordsPrimary(s[at]), fewRow(r, s[at])))
				}
			}
		}
		if t.Failed() {
			t.FailNow()
		}
	}
	if rights[true] < 500 || rights[false] < 500 {
		t.Errorf("right are %v", rights)
	}
}

// What was refused leaves nothing behind for the next call.
func TestTablesKeepNothing(t *testing.T) {
	for _, c := range wrongMdbs() {
		bad := stock()
		c.turn(&bad)
		impl.MdbOk(shop(), bad)
		impl.RowAt(shop(), bad, 0, vals(whole(20)))
		impl.ApplyOp(shop(), bad, op(impl.OpInsert, goodsTab, good(40, "w", 7)...))
		impl.ApplyBatch(shop(), bad, []impl.Op{op(impl.OpDelete, goodsTab, whole(30)), op(9, 9)})
		mdbIs(t, "behind "+c.what, shop(), stock(), true)
		applies(t, "behind "+c.what, mdb(tab(good(2, "x", 1)), tab(), tab()), op(impl.OpInsert, goodsTab, good(1, "y", 1)...), mdb(tab(good(2, "x", 1), good(1, "y", 1)), tab(), tab()))
	}
	l := []impl.Op{op(impl.OpDelete, goodsTab, whole(30)), op(impl.OpDelete, goodsTab, whole(77))}
	impl.ApplyBatch(shop(), stock(), l)
	if _, code, count := batchAs(t, "behind a batch", shop(), stock(), l[:1]); code != impl.CoGood || count != 1 {
		t.Error("behind a batch", code, count)
	}
}

// roomyMdb has spare room behind each list, with what would be wrong there, or be found.
func roomyMdb(m impl.Mdb) impl.Mdb {
	m = mdbCopy(m)
	for i, x := range m.Tabs {
		for at, row := range x.Rows {
			x.Rows[at] = roomyVals(row)
		}
		m.Tabs[i].Rows = append(x.Rows, good(99, "spare", 1), vals(whole(99)))[:len(x.Rows)]
	}
	m.Tabs = append(m.Tabs, tab(vals(whole(99))), tab(good(99, "spare", 1)))[:len(m.Tabs)]
	return m
}

// allMdb has all that stands in the lists of what is roomy, and behind them.
func allMdb(m impl.Mdb) string {
	shown := impl.Mdb{Tabs: slices.Clone(m.Tabs[:len(m.Tabs)+2])}
	for i, x := range m.Tabs {
		rows := slices.Clone(x.Rows[:len(x.Rows)+2])
		for at, row := range x.Rows {
			rows[at] = row[:len(row)+len(someSpare())]
		}
		shown.Tabs[i].Rows = rows
	}
	return mdbText(shown)
}

// roomyOps has spare room behind the list, with one that would be done, and behind each Row.
func roomyOps(l []impl.Op) []impl.Op {
	var out []impl.Op
	for _, o := range l {
		out = append(out, impl.Op{Kind: o.Kind, T: o.T, Row: roomyVals(o.Row)})
	}
	return append(out, op(impl.OpInsert, leastTab, whole(99)), op(9, 9))[:len(l)]
}

func allOps(l []impl.Op) string {
	out := ""
	for i, o := range l[:len(l)+2] {
		row := o.Row
		if i < len(l) {
			row = row[:len(row)+len(someSpare())]
		}
		out += fmt.Sprint(o.Kind, " ", o.T, rowText(row))
	}
	return out
}

// overwriteMdb fills an answer, and all the room that came with it.
func overwriteMdb(m impl.Mdb) {
	tabs := m.Tabs[:cap(m.Tabs)]
	for i := range tabs {
		rows := tabs[i].Rows[:cap(tabs[i].Rows)]
		for at := range rows {
			overwriteVals(rows[at])
			rows[at] = vals(whole(66))
		}
		tabs[i] = tab(vals(whole(67)))
	}
}

func overwriteOps(l []impl.Op) {
	for i := range l {
		overwriteVals(l[i].Row)
		l[i] = op(7, 7, whole(7))
	}
}

// mdbCall is something that is done to tables, of which tables come.
type mdbCall struct {
	what string
	do   func(s []impl.Def, m impl.Mdb, l []impl.Op) impl.Mdb
}

func mdbCalls() []mdbCall {
	return []mdbCall{
		{"ApplyBatch", func(s []impl.Def, m impl.Mdb, l []impl.Op) impl.Mdb {
			next, _, _ := impl.ApplyBatch(s, m, l)
			return next
		}},
		{"ApplyOp", func(s []impl.Def, m impl.Mdb, l []impl.Op) impl.Mdb {
			if len(l) == 0 {
				return impl.MdbNew(s)
			}
			next, _ := impl.ApplyOp(s, m, l[0])
			return next
		}},
		{"RowAt", func(s []impl.Def, m impl.Mdb, l []impl.Op) impl.Mdb {
			out := impl.Mdb{}
			for at := range s {
				for _, key := range [][]impl.Val{vals(whole(20)), vals(whole(5)), vals(textVal("a"), textVal("b"))} {
					row, _ := impl.RowAt(s, m, at, key)
					out.Tabs = append(out.Tabs, tab(row))
				}
			}
			return out
		}},
	}
}

// someMdbs has tables that are right, and such as are not.
func someMdbs() []impl.Mdb {
	out := []impl.Mdb{stock(), impl.MdbNew(shop()), {}}
	for _, c := range wrongMdbs() {
		m := stock()
		c.turn(&m)
		out = append(out, m)
	}
	return out
}

// someBatches has such as are taken, and such as are refused.
func someBatches() [][]impl.Op {
	out := [][]impl.Op{nil, make([]impl.Op, 11), {op(9, 9)}, {op(impl.OpDelete, goodsTab, whole(77))}, {op(impl.OpInsert, goodsTab, good(9, "x", 1)...)}}
	for _, o := range fits() {
		out = append(out, []impl.Op{o}, []impl.Op{o, op(impl.OpUpsert, leastTab, whole(8)), op(impl.OpDelete, leastTab, whole(1))}, []impl.Op{o, op(impl.OpInsert, 3)})
	}
	return out
}

// Neither is an argument written to, nor is what stands behind its lists read.
func TestTablesWriteIntoNoArgument(t *testing.T) {
	s := shop()
	for i, d := range s {
		s[i] = roomyDef(d)
	}
	ahead := []impl.Def{allRoom(s[0]), allRoom(s[1]), allRoom(s[2])}
	for _, m := range someMdbs() {
		for _, l := range someBatches() {
			roomy, ops := roomyMdb(m), roomyOps(l)
			mdbAhead, opsAhead := allMdb(roomy), allOps(ops)
			for _, c := range mdbCalls() {
				if got, want := c.do(s, roomy, ops), c.do(shop(), m, l); !sameMdb(got, want) {
					t.Errorf("%s: with room behind %s, not %s", c.what, mdbText(got), mdbText(want))
				}
			}
			if impl.MdbOk(s, roomy) != impl.MdbOk(shop(), m) {
				t.Errorf("with room behind it is not what it was: %s", mdbText(m))
			}
			if allMdb(roomy) != mdbAhead || allOps(ops) != opsAhead {
				t.Errorf("%s, %s turned into %s, %s", mdbAhead, opsAhead, allMdb(roomy), allOps(ops))
			}
		}
	}
	for i, d := range s {
		if !sameAll(ahead[i], allRoom(d)) {
			t.Errorf("the table %+v turned into %+v", ahead[i], allRoom(d))
		}
	}
}

// What is answered shares no memory with an argument, nor with another answer.
func TestTablesAreNewMemory(t *testing.T) {
	for _, m := range someMdbs() {
		for _, l := range someBatches() {
			for _, c := range mdbCalls() {
				arg, ops := roomyMdb(m), roomyOps(l)
				ahead, opsAhead := allMdb(arg), allOps(ops)
				second := c.do(shop(), arg, ops)
				want := mdbText(second)
				overwriteMdb(c.do(shop(), arg, ops))
				if allMdb(arg) != ahead || allOps(ops) != opsAhead || mdbText(second) != want {
					t.Errorf("%s: the answer shares memory: %s, %s, %s", c.what, allMdb(arg), allOps(ops), mdbText(second))
				}
				overwriteMdb(arg)
				overwriteOps(ops)
				if mdbText(second) != want {
					t.Errorf("%s: the answer shares memory with an argument: %s, not %s", c.what, mdbText(second), want)
				}
			}
		}
	}
	s := shop()
	first, second := impl.MdbNew(s), impl.MdbNew(s)
	overwriteMdb(first)
	if !impl.MdbOk(s, second) {
		t.Errorf("new tables share memory: %s", mdbText(second))
	}
}

// mdbLists has each list of an answer: a list of rows shows where they stand, not what they have.
func mdbLists(m impl.Mdb) []shownList {
	out := []shownList{listed(m.Tabs, tab(vals(whole(66))), func(x impl.MTab) string { return fmt.Sprintf("%p", x.Rows) })}
	for _, x := range m.Tabs {
		out = append(out, listed(x.Rows, vals(whole(66)), func(row []impl.Val) string { return fmt.Sprintf("%p", row) }))
		for _, row := range x.Rows {
			out = append(out, listed(row, whole(66), func(v impl.Val) string { return fmt.Sprint(v) }))
		}
	}
	return out
}

// A row that an argument has in several places is another one in each of the answer.
func TestListsOfRowsShareNothing(t *testing.T) {
	d := shop()[goodsTab]
	s := tables(d, renamed(d, "others"), renamed(d, "more"))
	one, two := good(2, "x", 7), good(1, "y", 7)
	rows := [][]impl.Val{one, two}
	m := impl.Mdb{Tabs: []impl.MTab{{Rows: rows}, {Rows: rows}, {Rows: [][]impl.Val{two}}}}
	batches := [][]impl.Op{
		nil,
		{op(impl.OpDelete, 0, whole(2))},
		{{Kind: impl.OpUpsert, T: 0, Row: one}, {Kind: impl.OpInsert, T: 2, Row: one}},
		{{Kind: impl.OpInsert, T: 2, Row: one}, {Kind: impl.OpUpdate, T: 1, Row: two}},
		{{Kind: impl.OpInsert, T: 2, Row: one}, {Kind: impl.OpInsert, T: 2, Row: one}},
		make([]impl.Op, 11),
	}
	for _, l := range batches {
		for _, c := range mdbCalls() {
			count := len(mdbLists(c.do(s, m, l)))
			for i := range count {
				lists := mdbLists(c.do(s, m, l))
				ahead := showAll(lists)
				lists[i].fill()
				behind := showAll(lists)
				behind[i] = ahead[i]
				if !slices.Equal(ahead, behind) {
					t.Errorf("%s: with the list %d others turned: %q, then %q", c.what, i, ahead, behind)
				}
			}
			if !slices.Equal(one, good(2, "x", 7)) || !slices.Equal(two, good(1, "y", 7)) {
				t.Fatalf("%s: the rows turned into %s, %s", c.what, rowText(one), rowText(two))
			}
		}
	}
}

// Nothing stands behind the lists of an answer: what went is not to be had.
func TestNothingStandsBehindRows(t *testing.T) {
	for _, m := range someMdbs() {
		for _, l := range someBatches() {
			for _, c := range mdbCalls() {
				got := c.do(shop(), roomyMdb(m), roomyOps(l))
				behind := mdbText(impl.Mdb{Tabs: got.Tabs[len(got.Tabs):cap(got.Tabs)]})
				for _, x := range got.Tabs {
					for _, row := range x.Rows[len(x.Rows):cap(x.Rows)] {
						behind += rowText(row)
					}
					for _, row := range x.Rows {
						for _, v := range row[len(row):cap(row)] {
							if v != (impl.Val{}) {
								behind += fmt.Sprint(v)
							}
						}
					}
				}
				if strings.Trim(behind, "[]()") != "" {
					t.Errorf("%s: behind stands %s", c.what, behind)
				}
			}
		}
	}
}

// Much that is right is taken, and much that is wrong comes to an end, too.
func TestTablesOfVeryManyRows(t *testing.T) {
	const many, more = 5000, 200000
	s, m := shop(), impl.MdbNew(shop())
	for i := range many {
		m.Tabs[0].Rows = append(m.Tabs[0].Rows, good(many-i, fmt.Sprint("x", i), 7))
	}
	if !impl.MdbOk(s, m) {
		t.Error("many rows are not right")
	}
	next, code := impl.ApplyOp(s, m, op(impl.OpInsert, goodsTab, good(0, "y", 7)...))
	if code != impl.CoGood || len(next.Tabs[0].Rows) != many+1 || !slices.Equal(next.Tabs[0].Rows[many], good(0, "y", 7)) {
		t.Error("into many rows", code)
	}
	if _, code = impl.ApplyOp(s, m, op(impl.OpInsert, goodsTab, good(0, "x7", 7)...)); code != impl.CoUnique {
		t.Error("into many rows, one of which has it", code)
	}
	m.Tabs[0].Rows[many-1][1] = textVal("x0")
	if impl.MdbOk(s, m) {
		t.Error("the last of many rows has what the first has")
	}
	long := slices.Repeat(vals(whole(1)), more)
	if _, ok := impl.RowAt(s, stock(), leastTab, long); ok {
		t.Error("a row of a key of very many values")
	}
	for kind := impl.OpInsert; kind <= impl.OpDelete; kind++ {
		if _, code := impl.ApplyOp(s, stock(), op(kind, leastTab, long...)); code != impl.CoType {
			t.Error("a row of very many values", code)
		}
	}
	wide := stock()
	wide.Tabs[2].Rows = slices.Repeat([][]impl.Val{vals(whole(1))}, more)
	tabs := impl.Mdb{Tabs: make([]impl.MTab, more)}
	full := impl.Mdb{Tabs: []impl.MTab{{}, {}, {Rows: [][]impl.Val{long}}}}
	for what, m := range map[string]impl.Mdb{"very many rows of one key": wide, "very many tables": tabs, "a row of very many values": full} {
		if impl.MdbOk(s, m) {
			t.Errorf("%s are right", what)
		}
	}
	if _, ok := impl.RowAt(s, tabs, leastTab, vals(whole(1))); ok {
		t.Error("a row of very many tables")
	}
	if next, code := impl.ApplyOp(s, tabs, op(impl.OpInsert, leastTab, whole(1))); code != impl.CoForm || len(next.Tabs) != more {
		t.Error("into very many tables", code, len(next.Tabs))
	}
	ops := slices.Repeat([]impl.Op{op(impl.OpUpsert, leastTab, whole(1))}, more)
	if next, code, place := impl.ApplyBatch(s, stock(), ops); code != impl.CoForm || place != 0 || !sameMdb(next, stock()) {
		t.Error("very many operations", code, place)
	}
	defs := slices.Repeat(s, more)
	if got := impl.MdbNew(defs); len(got.Tabs) != 0 || impl.MdbOk(defs, tabs) || impl.MdbOk(defs, impl.Mdb{Tabs: make([]impl.MTab, len(defs))}) {
		t.Error("a list of very many tables is right", len(got.Tabs))
	}
	if _, ok := impl.RowAt(defs, stock(), leastTab, vals(whole(1))); ok {
		t.Error("a row of a list of very many tables")
	}
}
