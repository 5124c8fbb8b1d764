package tests

import (
	"hash/crc32"
	"slices"
	"strings"
	"testing"

	"loop.example/g00322/impl"
)

var (
	_ func([]impl.Part, []impl.Val) bool           = impl.RowOk
	_ func([]impl.Part, []impl.Val) []byte         = impl.EncodeRow
	_ func([]impl.Part, []byte) ([]impl.Val, bool) = impl.DecodeRow
)

// summed has a body, and its sum as the library has it.
func summed(body string) string {
	sum := crc32.Checksum([]byte(body), crc32.MakeTable(crc32.Castagnoli))
	return body + string([]byte{byte(sum >> 24), byte(sum >> 16), byte(sum >> 8), byte(sum)})
}

// rowVals has values of one type, both ends among them, with their bytes in a row.
func rowVals(kind int) []partVal {
	most := strings.Repeat("m", impl.MaxText)
	switch kind {
	case impl.TInt:
		return []partVal{
			{whole(5), "\x01\x81\x05"},
			{whole(-2147483648), "\x01\x7b\x80\x00\x00\x00"},
			{whole(2147483647), "\x01\x84\x7f\xff\xff\xff"},
			{whole(0), "\x01\x80"},
			{whole(-1), "\x01\x7f"},
			{whole(-256), "\x01\x7e\x00"},
			{whole(-257), "\x01\x7d\xfe\xff"},
			{whole(305419896), "\x01\x84\x12\x34\x56\x78"},
		}
	case impl.TNum:
		return []partVal{
			{number(-2), "\x02\x7e\xfe"},
			{number(-billiard), "\x02\x78\xfc\x72\x81\x5b\x39\x80\x00"},
			{number(billiard), "\x02\x87\x03\x8d\x7e\xa4\xc6\x80\x00"},
			{number(0), "\x02\x80"},
			{number(-1), "\x02\x7f"},
			{number(255), "\x02\x81\xff"},
			{number(256), "\x02\x82\x01\x00"},
			{number(2147483648), "\x02\x84\x80\x00\x00\x00"},
			{number(-2147483649), "\x02\x7b\x7f\xff\xff\xff"},
		}
	case impl.TText:
		return []partVal{
			{textVal("ab"), "\x03\x02ab"},
			{textVal(""), "\x03\x00"},
			{textVal(most), "\x03\x1e" + most},
			{textVal("\x00"), "\x03\x01\x00"},
			{textVal("\x00\x01\xff"), "\x03\x03\x00\x01\xff"},
			{textVal("\u00e9"), "\x03\x02\xc3\xa9"},
			{textVal("it's"), "\x03\x04it's"},
			{textVal("\xff"), "\x03\x01\xff"},
		}
	}
	return []partVal{{flag(1), "\x04\x01"}, {flag(0), "\x04\x00"}}
}

// rowValsOf has at most n values that fit a part, nothing first where it may be.
func rowValsOf(p impl.Part, n int) []partVal {
	var out []partVal
	if p.Null {
		out = append(out, partVal{nothing(), "\x00"})
	}
	out = append(out, rowVals(p.Type)...)
	return out[:min(n, len(out))]
}

// rowsOf has all rows of a plan, with at most n values of each part, and their bytes.
func rowsOf(l []impl.Part, n int) []keyVals {
	out := []keyVals{{nil, string([]byte{byte(len(l))})}}
	for _, p := range l {
		var longer []keyVals
		for _, r := range out {
			for _, c := range rowValsOf(p, n) {
				longer = append(longer, keyVals{append(slices.Clone(r.vals), c.v), r.want + c.want})
			}
		}
		out = longer
	}
	for i := range out {
		out[i].want = summed(out[i].want)
	}
	return out
}

func plansAndRows() []planAndKeys {
	out := []planAndKeys{{nil, rowsOf(nil, 0)}}
	for _, p := range rightParts() {
		l := []impl.Part{p}
		out = append(out, planAndKeys{l, rowsOf(l, 100)})
	}
	for _, l := range pairPlans() {
		out = append(out, planAndKeys{l, rowsOf(l, 4)})
	}
	for _, l := range longPlans() {
		out = append(out, planAndKeys{l, rowsOf(l, 2)})
	}
	return out
}

// noRow asks that DecodeRow refuses, with nothing beside it.
func noRow(t *testing.T, what string, l []impl.Part, b string) {
	t.Helper()
	if row, ok := impl.DecodeRow(l, []byte(b)); len(row) != 0 || ok {
		t.Errorf("%s: DecodeRow(%+v, %x) = %#v, %v", what, l, b, row, ok)
	}
}

// noBytes asks that a row is not right, and has no bytes.
func noBytes(t *testing.T, what string, l []impl.Part, row []impl.Val) {
	t.Helper()
	if impl.RowOk(l, row) {
		t.Errorf("%s: RowOk(%+v, %#v)", what, l, row)
	}
	if got := impl.EncodeRow(l, row); len(got) != 0 {
		t.Errorf("%s: EncodeRow(%+v, %#v) = %x", what, l, row, got)
	}
}

func TestMaxRow(t *testing.T) {
	if impl.MaxRow != 60 {
		t.Error(impl.MaxRow)
	}
}

func TestRowOk(t *testing.T) {
	l := []impl.Part{{Col: 2, Type: impl.TText}, {Col: 0, Type: impl.TInt, Null: true, Desc: true}, {Col: 2, Type: impl.TBool}}
	a, five, yes := textVal("a"), whole(5), flag(1)
	cases := []struct {
		name string
		row  []impl.Val
		want bool
	}{
		{"as many values as parts", []impl.Val{a, five, yes}, true},
		{"nothing where it may be", []impl.Val{a, nothing(), yes}, true},
		{"a text of as many bytes as it may have", []impl.Val{textVal(strings.Repeat("m", impl.MaxText)), five, yes}, true},
		{"no values", nil, false},
		{"one value", []impl.Val{a}, false},
		{"one value fewer", []impl.Val{a, five}, false},
		{"one value more", []impl.Val{a, five, yes, yes}, false},
		{"nothing as one value more", []impl.Val{a, five, yes, nothing()}, false},
		{"twice as many", []impl.Val{a, five, yes, a, five, yes}, false},
		{"the first does not fit", []impl.Val{five, five, yes}, false},
		{"the middle one does not fit", []impl.Val{a, a, yes}, false},
		{"the last does not fit", []impl.Val{a, five, five}, false},
		{"nothing where it may not be", []impl.Val{nothing(), five, yes}, false},
		{"nothing as the last", []impl.Val{a, five, nothing()}, false},
		{"all of them nothing", []impl.Val{nothing(), nothing(), nothing()}, false},
		{"a number one above its range", []impl.Val{a, whole(2147483648), yes}, false},
		{"a text of one byte more", []impl.Val{textVal(strings.Repeat("m", impl.MaxText+1)), five, yes}, false},
		{"a flag that is none", []impl.Val{a, five, flag(2)}, false},
		{"the values in the order of the columns", []impl.Val{five, a, yes}, false},
	}
	for _, c := range cases {
		if got := impl.RowOk(l, c.row); got != c.want {
			t.Errorf("%s: %v", c.name, got)
		}
		if got := impl.EncodeRow(l, c.row); len(got) > 0 != c.want {
			t.Errorf("%s: %x", c.name, got)
		}
	}
}

func TestRowOkOfNoPart(t *testing.T) {
	if !impl.RowOk(nil, nil) || !impl.RowOk([]impl.Part{}, []impl.Val{}) {
		t.Error("a row of no value is not right by a plan of no part")
	}
	for _, v := range []impl.Val{nothing(), whole(5), {K: 5}} {
		noBytes(t, "a value of no part", nil, []impl.Val{v})
	}
}

func TestRowOkOfCounts(t *testing.T) {
	for n := range 12 {
		vals := someKey(manyParts(n))
		for parts := range 12 {
			want := parts == n && n <= mostParts
			if got := impl.RowOk(manyParts(parts), vals); got != want {
				t.Errorf("%d values by %d parts: %v", n, parts, got)
			}
		}
	}
}

func TestWhatIsRowOk(t *testing.T) {
	for _, l := range pairPlans() {
		fine := someKey(l)
		for _, v := range allVals() {
			if got, want := impl.RowOk(l, []impl.Val{v, fine[1]}), impl.Fits(l[0], v); got != want {
				t.Errorf("%+v: %#v first: %v", l, v, got)
			}
			if got, want := impl.RowOk(l, []impl.Val{fine[0], v}), impl.Fits(l[1], v); got != want {
				t.Errorf("%+v: %#v last: %v", l, v, got)
			}
			if impl.RowOk(l, []impl.Val{v}) || impl.RowOk(l, append(slices.Clone(fine), v)) {
				t.Errorf("%+v: %#v alone, or behind the last", l, v)
			}
		}
	}
}

// A plan that is not right has no row, though the values fit its parts as far as these are right.
func TestRowsOfWrongPlans(t *testing.T) {
	for _, n := range []int{7, 8, 100} {
		l := manyParts(n)
		row := someKey(l)
		noBytes(t, "too many parts", l, row)
		noBytes(t, "too many parts, and fewer values", l, row[:mostParts])
		noBytes(t, "too many parts, and no value", l, nil)
	}
	for at := range mostParts {
		for _, wrong := range append(wrongParts(), impl.Part{}) {
			l := manyParts(mostParts)
			row := someKey(l)
			l[at] = wrong
			noBytes(t, "a wrong part", l, row)
			row[at] = nothing()
			noBytes(t, "a wrong part, and nothing there", l, row)
			noBytes(t, "a wrong part, and fewer values", l, row[:at])
		}
	}
	noBytes(t, "a part of no column", []impl.Part{{Col: 10, Type: impl.TInt}}, []impl.Val{whole(5)})
}

func TestEncodeRow(t *testing.T) {
	l := []impl.Part{
		{Col: 0, Type: impl.TInt},
		{Col: 1, Type: impl.TNum, Null: true},
		{Col: 2, Type: impl.TText},
		{Col: 3, Type: impl.TBool, Null: true},
		{Col: 4, Type: impl.TText, Null: true, Desc: true},
		{Col: 9, Type: impl.TBool, Desc: true},
	}
	cases := []struct {
		name string
		row  []impl.Val
		body string
	}{
		{"every kind", []impl.Val{whole(-2), number(300), textVal("a\x00"), flag(0), textVal("xyz"), flag(1)}, "\x06\x01\x7e\xfe\x02\x82\x01\x2c\x03\x02a\x00\x04\x00\x03\x03xyz\x04\x01"},
		{"nothing among them", []impl.Val{whole(0), nothing(), textVal(""), nothing(), nothing(), flag(0)}, "\x06\x01\x80\x00\x03\x00\x00\x00\x04\x00"},
		{"numbers below 0", []impl.Val{whole(-1), number(-256), textVal("-"), flag(1), textVal(""), flag(0)}, "\x06\x01\x7f\x02\x7e\x00\x03\x01-\x04\x01\x03\x00\x04\x00"},
	}
	for _, c := range cases {
		if got := impl.EncodeRow(l, c.row); string(got) != summed(c.body) {
			t.Errorf("%s: %x", c.name, got)
		}
	}
}

// The sums are written out here, so that nothing of it hangs on how they are made.
func TestEncodeRowWithItsSum(t *testing.T) {
	if got := impl.EncodeRow(nil, nil); string(got) != "\x00\x52\x7d\x53\x51" {
		t.Errorf("no value: %x", got)
	}
	l := []impl.Part{{Type: impl.TInt}, {Col: 1, Type: impl.TText, Null: true}, {Col: 2, Type: impl.TBool}}
	row := []impl.Val{whole(-2), nothing(), flag(1)}
	if got := impl.EncodeRow(l, row); string(got) != "\x03\x01\x7e\xfe\x00\x04\x01"+"\x53\x77\x00\x5a" {
		t.Errorf("three values: %x", got)
	}
}

func TestEncodeRowBytes(t *testing.T) {
	for _, c := range plansAndRows() {
		for _, r := range c.keys {
			if !impl.RowOk(c.l, r.vals) {
				t.Fatalf("RowOk(%+v, %#v)", c.l, r.vals)
			}
			if got := impl.EncodeRow(c.l, r.vals); string(got) != r.want {
				t.Fatalf("EncodeRow(%+v, %#v) = %x", c.l, r.vals, got)
			}
		}
	}
}

// Neither the column, nor whether it may be nothing, nor which comes first, turns a row's bytes.
func TestRowsGoByTheirValuesAlone(t *testing.T) {
	for kind := impl.TInt; kind <= impl.TBool; kind++ {
		for _, c := range rowVals(kind) {
			for _, p := range rightParts() {
				if p.Type != kind {
					continue
				}
				for col := range 10 {
					p.Col = col
					got := impl.EncodeRow([]impl.Part{p}, []impl.Val{c.v})
					if string(got) != summed("\x01"+c.want) {
						t.Errorf("%+v: %#v is %x", p, c.v, got)
					}
				}
			}
		}
	}
}

func TestEncodeRowOfWhatIsNotRight(t *testing.T) {
	for _, l := range longPlans() {
		for at := range l {
			for _, v := range allVals() {
				if impl.Fits(l[at], v) {
					continue
				}
				row := someKey(l)
				row[at] = v
				noBytes(t, "a value that does not fit", l, row)
			}
			noBytes(t, "fewer values", l, someKey(l)[:at])
		}
		for _, v := range []impl.Val{nothing(), whole(5), textVal("a"), {K: 5}} {
			noBytes(t, "one value more", l, append(someKey(l), v))
		}
	}
}

func TestRowsComeBack(t *testing.T) {
	for _, c := range plansAndRows() {
		for _, r := range c.keys {
			b := impl.EncodeRow(c.l, r.vals)
			if row, ok := impl.DecodeRow(c.l, b); !ok || !slices.Equal(row, r.vals) {
				t.Fatalf("DecodeRow(%+v, %x) = %#v, %v", c.l, b, row, ok)
			}
		}
	}
}

func TestAllValsOfARowComeBack(t *testing.T) {
	for _, p := range rightParts() {
		l := []impl.Part{p, p}
		for _, v := range allVals() {
			if !impl.Fits(p, v) {
				continue
			}
			b := impl.EncodeRow(l, []impl.Val{v, v})
			if row, ok := impl.DecodeRow(l, b); !ok || !slices.Equal(row, []impl.Val{v, v}) {
				t.Errorf("DecodeRow(%+v, %x) = %#v, %v", l, b, row, ok)
			}
		}
	}
}

// MaxRow holds nobody here: a row of six long texts has its bytes, and comes back.
func TestRowsOfMoreThanMaxRowBytes(t *testing.T) {
	var l []impl.Part
	var row []impl.Val
	body := "\x06"
	for i := range mostParts {
		s := strings.Repeat(string(rune('a'+i)), impl.MaxText)
		l = append(l, impl.Part{Col: i, Type: impl.TText})
		row = append(row, textVal(s))
		body += "\x03\x1e" + s
	}
	b := impl.EncodeRow(l, row)
	if string(b) != summed(body) || len(b) <= impl.MaxRow {
		t.Errorf("%d bytes: %x", len(b), b)
	}
	if back, ok := impl.DecodeRow(l, b); !ok || !slices.Equal(back, row) {
		t.Errorf("back: %#v, %v", back, ok)
	}
}

func TestRowsAtMaxRow(t *testing.T) {
	l := []impl.Part{{Type: impl.TText}, {Col: 1, Type: impl.TText}}
	for n := 49; n <= 53; n++ {
		row := []impl.Val{textVal(strings.Repeat("x", 30)), textVal(strings.Repeat("y", n-30))}
		b := impl.EncodeRow(l, row)
		if len(b) != n+9 {
			t.Errorf("texts of %d bytes: %d", n, len(b))
		}
		if back, ok := impl.DecodeRow(l, b); !ok || !slices.Equal(back, row) {
			t.Errorf("texts of %d bytes: %#v, %v", n, back, ok)
		}
	}
}

func TestRowsCutOrWithBytesBehind(t *testing.T) {
	for _, c := range plansAndRows() {
		for _, r := range c.keys {
			for n := range len(r.want) {
				noRow(t, "cut", c.l, r.want[:n])
			}
			for _, behind := range []string{"\x00", "\x01", "\xff", "\x00\x00\x00\x00", "more", r.want} {
				noRow(t, "bytes behind", c.l, r.want+behind)
				noRow(t, "bytes ahead", c.l, behind+r.want)
			}
		}
	}
}

// A body that is cut, or has bytes behind its last value, is no row, though its sum is right.
func TestBodiesCutOrWithBytesBehind(t *testing.T) {
	for _, c := range plansAndRows() {
		for _, r := range c.keys {
			body := r.want[:len(r.want)-4]
			for n := range len(body) {
				noRow(t, "a body that is cut", c.l, summed(body[:n]))
			}
			for _, behind := range []string{"\x00", "\x01", "\x04\x01", "\xff", "\x01\x80", body, r.want[len(body):]} {
				noRow(t, "a body with bytes behind", c.l, summed(body+behind))
			}
		}
	}
}

func TestRowsWithOneBitTurned(t *testing.T) {
	for _, c := range plansAndRows() {
		for _, r := range c.keys {
			b := []byte(r.want)
			for i := range b {
				for bit := range 8 {
					b[i] ^= 1 << bit
					if row, ok := impl.DecodeRow(c.l, b); len(row) != 0 || ok {
						t.Fatalf("bit %d of byte %d turned: DecodeRow(%+v, %x) = %#v, %v", bit, i, c.l, b, row, ok)
					}
					b[i] ^= 1 << bit
				}
			}
		}
	}
}

func TestDecodeRowOfWhatIsNotRight(t *testing.T) {
	number := impl.Part{Type: impl.TInt, Null: true}
	large := impl.Part{Type: impl.TNum, Null: true}
	text := impl.Part{Type: impl.TText, Null: true}
	answer := impl.Part{Type: impl.TBool, Null: true}
	cases := []struct {
		name string
		p    impl.Part
		body string
	}{
		{"a number above its range", number, "\x01\x84\x80\x00\x00\x00"},
		{"a number below its range", number, "\x01\x7b\x7f\xff\xff\xff"},
		{"a large number above its range", large, "\x02\x87\x03\x8d\x7e\xa4\xc6\x80\x01"},
		{"a large number below its range", large, "\x02\x78\xfc\x72\x81\x5b\x39\x7f\xfe"},
		{"a number with a needless byte", number, "\x01\x82\x00\x05"},
		{"a number with a needless byte alone", number, "\x01\x81\x00"},
		{"a number below 0 with a needless byte", large, "\x02\x7e\xff"},
		{"a number without its bytes", number, "\x01"},
		{"a number whose bytes are cut", number, "\x01\x82\x05"},
		{"a number in four bytes", number, "\x01\x80\x00\x00\x05"},
		{"a text of one byte more", text, "\x03\x1f" + strings.Repeat("m", 31)},
		{"a text whose bytes are cut", text, "\x03\x03ab"},
		{"a text with a needless group", text, "\x03\x82\x00ab"},
		{"a text without its count", text, "\x03"},
		{"a text that ends by a mark", text, "\x03ab\x00\x01"},
		{"a flag of 2", answer, "\x04\x02"},
		{"a flag of 255", answer, "\x04\xff"},
		{"a flag without its byte", answer, "\x04"},
		{"a flag with two bytes", answer, "\x04\x01\x00"},
		{"nothing with a byte", answer, "\x00\x00"},
		{"a kind that is none", answer, "\x05"},
		{"a kind that is none, with a byte", answer, "\x05\x01"},
		{"a kind of several groups", answer, "\x84\x02\x01"},
		{"a kind with a needless group", answer, "\x84\x00\x01"},
		{"nothing, with a needless group", text, "\x80\x00"},
		{"no kind", text, ""},
		{"a large number in a number's place", number, "\x02\x81\x05"},
		{"a number in a large number's place", large, "\x01\x81\x05"},
		{"a text in a number's place", number, "\x03\x01a"},
		{"a number in a text's place", text, "\x01\x80"},
		{"a number in a flag's place", answer, "\x01\x81\x01"},
		{"a flag in a number's place", number, "\x04\x01"},
	}
	for _, c := range cases {
		noRow(t, c.name, []impl.Part{c.p}, summed("\x01"+c.body))
		noRow(t, c.name+", first", []impl.Part{c.p, answer}, summed("\x02"+c.body+"\x04\x01"))
		noRow(t, c.name+", last", []impl.Part{answer, c.p}, summed("\x02\x04\x01"+c.body))
	}
}

func TestDecodeRowOfNothingWhereItMayNotBe(t *testing.T) {
	for _, p := range rightParts() {
		row, ok := impl.DecodeRow([]impl.Part{p}, []byte(summed("\x01\x00")))
		if ok != p.Null || p.Null && !slices.Equal(row, []impl.Val{nothing()}) || !p.Null && len(row) != 0 {
			t.Errorf("%+v: %#v, %v", p, row, ok)
		}
	}
}

// A row of one plan is a row of another one just if it is right there.
func TestDecodeRowByAnotherPlan(t *testing.T) {
	plans := plansAndRows()[:40]
	for _, c := range plans {
		for _, r := range c.keys {
			for _, other := range plans {
				want := impl.RowOk(other.l, r.vals)
				row, ok := impl.DecodeRow(other.l, []byte(r.want))
				if ok != want || ok && !slices.Equal(row, r.vals) || !ok && len(row) != 0 {
					t.Fatalf("DecodeRow(%+v, %x) = %#v, %v", other.l, r.want, row, ok)
				}
			}
		}
	}
}

func TestDecodeRowOfAnotherCount(t *testing.T) {
	for _, l := range longPlans() {
		row := someKey(l)
		good := string(impl.EncodeRow(l, row))
		body := good[1 : len(good)-4]
		for n := range 256 {
			if n != len(l) {
				noRow(t, "another count", l, summed(string([]byte{byte(n)})+body))
			}
		}
		count := string([]byte{byte(len(l))})
		for _, form := range []string{"", string([]byte{byte(128 + len(l)), 0}), string([]byte{byte(128 + len(l)), 1}), count + count, "\xff\xff\xff\xff", "\xc0\x84\x3d"} {
			noRow(t, "a count of another form", l, summed(form+body))
		}
		shorter := string(impl.EncodeRow(l[:len(l)-1], row[:len(l)-1]))
		noRow(t, "one value fewer", l, shorter)
		noRow(t, "one value fewer, with the plan's count", l, summed(count+shorter[1:len(shorter)-4]))
		noRow(t, "one value more", l[:len(l)-1], good)
		noRow(t, "one value more, with the plan's count", l[:len(l)-1], summed(shorter[:1]+body))
	}
}

// Six values are as many as a plan may have; of seven there is no row, though count, values and sum are right.
func TestDecodeRowOfWrongPlans(t *testing.T) {
	for _, n := range []int{6, 7, 8, 100} {
		body := string(impl.PutU(nil, n)) + strings.Repeat("\x04\x01", n)
		l := slices.Repeat([]impl.Part{{Type: impl.TBool}}, n)
		if n <= mostParts {
			if row, ok := impl.DecodeRow(l, []byte(summed(body))); !ok || len(row) != n {
				t.Errorf("%d parts: %#v, %v", n, row, ok)
			}
			continue
		}
		noRow(t, "too many parts", l, summed(body))
		noRow(t, "too many parts, and no bytes", l, "")
	}
	for at := range mostParts {
		for _, wrong := range append(wrongParts(), impl.Part{}) {
			l := manyParts(mostParts)
			b := string(impl.EncodeRow(l, someKey(l)))
			l[at] = wrong
			noRow(t, "a wrong part", l, b)
			noRow(t, "a wrong part, and no bytes", l, "")
		}
	}
	noRow(t, "a part of no column", []impl.Part{{Col: 10, Type: impl.TInt}}, summed("\x01\x01\x80"))
	noRow(t, "a part of no type, and nothing", []impl.Part{{Null: true}}, summed("\x01\x00"))
}

func TestDecodeRowOfNothing(t *testing.T) {
	for _, l := range append(longPlans(), nil, []impl.Part{}, []impl.Part{{Type: impl.TText, Null: true}}) {
		if row, ok := impl.DecodeRow(l, nil); len(row) != 0 || ok {
			t.Errorf("%+v: %#v, %v", l, row, ok)
		}
		noRow(t, "no bytes", l, "")
		noRow(t, "the sum of nothing", l, summed(""))
		noRow(t, "noughts", l, strings.Repeat("\x00", 20))
		for n := range 8 {
			noRow(t, "noughts", l, strings.Repeat("\x00", n))
		}
	}
}

func TestDecodeRowOfNoPart(t *testing.T) {
	for _, l := range [][]impl.Part{nil, {}} {
		if row, ok := impl.DecodeRow(l, []byte(summed("\x00"))); len(row) != 0 || !ok {
			t.Errorf("a row of no value: %#v, %v", row, ok)
		}
		for n := 1; n < 256; n++ {
			noRow(t, "another count", l, summed(string([]byte{byte(n)})))
		}
		for _, body := range []string{"\x00\x00", "\x80\x00", "\x01\x00", "\x00\x04\x01"} {
			noRow(t, "bytes of a value", l, summed(body))
		}
	}
}

// rowRead reads a body by the words alone: one byte of how many, the values, and nothing more.
func rowRead(l []impl.Part, b string) ([]impl.Val, bool) {
	if b == "" || int(b[0]) != len(l) {
		return nil, false
	}
	var out []impl.Val
	b = b[1:]
	for range l {
		v, n, ok := rowValRead(b)
		if !ok {
			return nil, false
		}
		out, b = append(out, v), b[n:]
	}
	for i, v := range out {
		if !impl.Fits(l[i], v) {
			return nil, false
		}
	}
	return out, b == ""
}

func rowValRead(b string) (impl.Val, int, bool) {
	if b == "" {
		return impl.Val{}, 0, false
	}
	switch rest := b[1:]; b[0] {
	case impl.VNull:
		return nothing(), 1, true
	case impl.VInt, impl.VNum:
		n, next, ok := varRead(rest)
		return impl.Val{K: int(b[0]), N: n}, 1 + next, ok
	case impl.VText:
		if rest != "" && int(rest[0]) < len(rest) && rest[0] <= impl.MaxText {
			end := 1 + int(rest[0])
			return textVal(rest[1:end]), 1 + end, true
		}
	case impl.VBool:
		if rest != "" && rest[0] <= 1 {
			return flag(int(rest[0])), 2, true
		}
	}
	return impl.Val{}, 0, false
}

// All short bodies of those bytes that the forms lean on, with right sums: what is read is just what is made.
func TestDecodeRowReadsJustWhatIsMade(t *testing.T) {
	bodies := textsOf("\x00\x01\x02\x03\x04\x05\x7f\x80\x81", 4)
	plans := [][]impl.Part{nil}
	for _, p := range rightParts() {
		plans = append(plans, []impl.Part{p})
	}
	plans = append(plans, slices.Concat(pairPlans()[:64:64], longPlans())...)
	for _, body := range bodies {
		b := summed(body)
		for _, l := range plans {
			want, wantOk := rowRead(l, body)
			if !wantOk {
				want = nil
			}
			row, ok := impl.DecodeRow(l, []byte(b))
			if ok != wantOk || !slices.Equal(row, want) {
				t.Fatalf("DecodeRow(%+v, %x) = %#v, %v", l, b, row, ok)
			}
			if ok && string(impl.EncodeRow(l, row)) != b {
				t.Fatalf("DecodeRow(%+v, %x) = %#v, whose bytes are %x", l, b, row, impl.EncodeRow(l, row))
			}
		}
	}
}

// Each answer hangs on its own call: what was read ahead, whole or not, leaves nothing behind.
func TestRowsReadAgain(t *testing.T) {
	l := []impl.Part{{Type: impl.TInt}, {Col: 1, Type: impl.TText, Null: true}}
	first := impl.EncodeRow(l, []impl.Val{whole(5), textVal("abc")})
	second := impl.EncodeRow(l, []impl.Val{whole(-70000), nothing()})
	for range 3 {
		if row, ok := impl.DecodeRow(l, first); !ok || !slices.Equal(row, []impl.Val{whole(5), textVal("abc")}) {
			t.Errorf("the first: %#v, %v", row, ok)
		}
		noRow(t, "between them", l, string(second[:len(second)-1]))
		if row, ok := impl.DecodeRow(l, second); !ok || !slices.Equal(row, []impl.Val{whole(-70000), nothing()}) {
			t.Errorf("the second: %#v, %v", row, ok)
		}
	}
}

func TestRowsWriteIntoNoArgument(t *testing.T) {
	for _, c := range keyArgs() {
		for _, k := range c.keys {
			l, row := roomyParts(c.l), roomyVals(k.vals)
			impl.RowOk(l, row)
			overwrite(impl.EncodeRow(l, row))
			wholeVals(t, "a row", row, k.vals)
			wholeParts(t, "a plan", l, c.l)
		}
	}
}

func TestDecodeRowWritesIntoNoArgument(t *testing.T) {
	for _, c := range keyArgs() {
		good := string(impl.EncodeRow(c.l, someKey(c.l)))
		for _, s := range []string{"", good, good + "\x00", good[:len(good)/2], summed(""), summed("\x01\x05"), "\xff\xff\xff\xff\xff"} {
			l, b := roomyParts(c.l), spared(s)
			row, _ := impl.DecodeRow(l, b)
			overwriteVals(row)
			untouched(t, "DecodeRow", b, s)
			wholeParts(t, "DecodeRow", l, c.l)
		}
	}
}

func TestRowAnswersAreNewMemory(t *testing.T) {
	for _, c := range keyArgs() {
		for _, k := range c.keys {
			row := slices.Clone(k.vals)
			first, second := impl.EncodeRow(c.l, row), impl.EncodeRow(c.l, row)
			want := string(second)
			overwrite(first)
			overwriteVals(row)
			if string(second) != want {
				t.Errorf("%+v, %#v: the bytes turned into %x", c.l, k.vals, second)
			}
		}
		b := impl.EncodeRow(c.l, someKey(c.l))
		first, ok := impl.DecodeRow(c.l, b)
		second, _ := impl.DecodeRow(c.l, b)
		want := slices.Clone(second)
		overwriteVals(first)
		overwrite(b)
		if ok && (!slices.Equal(second, want) || !slices.Equal(second, someKey(c.l))) {
			t.Errorf("%+v: what was read turned into %#v", c.l, second)
		}
	}
}

func TestTextsOfRowsAreNewMemory(t *testing.T) {
	l := []impl.Part{{Col: 0, Type: impl.TText}, {Col: 1, Type: impl.TText, Desc: true}}
	row := []impl.Val{textVal(strings.Repeat("x\x00", 5)), textVal(strings.Repeat("y", 20))}
	b := impl.EncodeRow(l, row)
	back, ok := impl.DecodeRow(l, b)
	overwrite(b)
	if !ok || !slices.Equal(back, row) {
		t.Errorf("the texts turned into %#v with their bytes", back)
	}
}

// The spare room goes on with what would make each of these another one.
func TestRowSpareRoomIsNotRead(t *testing.T) {
	for _, l := range longPlans() {
		row := someKey(l)
		b := impl.EncodeRow(l, row)
		for n := range b {
			if back, ok := impl.DecodeRow(l, b[:n]); len(back) != 0 || ok {
				t.Errorf("%d of %d bytes: %#v, %v", n, len(b), back, ok)
			}
		}
		for n := range l {
			if impl.RowOk(l, row[:n]) || impl.RowOk(l[:n], row) || !impl.RowOk(l[:n], row[:n]) {
				t.Errorf("what is behind %d parts or values is read", n)
			}
			part := impl.EncodeRow(l[:n], row[:n])
			if back, ok := impl.DecodeRow(l[:n], part); !ok || !slices.Equal(back, row[:n]) {
				t.Errorf("%d parts: %#v, %v", n, back, ok)
			}
		}
	}
}
