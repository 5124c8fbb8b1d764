package tests

import (
	"math"
	"slices"
	"strings"
	"testing"

	"loop.example/g00322/impl"
)

var (
	_ func(impl.Part) bool                               = impl.PartOk
	_ func(impl.Part, impl.Val) bool                     = impl.Fits
	_ func([]byte, impl.Part, impl.Val) []byte           = impl.PutPart
	_ func([]byte, impl.Part, int) (impl.Val, int, bool) = impl.GetPart
	_ func(impl.Part, impl.Val, impl.Val) bool           = impl.LessPart
	_ struct {
		Col  int
		Type int
		Null bool
		Desc bool
	} = impl.Part{}
)

// partVal is a value and its bytes in a part that may not be nothing, the least first.
type partVal struct {
	v    impl.Val
	want string
}

// partVals has, ascending, values of one type.
func partVals(kind int) []partVal {
	most := strings.Repeat("m", impl.MaxText)
	noughts := strings.Repeat("\x00", impl.MaxText)
	switch kind {
	case impl.TInt:
		return []partVal{
			{whole(-2147483648), "\x00\x00\x00\x00"},
			{whole(-2147483647), "\x00\x00\x00\x01"},
			{whole(-256), "\x7f\xff\xff\x00"},
			{whole(-1), "\x7f\xff\xff\xff"},
			{whole(0), "\x80\x00\x00\x00"},
			{whole(5), "\x80\x00\x00\x05"},
			{whole(305419896), "\x92\x34\x56\x78"},
			{whole(2147483647), "\xff\xff\xff\xff"},
		}
	case impl.TNum:
		return []partVal{
			{number(-billiard), "\x78\xfc\x72\x81\x5b\x39\x80\x00"},
			{number(-257), "\x7d\xfe\xff"},
			{number(-256), "\x7e\x00"},
			{number(-2), "\x7e\xfe"},
			{number(-1), "\x7f"},
			{number(0), "\x80"},
			{number(1), "\x81\x01"},
			{number(255), "\x81\xff"},
			{number(256), "\x82\x01\x00"},
			{number(2147483648), "\x84\x80\x00\x00\x00"},
			{number(billiard), "\x87\x03\x8d\x7e\xa4\xc6\x80\x00"},
		}
	case impl.TText:
		return []partVal{
			{textVal(""), "\x00\x01"},
			{textVal("\x00"), "\x00\xff\x00\x01"},
			{textVal(noughts), strings.Repeat("\x00\xff", impl.MaxText) + "\x00\x01"},
			{textVal("\x00\x01"), "\x00\xff\x01\x00\x01"},
			{textVal("\x01"), "\x01\x00\x01"},
			{textVal("a"), "a\x00\x01"},
			{textVal("a\x00b"), "a\x00\xffb\x00\x01"},
			{textVal("ab"), "ab\x00\x01"},
			{textVal(most), most + "\x00\x01"},
			{textVal("\u00e9"), "\xc3\xa9\x00\x01"},
			{textVal("\xff"), "\xff\x00\x01"},
			{textVal("\xff\x00"), "\xff\x00\xff\x00\x01"},
		}
	}
	return []partVal{{flag(0), "\x00"}, {flag(1), "\x01"}}
}

// rightParts has all parts but for their columns, of which each has another one.
func rightParts() []impl.Part {
	var out []impl.Part
	for kind := impl.TInt; kind <= impl.TBool; kind++ {
		for _, null := range []bool{false, true} {
			for _, desc := range []bool{false, true} {
				out = append(out, impl.Part{Col: len(out) % 10, Type: kind, Null: null, Desc: desc})
			}
		}
	}
	return out
}

func wrongParts() []impl.Part {
	var out []impl.Part
	for _, p := range rightParts() {
		for _, col := range []int{math.MinInt, -1, 10, 256, math.MaxInt} {
			out = append(out, impl.Part{Col: col, Type: p.Type, Null: p.Null, Desc: p.Desc})
		}
		for _, kind := range []int{math.MinInt, -1, 0, 5, 256 + p.Type, math.MaxInt} {
			out = append(out, impl.Part{Col: p.Col, Type: kind, Null: p.Null, Desc: p.Desc})
		}
	}
	return out
}

// turned has all bits of a text's bytes turned.
func turned(s string) string {
	b := []byte(s)
	for i := range b {
		b[i] = 255 - b[i]
	}
	return string(b)
}

// inPart has the bytes of a part's value: a byte ahead where it may be nothing, and all of it turned where the greatest comes first.
func inPart(p impl.Part, form string) string {
	if p.Null {
		form = "\x01" + form
	}
	if p.Desc {
		form = turned(form)
	}
	return form
}

// valsOfPart has, ascending, values that fit a part, with their bytes there.
func valsOfPart(p impl.Part) []partVal {
	var out []partVal
	if p.Null && p.Desc {
		out = append(out, partVal{nothing(), "\xff"})
	}
	if p.Null && !p.Desc {
		out = append(out, partVal{nothing(), "\x00"})
	}
	for _, c := range partVals(p.Type) {
		out = append(out, partVal{c.v, inPart(p, c.want)})
	}
	return out
}

// noPart asks that GetPart refuses, with nothing beside it.
func noPart(t *testing.T, what string, b []byte, p impl.Part, at int) {
	t.Helper()
	if v, next, ok := impl.GetPart(b, p, at); v != (impl.Val{}) || next != 0 || ok {
		t.Errorf("%s: GetPart(%x, %+v, %d) = %#v, %d, %v", what, b, p, at, v, next, ok)
	}
}

func TestTypesOfParts(t *testing.T) {
	for i, kind := range []int{impl.TInt, impl.TNum, impl.TText, impl.TBool} {
		if kind != i+1 {
			t.Errorf("type %d is %d", i+1, kind)
		}
	}
}

func TestPartOk(t *testing.T) {
	for _, p := range rightParts() {
		for col := range 10 {
			p.Col = col
			if !impl.PartOk(p) {
				t.Errorf("%+v is not right", p)
			}
		}
	}
	for _, p := range wrongParts() {
		if impl.PartOk(p) {
			t.Errorf("%+v is right", p)
		}
	}
	if impl.PartOk(impl.Part{}) {
		t.Error("the zero one is right")
	}
}

func TestPartOkAtItsEnds(t *testing.T) {
	cases := []struct {
		col  int
		kind int
		want bool
	}{
		{-1, 1, false}, {0, 1, true}, {9, 1, true}, {10, 1, false},
		{-1, 4, false}, {0, 4, true}, {9, 4, true}, {10, 4, false},
		{-1, 0, false}, {0, 0, false}, {9, 0, false}, {10, 0, false},
		{-1, 5, false}, {0, 5, false}, {9, 5, false}, {10, 5, false},
	}
	for _, c := range cases {
		for _, null := range []bool{false, true} {
			for _, desc := range []bool{false, true} {
				p := impl.Part{Col: c.col, Type: c.kind, Null: null, Desc: desc}
				if got := impl.PartOk(p); got != c.want {
					t.Errorf("PartOk(%+v) = %v", p, got)
				}
			}
		}
	}
}

func TestFits(t *testing.T) {
	num := impl.Part{Type: impl.TNum}
	maybe := impl.Part{Type: impl.TNum, Null: true}
	cases := []struct {
		name string
		p    impl.Part
		v    impl.Val
		want bool
	}{
		{"a value of the type", num, number(5), true},
		{"a value of the type, where it may be nothing", maybe, number(5), true},
		{"nothing where it may not be", num, nothing(), false},
		{"nothing where it may be", maybe, nothing(), true},
		{"a value of another type", num, whole(5), false},
		{"a value of another type, where it may be nothing", maybe, whole(5), false},
		{"the greatest", num, number(billiard), true},
		{"above the greatest", num, number(billiard + 1), false},
		{"above the greatest, where it may be nothing", maybe, number(billiard + 1), false},
		{"a text beside the number", num, impl.Val{K: impl.VNum, N: 5, S: "5"}, false},
		{"nothing, with a number", maybe, impl.Val{N: 1}, false},
		{"nothing, with a text", maybe, impl.Val{S: "a"}, false},
		{"no kind", maybe, impl.Val{K: 5}, false},
		{"no kind, and no type", impl.Part{Type: 5}, impl.Val{K: 5}, false},
	}
	for _, c := range cases {
		for _, desc := range []bool{false, true} {
			c.p.Desc = desc
			if got := impl.Fits(c.p, c.v); got != c.want {
				t.Errorf("%s: Fits(%+v, %#v) = %v", c.name, c.p, c.v, got)
			}
		}
	}
}

// All values, and all parts, held against the words.
func TestWhatFits(t *testing.T) {
	wrong := wrongVals()
	for _, p := range slices.Concat(rightParts(), wrongParts()) {
		for _, v := range allVals() {
			want := !slices.Contains(wrong, v) && (v.K == p.Type || p.Null && v == impl.Val{})
			if got := impl.Fits(p, v); got != want {
				t.Errorf("Fits(%+v, %#v) = %v", p, v, got)
			}
		}
	}
}

func TestPutPartBytes(t *testing.T) {
	for _, p := range rightParts() {
		for _, c := range valsOfPart(p) {
			for _, ahead := range []string{"", "\x00", "\xff", "ahead\x00\x01", strings.Repeat("m", 1000)} {
				if got := impl.PutPart([]byte(ahead), p, c.v); string(got) != ahead+c.want {
					t.Errorf("PutPart(%x, %+v, %#v) = %x", ahead, p, c.v, got)
				}
			}
			if got := impl.PutPart(nil, p, c.v); string(got) != c.want {
				t.Errorf("PutPart(nil, %+v, %#v) = %x", p, c.v, got)
			}
		}
	}
}

// What the column is does not stand in the bytes.
func TestColumnsMakeNoOtherBytes(t *testing.T) {
	for _, p := range rightParts() {
		for _, c := range valsOfPart(p) {
			for col := range 10 {
				p.Col = col
				b := impl.PutPart([]byte("k"), p, c.v)
				v, next, ok := impl.GetPart(b, p, 1)
				if string(b) != "k"+c.want || v != c.v || next != len(b) || !ok {
					t.Errorf("%+v: %#v as %x came back as %#v, %d, %v", p, c.v, b, v, next, ok)
				}
			}
		}
	}
}

func TestPutPartOfWhatDoesNotFit(t *testing.T) {
	for _, p := range rightParts() {
		for _, v := range allVals() {
			if impl.Fits(p, v) {
				continue
			}
			for _, ahead := range []string{"", "\x00", "ahead"} {
				if got := impl.PutPart([]byte(ahead), p, v); string(got) != ahead {
					t.Errorf("PutPart(%x, %+v, %#v) = %x", ahead, p, v, got)
				}
			}
		}
	}
}

func TestPutPartOfWrongParts(t *testing.T) {
	vals := append(allVals(), impl.Val{K: 5}, nothing(), whole(5), flag(1))
	for _, p := range wrongParts() {
		for _, v := range vals {
			if got := impl.PutPart([]byte("ahead"), p, v); string(got) != "ahead" {
				t.Errorf("PutPart(ahead, %+v, %#v) = %x", p, v, got)
			}
			if got := impl.PutPart(nil, p, v); len(got) != 0 {
				t.Errorf("PutPart(nil, %+v, %#v) = %x", p, v, got)
			}
		}
	}
}

func TestPartsComeBack(t *testing.T) {
	for _, p := range rightParts() {
		for _, c := range valsOfPart(p) {
			for _, ahead := range []string{"", "\x00", "\xff\xfe", "a\x00\x01"} {
				for _, behind := range []string{"", "\x00", "\x01", "\xff", "\x00\x01", "\xff\xfe\x00\x01more"} {
					b := []byte(ahead + c.want + behind)
					v, next, ok := impl.GetPart(b, p, len(ahead))
					if v != c.v || next != len(ahead)+len(c.want) || !ok {
						t.Errorf("GetPart(%x, %+v, %d) = %#v, %d, %v", b, p, len(ahead), v, next, ok)
					}
				}
			}
		}
	}
}

// What fits, of all values, comes back; it is never the beginning of another one's bytes, and it stands where it is to stand.
func TestWhatFitsComesBackInOrder(t *testing.T) {
	for _, p := range rightParts() {
		var fits []impl.Val
		var bytesOf []string
		for _, v := range allVals() {
			if impl.Fits(p, v) {
				fits = append(fits, v)
				bytesOf = append(bytesOf, string(impl.PutPart(nil, p, v)))
			}
		}
		for i, a := range fits {
			v, next, ok := impl.GetPart([]byte(bytesOf[i]+"\x00\x01\xff"), p, 0)
			if v != a || next != len(bytesOf[i]) || !ok {
				t.Fatalf("%+v: %#v as %x came back as %#v, %d, %v", p, a, bytesOf[i], v, next, ok)
			}
			for j, b := range fits {
				if got, want := bytesOf[i] < bytesOf[j], impl.LessPart(p, a, b); got != want {
					t.Fatalf("%+v: %#v ahead of %#v: %v, as %x and %x", p, a, b, got, bytesOf[i], bytesOf[j])
				}
				if i != j && strings.HasPrefix(bytesOf[j], bytesOf[i]) {
					t.Fatalf("%+v: %#v, as %x, is the beginning of %#v, as %x", p, a, bytesOf[i], b, bytesOf[j])
				}
			}
		}
	}
}

func TestNumbersOfPartsComeBack(t *testing.T) {
	for _, p := range rightParts() {
		kind, least, most := impl.VInt, leastFix, mostFix
		if p.Type == impl.TNum {
			kind, least, most = impl.VNum, -billiard, billiard
		}
		if p.Type > impl.TNum {
			continue
		}
		for _, n := range numbersAround(least, most) {
			want := impl.Val{K: kind, N: n}
			b := impl.PutPart([]byte("\x01"), p, want)
			if v, next, ok := impl.GetPart(b, p, 1); v != want || next != len(b) || !ok {
				t.Errorf("%+v: %d as %x came back as %#v, %d, %v", p, n, b, v, next, ok)
			}
		}
	}
}

func TestPartsStandBehindEachOther(t *testing.T) {
	b := []byte("ahead")
	for _, p := range rightParts() {
		for _, c := range valsOfPart(p) {
			b = impl.PutPart(b, p, c.v)
		}
	}
	at := len("ahead")
	for _, p := range rightParts() {
		for _, c := range valsOfPart(p) {
			v, next, ok := impl.GetPart(b, p, at)
			if v != c.v || !ok {
				t.Fatalf("%+v at %d: %#v, %v, not %#v", p, at, v, ok, c.v)
			}
			at = next
		}
	}
	if at != len(b) {
		t.Errorf("the last ends at %d of %d", at, len(b))
	}
}

func TestPartsAreReadAtTheirPlaceAlone(t *testing.T) {
	for _, p := range rightParts() {
		for _, c := range valsOfPart(p) {
			b := []byte(c.want)
			for _, at := range []int{math.MinInt, math.MinInt + 1, -len(b), -2, -1, len(b), len(b) + 1, len(b) + 8, math.MaxInt - 4, math.MaxInt - 1, math.MaxInt} {
				noPart(t, "no place", b, p, at)
			}
		}
		for _, at := range []int{math.MinInt, -1, 0, 1, math.MaxInt} {
			noPart(t, "nothing there", nil, p, at)
		}
	}
}

func TestEveryCutPartIsNone(t *testing.T) {
	for _, p := range rightParts() {
		for _, c := range valsOfPart(p) {
			for cut := range len(c.want) {
				noPart(t, "cut", []byte("ab"+c.want[:cut]), p, 2)
			}
		}
	}
}

func TestGetPartOfWrongParts(t *testing.T) {
	for _, p := range wrongParts() {
		for _, b := range []string{"", "\x00", "\x01", "\xff", "\xfe", "\x80", "\x00\x01", "\xff\xfe", "\x01\x00\x01", "\x80\x00\x00\x05", "\x01\x80\x00\x00\x05", "\x7f\xff\xff\xfa"} {
			noPart(t, "a wrong part", []byte(b), p, 0)
		}
	}
	for _, right := range rightParts() {
		for _, c := range valsOfPart(right) {
			wrong := right
			wrong.Col = 10
			noPart(t, "no column", []byte(c.want), wrong, 0)
			wrong.Col = -1
			noPart(t, "no column", []byte(c.want), wrong, 0)
		}
	}
}

// The byte ahead is 0 or 1: all others are refused, whatever follows.
func TestByteAheadOfWhatMayBeNothing(t *testing.T) {
	for _, p := range rightParts() {
		if !p.Null {
			continue
		}
		for _, c := range partVals(p.Type) {
			for x := range 256 {
				form := string([]byte{byte(x)}) + c.want
				if p.Desc {
					form = turned(form)
				}
				b := []byte("k" + form)
				v, next, ok := impl.GetPart(b, p, 1)
				switch x {
				case 0:
					if v != (impl.Val{}) || next != 2 || !ok {
						t.Errorf("GetPart(%x, %+v, 1) = %#v, %d, %v", b, p, v, next, ok)
					}
				case 1:
					if v != c.v || next != len(b) || !ok {
						t.Errorf("GetPart(%x, %+v, 1) = %#v, %d, %v", b, p, v, next, ok)
					}
				default:
					noPart(t, "a byte ahead", b, p, 1)
				}
			}
		}
	}
}

func TestByteOfBool(t *testing.T) {
	for _, p := range rightParts() {
		if p.Type != impl.TBool {
			continue
		}
		for x := range 256 {
			b := []byte("k" + inPart(p, string([]byte{byte(x)})) + "\x00\x01")
			if x > 1 {
				noPart(t, "a byte of neither", b, p, 1)
				continue
			}
			if v, next, ok := impl.GetPart(b, p, 1); v != flag(x) || next != len(b)-2 || !ok {
				t.Errorf("GetPart(%x, %+v, 1) = %#v, %d, %v", b, p, v, next, ok)
			}
		}
	}
}

func TestGetPartRefusesNumbersAndTexts(t *testing.T) {
	long := strings.Repeat("m", impl.MaxText+1)
	cases := []struct {
		name string
		kind int
		form string
	}{
		{"a needless byte", impl.TNum, "\x81\x00"},
		{"a needless byte, below 0", impl.TNum, "\x7e\xff"},
		{"a needless byte ahead of another one", impl.TNum, "\x82\x00\x01"},
		{"one above the most", impl.TNum, "\x87\x03\x8d\x7e\xa4\xc6\x80\x01"},
		{"one below the least", impl.TNum, "\x78\xfc\x72\x81\x5b\x39\x7f\xff"},
		{"eight bytes", impl.TNum, "\x88\x01\x00\x00\x00\x00\x00\x00\x00"},
		{"three bytes of four", impl.TInt, "\x80\x00\x00"},
		{"a text of one byte more", impl.TText, long + "\x00\x01"},
		{"a long text", impl.TText, strings.Repeat("m", 1000) + "\x00\x01"},
		{"a text of one 0 more", impl.TText, strings.Repeat("\x00\xff", impl.MaxText+1) + "\x00\x01"},
		{"a text of one byte more, that is no rune", impl.TText, strings.Repeat("\xc3", impl.MaxText+1) + "\x00\x01"},
		{"runes that are too many bytes", impl.TText, strings.Repeat("\u00e9", 16) + "\x00\x01"},
		{"no end", impl.TText, "ab"},
		{"half an end", impl.TText, "ab\x00"},
		{"something else behind a 0", impl.TText, "a\x00\x02\x00\x01"},
		{"a 0 behind a 0", impl.TText, "a\x00\x00\x01"},
	}
	for _, c := range cases {
		for _, p := range rightParts() {
			if p.Type == c.kind {
				noPart(t, c.name, []byte("k"+inPart(p, c.form)), p, 1)
			}
		}
	}
}

// partRead reads the value that b begins with by the words alone: its byte ahead, and the form of its type.
func partRead(b string, p impl.Part) (impl.Val, int, bool) {
	if p.Desc {
		b = turned(b)
	}
	ahead := 0
	if p.Null {
		if b == "" || b[0] > 1 {
			return impl.Val{}, 0, false
		}
		if b[0] == 0 {
			return impl.Val{}, 1, true
		}
		ahead = 1
	}
	v, n, ok := formRead(b[ahead:], p.Type)
	if !ok {
		return impl.Val{}, 0, false
	}
	return v, ahead + n, true
}

func formRead(b string, kind int) (impl.Val, int, bool) {
	switch kind {
	case impl.TInt:
		if len(b) < 4 {
			return impl.Val{}, 0, false
		}
		return whole(((int(b[0])*256+int(b[1]))*256+int(b[2]))*256 + int(b[3]) - 2147483648), 4, true
	case impl.TNum:
		n, next, ok := varRead(b)
		return number(n), next, ok
	case impl.TBool:
		if b == "" || b[0] > 1 {
			return impl.Val{}, 0, false
		}
		return flag(int(b[0])), 1, true
	}
	for end := range len(b) - 1 {
		inner := strings.ReplaceAll(b[:end], "\x00\xff", "")
		if b[end:end+2] == "\x00\x01" && !strings.Contains(inner, "\x00") {
			return textVal(strings.ReplaceAll(b[:end], "\x00\xff", "\x00")), end + 2, true
		}
	}
	return impl.Val{}, 0, false
}

// All short bytes of those that the forms lean on: what is read is just what is put.
func TestGetPartReadsJustWhatIsPut(t *testing.T) {
	for _, p := range rightParts() {
		for _, b := range textsOf("\x00\x01\x02\x7e\x7f\x80\x81\xfe\xff", 4) {
			wantV, wantNext, wantOk := partRead(b, p)
			v, next, ok := impl.GetPart([]byte(b), p, 0)
			if v != wantV || next != wantNext || ok != wantOk {
				t.Fatalf("GetPart(%x, %+v, 0) = %#v, %d, %v", b, p, v, next, ok)
			}
			if ok && string(impl.PutPart(nil, p, v)) != b[:next] {
				t.Fatalf("GetPart(%x, %+v, 0) = %#v, which is put as %x", b, p, v, impl.PutPart(nil, p, v))
			}
		}
	}
}

func TestLessPart(t *testing.T) {
	five, six := whole(5), whole(6)
	cases := []struct {
		name string
		a, b impl.Val
		want bool
	}{
		{"the lower first", five, six, true},
		{"the greater first", six, five, false},
		{"both alike", five, five, false},
		{"nothing and something", nothing(), five, true},
		{"something and nothing", five, nothing(), false},
		{"unlike kinds", whole(9), textVal("a"), true},
		{"unlike kinds, the other way round", textVal("a"), whole(9), false},
		{"texts", textVal("a"), textVal("ab"), true},
		{"no and yes", flag(0), flag(1), true},
		{"wrong ones", impl.Val{K: 9, N: 1}, impl.Val{K: 9, N: 2}, true},
	}
	for _, c := range cases {
		if got := impl.LessPart(impl.Part{Type: impl.TInt}, c.a, c.b); got != c.want {
			t.Errorf("%s: %v", c.name, got)
		}
		if got := impl.LessPart(impl.Part{Type: impl.TInt, Desc: true}, c.b, c.a); got != c.want {
			t.Errorf("%s, the greatest first: %v", c.name, got)
		}
	}
}

// The order goes by Desc alone, whatever else the part is.
func TestLessPartOfAllVals(t *testing.T) {
	parts := []impl.Part{{}, {Type: impl.TInt}, {Type: impl.TText, Null: true, Col: 9}, {Type: 5, Col: -1}}
	vals := allVals()
	for _, p := range parts {
		for _, a := range vals {
			for _, b := range vals {
				p.Desc = false
				if got := impl.LessPart(p, a, b); got != lessByFields(a, b) {
					t.Fatalf("LessPart(%+v, %#v, %#v) = %v", p, a, b, got)
				}
				p.Desc = true
				if got := impl.LessPart(p, a, b); got != lessByFields(b, a) {
					t.Fatalf("LessPart(%+v, %#v, %#v) = %v", p, a, b, got)
				}
			}
		}
	}
}

func TestPartAnswersAreNewMemory(t *testing.T) {
	var cases []bytesAnswer
	put := func(name string, p impl.Part, v impl.Val) {
		do := func(b []byte) []byte { return impl.PutPart(b, p, v) }
		cases = append(cases, bytesAnswer{name, "abc", do}, bytesAnswer{name + " behind nothing", "", do})
	}
	for _, p := range rightParts() {
		for _, c := range valsOfPart(p) {
			put("PutPart", p, c.v)
		}
		put("PutPart of what does not fit", p, impl.Val{K: 5})
		put("PutPart of nothing", p, nothing())
	}
	for _, p := range wrongParts() {
		put("PutPart of a wrong part", p, whole(5))
	}
	answersAreNew(t, cases)
}

func TestPartReadersWriteNothing(t *testing.T) {
	for _, p := range append(rightParts(), wrongParts()...) {
		for _, s := range []string{"", "\x00", "\x01", "\x02", "\xff", "\x80\x00\x00\x05", "\x01\x80\x00\x00\x05", "\xfe\x7f\xff\xff\xfa", "\x7e\xfe", "\x81\x01", "a\x00\x01", "\x9e\xff\xfe", "\x01\x00\x02"} {
			for _, at := range []int{-1, 0, 1, len(s), len(s) + 1} {
				b := spared(s)
				impl.GetPart(b, p, at)
				untouched(t, "GetPart", b, s)
			}
		}
	}
}

func TestTextOfPartIsNewMemory(t *testing.T) {
	for _, p := range rightParts() {
		if p.Type != impl.TText {
			continue
		}
		b := impl.PutPart(nil, p, textVal("x\x00yz"))
		v, _, _ := impl.GetPart(b, p, 0)
		overwrite(b)
		if v != textVal("x\x00yz") {
			t.Errorf("%+v: the text turned into %q with its bytes", p, v.S)
		}
	}
}

// The spare room goes on with what would make each of these whole.
func TestPartSpareRoomIsNotRead(t *testing.T) {
	for _, p := range rightParts() {
		for _, c := range valsOfPart(p) {
			b := []byte("k" + c.want + c.want)
			for n := range len(c.want) {
				noPart(t, "cut", b[:1+n], p, 1)
				noPart(t, "at the end", b[:1+n], p, 1+n)
			}
			noPart(t, "behind it", b[:1+len(c.want)], p, 1+len(c.want))
		}
	}
}
