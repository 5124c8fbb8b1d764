package tests

import (
	"math"
	"slices"
	"strings"
	"testing"
	"unsafe"

	"loop.example/g00322/impl"
)

var (
	_ func([]impl.Part) bool                         = impl.PlanOk
	_ func([]impl.Part, []impl.Val) bool             = impl.FitsAll
	_ func([]impl.Part, []impl.Val) []byte           = impl.EncodeKey
	_ func([]impl.Part, []byte) ([]impl.Val, bool)   = impl.DecodeKey
	_ func([]impl.Part, []impl.Val, []impl.Val) bool = impl.LessKey
	_ func([]impl.Part, []impl.Val) []impl.Val       = impl.Pick
)

const mostParts = 6

// keyVals are values of a key, and its bytes.
type keyVals struct {
	vals []impl.Val
	want string
}

// fewOfPart has some of a part's values: nothing, where it may be, both ends, and some that begin alike.
func fewOfPart(p impl.Part, n int) []partVal {
	all := valsOfPart(p)
	if len(all) <= n {
		return all
	}
	out := all[:n-1]
	return append(slices.Clone(out), all[len(all)-1])
}

// keysOf has all keys of a plan, whole and of fewer values, with n values of each part.
func keysOf(l []impl.Part, n int) []keyVals {
	out := []keyVals{{}}
	from := 0
	for _, p := range l {
		made := len(out)
		for _, k := range out[from:made] {
			for _, c := range fewOfPart(p, n) {
				out = append(out, keyVals{append(slices.Clone(k.vals), c.v), k.want + c.want})
			}
		}
		from = made
	}
	return out
}

// pairPlans has each two of all parts, one behind the other.
func pairPlans() [][]impl.Part {
	var out [][]impl.Part
	for _, p := range rightParts() {
		for _, q := range rightParts() {
			out = append(out, []impl.Part{p, q})
		}
	}
	return out
}

// longPlans has plans of three parts and of as many as there may be.
func longPlans() [][]impl.Part {
	parts := rightParts()
	var out [][]impl.Part
	for i := range parts {
		var l []impl.Part
		for j := range mostParts {
			l = append(l, parts[(i+5*j)%len(parts)])
		}
		out = append(out, l[:3:3], l)
	}
	return out
}

// planAndKeys is a plan, and keys of it, whole and of fewer values.
type planAndKeys struct {
	l    []impl.Part
	keys []keyVals
}

func plansAndKeys() []planAndKeys {
	out := []planAndKeys{{nil, keysOf(nil, 0)}}
	for _, p := range rightParts() {
		l := []impl.Part{p}
		out = append(out, planAndKeys{l, keysOf(l, 100)})
	}
	for _, l := range pairPlans() {
		out = append(out, planAndKeys{l, keysOf(l, 4)})
	}
	for _, l := range longPlans() {
		out = append(out, planAndKeys{l, keysOf(l, 2)})
	}
	return out
}

// manyParts has n parts, all of them right.
func manyParts(n int) []impl.Part {
	parts := rightParts()
	var out []impl.Part
	for i := range n {
		out = append(out, parts[i%len(parts)])
	}
	return out
}

// someKey has one value of each part.
func someKey(l []impl.Part) []impl.Val {
	var out []impl.Val
	for _, p := range l {
		out = append(out, partVals(p.Type)[1].v)
	}
	return out
}

// noKey asks that DecodeKey refuses, with nothing beside it.
func noKey(t *testing.T, what string, l []impl.Part, b []byte) {
	t.Helper()
	if vals, ok := impl.DecodeKey(l, b); len(vals) != 0 || ok {
		t.Errorf("%s: DecodeKey(%+v, %x) = %#v, %v", what, l, b, vals, ok)
	}
}

func TestPlanOk(t *testing.T) {
	for n := range 20 {
		if got := impl.PlanOk(manyParts(n)); got != (n <= 6) {
			t.Errorf("a plan of %d parts: %v", n, got)
		}
	}
	if impl.PlanOk(manyParts(1000)) {
		t.Error("a plan of 1000 parts is right")
	}
	if !impl.PlanOk(nil) || !impl.PlanOk([]impl.Part{}) {
		t.Error("a plan of no part is not right")
	}
	for _, p := range rightParts() {
		if !impl.PlanOk([]impl.Part{p}) || !impl.PlanOk([]impl.Part{p, p, p, p, p, p}) {
			t.Errorf("%+v makes a plan that is not right", p)
		}
	}
}

func TestPlanOkOfWrongParts(t *testing.T) {
	for n := 1; n <= mostParts; n++ {
		for at := range n {
			for _, p := range append(wrongParts(), impl.Part{}) {
				l := manyParts(n)
				l[at] = p
				if impl.PlanOk(l) {
					t.Errorf("a plan of %d parts, with %+v at %d, is right", n, p, at)
				}
			}
		}
	}
}

func TestFitsAll(t *testing.T) {
	l := []impl.Part{{Col: 2, Type: impl.TText}, {Col: 0, Type: impl.TInt, Null: true, Desc: true}, {Type: impl.TBool}}
	a, five, yes := textVal("a"), whole(5), flag(1)
	cases := []struct {
		name string
		vals []impl.Val
		want bool
	}{
		{"no values", nil, true},
		{"one value", []impl.Val{a}, true},
		{"two values", []impl.Val{a, five}, true},
		{"nothing where it may be", []impl.Val{a, nothing()}, true},
		{"as many values as parts", []impl.Val{a, five, yes}, true},
		{"one value more", []impl.Val{a, five, yes, yes}, false},
		{"nothing as one value more", []impl.Val{a, five, yes, nothing()}, false},
		{"the first does not fit", []impl.Val{five, five, yes}, false},
		{"the only one does not fit", []impl.Val{five}, false},
		{"the middle one does not fit", []impl.Val{a, a, yes}, false},
		{"the last does not fit", []impl.Val{a, five, five}, false},
		{"nothing where it may not be", []impl.Val{nothing(), five, yes}, false},
		{"nothing as the last", []impl.Val{a, five, nothing()}, false},
		{"a value out of its range", []impl.Val{a, whole(2147483648), yes}, false},
		{"a text of one byte more", []impl.Val{textVal(strings.Repeat("m", impl.MaxText+1))}, false},
		{"the parts in another order", []impl.Val{five, a, yes}, false},
	}
	for _, c := range cases {
		if got := impl.FitsAll(l, c.vals); got != c.want {
			t.Errorf("%s: %v", c.name, got)
		}
	}
}

func TestFitsAllOfNoPart(t *testing.T) {
	if !impl.FitsAll(nil, nil) || !impl.FitsAll([]impl.Part{}, []impl.Val{}) {
		t.Error("no values do not fit no parts")
	}
	for _, v := range []impl.Val{nothing(), whole(5), {K: 5}} {
		if impl.FitsAll(nil, []impl.Val{v}) {
			t.Errorf("%#v fits no part", v)
		}
	}
}

// It goes by the values and the parts that they stand at alone, be the plan right or not.
func TestFitsAllOfPlansThatAreNotRight(t *testing.T) {
	for _, n := range []int{7, 8, 100} {
		l := manyParts(n)
		vals := someKey(l)
		if !impl.FitsAll(l, vals) || !impl.FitsAll(l, vals[:n-1]) || impl.FitsAll(l, append(vals, whole(1))) {
			t.Errorf("%d parts", n)
		}
		vals[n-1] = impl.Val{K: 5}
		if impl.FitsAll(l, vals) || !impl.FitsAll(l, vals[:n-1]) {
			t.Errorf("%d parts, and the last value does not fit", n)
		}
	}
	l := []impl.Part{{Col: 10, Type: impl.TInt}, {}}
	if !impl.FitsAll(l, []impl.Val{whole(5)}) || impl.FitsAll(l, []impl.Val{whole(5), whole(5)}) {
		t.Error("a part of no column, and the zero one")
	}
}

func TestWhatFitsAll(t *testing.T) {
	vals := allVals()
	for _, l := range pairPlans() {
		fine := someKey(l)
		for _, v := range vals {
			if got, want := impl.FitsAll(l, []impl.Val{v, fine[1]}), impl.Fits(l[0], v); got != want {
				t.Errorf("%+v: %#v first: %v", l, v, got)
			}
			if got, want := impl.FitsAll(l, []impl.Val{fine[0], v}), impl.Fits(l[1], v); got != want {
				t.Errorf("%+v: %#v last: %v", l, v, got)
			}
			if got, want := impl.FitsAll(l, []impl.Val{v}), impl.Fits(l[0], v); got != want {
				t.Errorf("%+v: %#v alone: %v", l, v, got)
			}
		}
	}
}

func TestEncodeKey(t *testing.T) {
	l := []impl.Part{
		{Col: 1, Type: impl.TText},
		{Col: 1, Type: impl.TInt, Desc: true},
		{Col: 9, Type: impl.TNum, Null: true},
		{Col: 0, Type: impl.TBool, Null: true, Desc: true},
		{Col: 3, Type: impl.TNum},
		{Col: 4, Type: impl.TText, Desc: true},
	}
	vals := []impl.Val{textVal("a\x00"), whole(1), number(300), nothing(), number(-1), textVal("b")}
	want := []string{"a\x00\xff\x00\x01", "\x7f\xff\xff\xfe", "\x01\x82\x01\x2c", "\xff", "\x7f", "\x9d\xff\xfe"}
	for n := range len(vals) + 1 {
		if got := impl.EncodeKey(l, vals[:n]); string(got) != strings.Join(want[:n], "") {
			t.Errorf("of %d values: %x", n, got)
		}
	}
}

func TestEncodeKeyBytes(t *testing.T) {
	for _, c := range plansAndKeys() {
		for _, k := range c.keys {
			if got := impl.EncodeKey(c.l, k.vals); string(got) != k.want {
				t.Fatalf("EncodeKey(%+v, %#v) = %x", c.l, k.vals, got)
			}
		}
	}
}

// A plan that is not right has no key, though all that is wrong stands behind the values.
func TestEncodeKeyOfWrongPlans(t *testing.T) {
	for _, n := range []int{7, 8, 100} {
		l := manyParts(n)
		for count := range n + 1 {
			if got := impl.EncodeKey(l, someKey(l)[:count]); len(got) != 0 {
				t.Errorf("%d parts, %d values: %x", n, count, got)
			}
		}
	}
	for at := range mostParts {
		for _, wrong := range append(wrongParts(), impl.Part{}) {
			l := manyParts(mostParts)
			vals := someKey(l)
			l[at] = wrong
			for count := range len(vals) + 1 {
				if got := impl.EncodeKey(l, vals[:count]); len(got) != 0 {
					t.Fatalf("%+v at %d, %d values: %x", wrong, at, count, got)
				}
			}
		}
	}
}

func TestEncodeKeyOfWhatDoesNotFit(t *testing.T) {
	for _, l := range longPlans() {
		for at := range l {
			for _, v := range allVals() {
				if impl.Fits(l[at], v) {
					continue
				}
				vals := someKey(l)
				vals[at] = v
				if got := impl.EncodeKey(l, vals); len(got) != 0 {
					t.Fatalf("EncodeKey(%+v, %#v) = %x", l, vals, got)
				}
				if got := impl.EncodeKey(l, vals[:at+1]); len(got) != 0 {
					t.Fatalf("EncodeKey(%+v, %#v) = %x", l, vals[:at+1], got)
				}
			}
		}
		for _, v := range []impl.Val{nothing(), whole(5), {K: 5}} {
			if got := impl.EncodeKey(l, append(someKey(l), v)); len(got) != 0 {
				t.Errorf("one value more, %#v: %x", v, got)
			}
		}
	}
	if got := impl.EncodeKey(nil, []impl.Val{whole(5)}); len(got) != 0 {
		t.Errorf("a value of no part: %x", got)
	}
}

// Whole keys come back; of those of fewer values nothing does.
func TestKeysComeBack(t *testing.T) {
	for _, c := range plansAndKeys() {
		for _, k := range c.keys {
			b := impl.EncodeKey(c.l, k.vals)
			if len(k.vals) < len(c.l) {
				noKey(t, "fewer values", c.l, b)
				continue
			}
			if vals, ok := impl.DecodeKey(c.l, b); !ok || !slices.Equal(vals, k.vals) {
				t.Fatalf("DecodeKey(%+v, %x) = %#v, %v", c.l, b, vals, ok)
			}
		}
	}
}

func TestKeysCutOrWithBytesBehind(t *testing.T) {
	for _, c := range plansAndKeys() {
		for _, k := range c.keys {
			if len(k.vals) < len(c.l) {
				continue
			}
			for n := range len(k.want) {
				noKey(t, "cut", c.l, []byte(k.want[:n]))
			}
			for _, behind := range []string{"\x00", "\x01", "\xfe", "\xff", "\x00\x01", "\xff\xfe", "more"} {
				noKey(t, "bytes behind", c.l, []byte(k.want+behind))
			}
			if len(c.l) > 0 {
				noKey(t, "twice", c.l, []byte(k.want+k.want))
			}
		}
	}
}

func TestDecodeKeyOfNoPart(t *testing.T) {
	for _, l := range [][]impl.Part{nil, {}} {
		for _, b := range [][]byte{nil, {}} {
			if vals, ok := impl.DecodeKey(l, b); len(vals) != 0 || !ok {
				t.Errorf("no bytes: %#v, %v", vals, ok)
			}
		}
		for x := range 256 {
			noKey(t, "a byte", l, []byte{byte(x)})
		}
		noKey(t, "bytes", l, []byte("more"))
	}
}

func TestDecodeKeyOfWrongPlans(t *testing.T) {
	for _, n := range []int{7, 8, 100} {
		l := manyParts(n)
		b := []byte{}
		for i, v := range someKey(l) {
			b = impl.PutPart(b, l[i], v)
		}
		noKey(t, "too many parts", l, b)
		noKey(t, "too many parts, and no bytes", l, nil)
	}
	for at := range mostParts {
		for _, wrong := range append(wrongParts(), impl.Part{}) {
			l := manyParts(mostParts)
			b := impl.EncodeKey(l, someKey(l))
			ahead := impl.EncodeKey(l, someKey(l)[:at])
			l[at] = wrong
			noKey(t, "a wrong part", l, b)
			noKey(t, "a wrong part, and what is ahead of it", l, ahead)
			noKey(t, "wrong parts, and no bytes", l, nil)
		}
	}
}

// keyRead reads a key by the words alone: the values of its parts, one behind the other, and nothing more.
func keyRead(l []impl.Part, b string) ([]impl.Val, bool) {
	var out []impl.Val
	for _, p := range l {
		v, n, ok := partRead(b, p)
		if !ok {
			return nil, false
		}
		out, b = append(out, v), b[n:]
	}
	if b != "" {
		return nil, false
	}
	return out, true
}

// All short bytes of those that the forms lean on: what is read is just what is made.
func TestDecodeKeyReadsJustWhatIsMade(t *testing.T) {
	texts := textsOf("\x00\x01\x7f\x80\x81\xfe\xff", 4)
	for _, l := range slices.Concat(pairPlans(), longPlans()) {
		for _, b := range texts {
			want, wantOk := keyRead(l, b)
			vals, ok := impl.DecodeKey(l, []byte(b))
			if ok != wantOk || !slices.Equal(vals, want) {
				t.Fatalf("DecodeKey(%+v, %x) = %#v, %v", l, b, vals, ok)
			}
			if ok && string(impl.EncodeKey(l, vals)) != b {
				t.Fatalf("DecodeKey(%+v, %x) = %#v, of which the key is %x", l, b, vals, impl.EncodeKey(l, vals))
			}
		}
	}
}

// Of two keys one's bytes begin the other's just if its values do; so whole ones that are unlike never do.
func TestBeginningsOfKeys(t *testing.T) {
	for _, c := range plansAndKeys() {
		for _, a := range c.keys {
			x := string(impl.EncodeKey(c.l, a.vals))
			for _, b := range c.keys {
				want := len(a.vals) <= len(b.vals) && slices.Equal(a.vals, b.vals[:len(a.vals)])
				if got := strings.HasPrefix(b.want, x); got != want {
					t.Fatalf("%+v: %#v, as %x, begins %#v, as %x: %v", c.l, a.vals, x, b.vals, b.want, got)
				}
			}
		}
	}
}

func TestOrderOfKeys(t *testing.T) {
	for _, c := range plansAndKeys() {
		var bytesOf [][]byte
		for _, k := range c.keys {
			bytesOf = append(bytesOf, impl.EncodeKey(c.l, k.vals))
		}
		for i, a := range c.keys {
			for j, b := range c.keys {
				ahead := impl.Before(bytesOf[i], bytesOf[j])
				if got := impl.LessKey(c.l, a.vals, b.vals); got != ahead || got != lessByPlan(c.l, a.vals, b.vals) {
					t.Fatalf("%+v: %#v ahead of %#v: %v, its bytes: %v", c.l, a.vals, b.vals, got, ahead)
				}
			}
		}
	}
}

// lessByPlan is the order by the words: the first place that tells them apart, else how many there are.
func lessByPlan(l []impl.Part, a []impl.Val, b []impl.Val) bool {
	if len(a) == 0 || len(b) == 0 {
		return len(a) < len(b)
	}
	if a[0] == b[0] {
		return lessByPlan(l[min(1, len(l)):], a[1:], b[1:])
	}
	if len(l) == 0 {
		return false
	}
	if l[0].Desc {
		return lessByFields(b[0], a[0])
	}
	return lessByFields(a[0], b[0])
}

func TestLessKey(t *testing.T) {
	up, down := impl.Part{Type: impl.TInt}, impl.Part{Type: impl.TInt, Desc: true}
	ints := func(nums ...int) []impl.Val {
		var out []impl.Val
		for _, n := range nums {
			out = append(out, whole(n))
		}
		return out
	}
	cases := []struct {
		name string
		l    []impl.Part
		a, b []impl.Val
		less bool
		more bool
	}{
		{"the lower first", []impl.Part{up, up}, ints(1, 9), ints(2, 0), true, false},
		{"the greatest first", []impl.Part{down, up}, ints(1, 0), ints(2, 9), false, true},
		{"the second tells", []impl.Part{down, up}, ints(1, 0), ints(1, 9), true, false},
		{"the second tells, the greatest first", []impl.Part{up, down}, ints(1, 0), ints(1, 9), false, true},
		{"both alike", []impl.Part{up, down}, ints(1, 2), ints(1, 2), false, false},
		{"neither has values", []impl.Part{up, down}, nil, []impl.Val{}, false, false},
		{"one has none", []impl.Part{down, down}, nil, ints(1), true, false},
		{"one has fewer", []impl.Part{up, down}, ints(1), ints(1, -5), true, false},
		{"one has fewer, and is greater", []impl.Part{up, up}, ints(2), ints(1, 5), false, true},
		{"one has fewer, and is greater, the greatest first", []impl.Part{down, up}, ints(2), ints(1, 5), true, false},
		{"longer than the plan, told by it", []impl.Part{up}, ints(1, 9), ints(2, 0), true, false},
		{"longer than the plan, told behind it", []impl.Part{up}, ints(1, 0), ints(1, 9), false, false},
		{"longer than the plan, told behind it, and one has fewer", []impl.Part{up}, ints(1, 0), ints(1, 9, 3), false, false},
		{"longer than the plan, told far behind it", []impl.Part{up}, ints(1, 0, 4), ints(1, 0, 5), false, false},
		{"longer than the plan, and alike", []impl.Part{up}, ints(1, 0), ints(1, 0), false, false},
		{"longer than the plan, and one has fewer", []impl.Part{up}, ints(1, 0), ints(1, 0, 9), true, false},
		{"one is longer than the plan", []impl.Part{down}, ints(1), ints(1, 0), true, false},
		{"one is longer than the plan, and less", []impl.Part{up}, ints(1), ints(0, 5), false, true},
		{"no plan", nil, ints(1), ints(2), false, false},
		{"no plan, and one has none", nil, nil, ints(2), true, false},
		{"no plan, and one has fewer", nil, ints(2), ints(2, 0), true, false},
		{"unlike kinds", []impl.Part{up}, ints(9), []impl.Val{textVal("a")}, true, false},
		{"unlike kinds, the greatest first", []impl.Part{down}, ints(9), []impl.Val{textVal("a")}, false, true},
		{"unlike kinds behind ones that are alike", []impl.Part{up, up}, []impl.Val{whole(1), nothing()}, ints(1, -7), true, false},
		{"unlike kinds with one number", []impl.Part{up}, []impl.Val{number(5)}, ints(5), false, true},
		{"values that are not right", []impl.Part{up}, []impl.Val{{K: 9, N: 1}}, []impl.Val{{K: 9, N: 2}}, true, false},
		{"values that are not right, and alike", []impl.Part{up, up}, []impl.Val{{K: 9, N: 1}, whole(1)}, []impl.Val{{K: 9, N: 1}, whole(2)}, true, false},
		{"parts that are not right", []impl.Part{{}, {Col: -1, Type: 9, Desc: true}}, ints(1, 2), ints(1, 3), false, true},
		{"more parts than a plan has", []impl.Part{up, up, up, up, up, up, up}, ints(1, 1, 1, 1, 1, 1, 1), ints(1, 1, 1, 1, 1, 1, 2), true, false},
	}
	for _, c := range cases {
		if got := impl.LessKey(c.l, c.a, c.b); got != c.less {
			t.Errorf("%s: %v", c.name, got)
		}
		if got := impl.LessKey(c.l, c.b, c.a); got != c.more {
			t.Errorf("%s, the other way round: %v", c.name, got)
		}
	}
}

// All short lists of values of all kinds, right and wrong, under plans of up to three parts.
func TestLessKeyOfAllLists(t *testing.T) {
	vals := []impl.Val{nothing(), whole(0), whole(1), number(0), textVal("a"), flag(1), {K: 9, S: "b"}}
	lists := [][]impl.Val{nil}
	for _, a := range vals {
		lists = append(lists, []impl.Val{a})
		for _, b := range vals {
			lists = append(lists, []impl.Val{a, b}, []impl.Val{a, b, vals[1]}, []impl.Val{a, b, vals[4]})
		}
	}
	up, down := impl.Part{Type: impl.TText}, impl.Part{Type: impl.TInt, Null: true, Desc: true}
	for _, l := range [][]impl.Part{nil, {up}, {down}, {up, down}, {down, up}, {up, up, down}} {
		for _, a := range lists {
			for _, b := range lists {
				if got := impl.LessKey(l, a, b); got != lessByPlan(l, a, b) {
					t.Fatalf("LessKey(%+v, %#v, %#v) = %v", l, a, b, got)
				}
			}
		}
	}
}

func TestPick(t *testing.T) {
	row := []impl.Val{whole(5), textVal("a"), nothing(), flag(1), number(-7), {K: 9, N: 4, S: "x"}}
	cases := []struct {
		name string
		cols []int
		row  []impl.Val
		want []impl.Val
	}{
		{"no part", nil, row, nil},
		{"one column", []int{1}, row, []impl.Val{row[1]}},
		{"the first and the last", []int{5, 0}, row, []impl.Val{row[5], row[0]}},
		{"all of them, from behind", []int{5, 4, 3, 2, 1, 0}, row, []impl.Val{row[5], row[4], row[3], row[2], row[1], row[0]}},
		{"one column twice", []int{4, 4}, row, []impl.Val{row[4], row[4]}},
		{"more parts than a plan has", []int{0, 1, 0, 1, 0, 1, 0}, row, []impl.Val{row[0], row[1], row[0], row[1], row[0], row[1], row[0]}},
		{"behind the last", []int{6}, row, []impl.Val{{}}},
		{"far behind the last, between others", []int{1, 9, 3}, row, []impl.Val{row[1], {}, row[3]}},
		{"below 0", []int{-1, 0}, row, []impl.Val{{}, row[0]}},
		{"no place at all", []int{math.MinInt, math.MaxInt, -6}, row, []impl.Val{{}, {}, {}}},
		{"no row", []int{0, 1, 2}, nil, []impl.Val{{}, {}, {}}},
		{"no part, no row", nil, nil, nil},
		{"a row of one value", []int{2, 0, 1}, row[:1:1], []impl.Val{{}, row[0], {}}},
		{"a column that no part has", []int{11}, append(slices.Clone(row), row...), []impl.Val{row[5]}},
	}
	for _, c := range cases {
		for kind := range 6 {
			var l []impl.Part
			for i, col := range c.cols {
				l = append(l, impl.Part{Col: col, Type: kind, Null: i%2 == 0, Desc: i%3 == 0})
			}
			if got := impl.Pick(l, c.row); !slices.Equal(got, c.want) {
				t.Errorf("%s: %#v", c.name, got)
			}
		}
	}
}

// What is picked of a row makes a key that goes by the plan's columns alone.
func TestPickMakesKeys(t *testing.T) {
	l := []impl.Part{{Col: 3, Type: impl.TText, Desc: true}, {Col: 1, Type: impl.TInt}, {Col: 4, Type: impl.TNum, Null: true}}
	row := []impl.Val{flag(0), whole(5), flag(1), textVal("a"), number(7)}
	if got := impl.EncodeKey(l, impl.Pick(l, row)); string(got) != "\x9e\xff\xfe\x80\x00\x00\x05\x01\x81\x07" {
		t.Errorf("%x", got)
	}
	if got := impl.EncodeKey(l, impl.Pick(l, row[:4])); string(got) != "\x9e\xff\xfe\x80\x00\x00\x05\x00" {
		t.Errorf("without the last column: %x", got)
	}
	if got := impl.EncodeKey(l, impl.Pick(l, row[:1])); len(got) != 0 {
		t.Errorf("without columns that may not be nothing: %x", got)
	}
}

// roomyVals has the values with others in the spare room behind them.
func roomyVals(vals []impl.Val) []impl.Val {
	all := append(slices.Clone(vals), someSpare()...)
	return all[:len(vals)]
}

func roomyParts(l []impl.Part) []impl.Part {
	all := append(slices.Clone(l), sparePart(), sparePart(), sparePart())
	return all[:len(l)]
}

func someSpare() []impl.Val {
	return []impl.Val{textVal("spare"), whole(99), textVal("spare")}
}

func sparePart() impl.Part { return impl.Part{Col: 1, Type: impl.TText, Null: true} }

// wholeVals asks that the values are what they were, and so is the spare room behind them.
func wholeVals(t *testing.T, what string, got []impl.Val, want []impl.Val) {
	t.Helper()
	spare := someSpare()
	if !slices.Equal(got, want) || !slices.Equal(got[len(got):len(got)+len(spare)], spare) {
		t.Errorf("%s: the values turned into %#v", what, got[:len(got)+len(spare)])
	}
}

func wholeParts(t *testing.T, what string, got []impl.Part, want []impl.Part) {
	t.Helper()
	room := got[len(got) : len(got)+3]
	if !slices.Equal(got, want) || room[0] != sparePart() || room[1] != sparePart() || room[2] != sparePart() {
		t.Errorf("%s: the parts turned into %+v", what, got[:len(got)+3])
	}
}

// overwriteVals fills an answer and all the room that came with it.
func overwriteVals(vals []impl.Val) {
	vals = vals[:cap(vals)]
	for i := range vals {
		vals[i] = impl.Val{K: 77, N: 77, S: "overwritten"}
	}
}

// keyArgs has plans and values, right ones and wrong ones.
func keyArgs() []planAndKeys {
	var out []planAndKeys
	for _, l := range append(longPlans(), nil, manyParts(7), []impl.Part{{}}, []impl.Part{{Col: -1, Type: impl.TInt}}) {
		vals := someKey(l)
		keys := []keyVals{{vals: vals}, {}, {vals: append(slices.Clone(vals), whole(1))}}
		if len(l) > 1 {
			keys = append(keys, keyVals{vals: vals[:len(l)-1]}, keyVals{vals: slices.Repeat([]impl.Val{nothing()}, len(l))})
		}
		out = append(out, planAndKeys{l, keys})
	}
	return out
}

func TestKeysWriteIntoNoArgument(t *testing.T) {
	for _, c := range keyArgs() {
		for _, k := range c.keys {
			l, vals, others := roomyParts(c.l), roomyVals(k.vals), roomyVals(k.vals)
			impl.PlanOk(l)
			impl.FitsAll(l, vals)
			overwrite(impl.EncodeKey(l, vals))
			impl.LessKey(l, vals, others)
			overwriteVals(impl.Pick(l, vals))
			wholeVals(t, "a list of values", vals, k.vals)
			wholeVals(t, "another list of values", others, k.vals)
			wholeParts(t, "a plan", l, c.l)
		}
	}
}

func TestDecodeKeyWritesIntoNoArgument(t *testing.T) {
	for _, c := range keyArgs() {
		whole := string(impl.EncodeKey(c.l, someKey(c.l)))
		for _, s := range []string{"", whole, whole + "\x00", whole[:len(whole)/2], "\xff\xff\xff", "\x00\x01\x02\x03"} {
			l, b := roomyParts(c.l), spared(s)
			vals, _ := impl.DecodeKey(l, b)
			overwriteVals(vals)
			untouched(t, "DecodeKey", b, s)
			wholeParts(t, "DecodeKey", l, c.l)
		}
	}
}

func TestKeyAnswersAreNewMemory(t *testing.T) {
	for _, c := range keyArgs() {
		for _, k := range c.keys {
			vals := slices.Clone(k.vals)
			first, second := impl.EncodeKey(c.l, vals), impl.EncodeKey(c.l, vals)
			want := string(second)
			overwrite(first)
			overwriteVals(vals)
			if string(second) != want {
				t.Errorf("%+v, %#v: the bytes turned into %x", c.l, k.vals, second)
			}
			row := slices.Clone(k.vals)
			picked, again := impl.Pick(c.l, row), impl.Pick(c.l, row)
			wanted := slices.Clone(again)
			overwriteVals(picked)
			overwriteVals(row)
			if !slices.Equal(again, wanted) {
				t.Errorf("%+v, %#v: what was picked turned into %#v", c.l, k.vals, again)
			}
		}
		b := impl.EncodeKey(c.l, someKey(c.l))
		read, again := impl.DecodeKey(c.l, b)
		back, _ := impl.DecodeKey(c.l, b)
		wanted := slices.Clone(read)
		overwriteVals(back)
		overwrite(b)
		if again && !slices.Equal(read, wanted) {
			t.Errorf("%+v: what was read turned into %#v", c.l, read)
		}
	}
}

func TestTextsOfKeysAreNewMemory(t *testing.T) {
	for _, desc := range []bool{false, true} {
		l := []impl.Part{{Col: 0, Type: impl.TText, Desc: desc}, {Col: 1, Type: impl.TText}}
		vals := []impl.Val{textVal(strings.Repeat("x\x00", 5)), textVal(strings.Repeat("y", 20))}
		b := impl.EncodeKey(l, vals)
		back, ok := impl.DecodeKey(l, b)
		overwrite(b)
		if !ok || !slices.Equal(back, vals) {
			t.Errorf("the texts turned into %#v with their bytes", back)
		}
		for i, v := range impl.Pick(l, vals) {
			if v != vals[i] || unsafe.StringData(v.S) == unsafe.StringData(vals[i].S) {
				t.Errorf("%#v shares memory with the row", v)
			}
		}
	}
}

// The spare room goes on with what would make each of these another one.
func TestKeySpareRoomIsNotRead(t *testing.T) {
	for _, l := range longPlans() {
		vals := someKey(l)
		b := impl.EncodeKey(l, vals)
		for n := range b {
			noKey(t, "cut", l, b[:n])
		}
		for n := range l {
			if impl.FitsAll(l[:n], vals[:n+1]) || len(impl.EncodeKey(l[:n], vals[:n+1])) != 0 {
				t.Errorf("a part behind %d parts is read", n)
			}
			if !impl.FitsAll(l[:n], vals[:n]) || !impl.LessKey(l, vals[:n], vals[:n+1]) || impl.LessKey(l, vals[:n], vals[:n]) {
				t.Errorf("a value behind %d values is read", n)
			}
		}
	}
	row := []impl.Val{whole(1), whole(2), whole(3)}
	l := []impl.Part{{Col: 2, Type: impl.TInt}, {Col: 1, Type: impl.TInt}, {Col: 0, Type: impl.TInt}}
	for n := range row {
		want := []impl.Val{{}, {}, {}}
		for i := range n {
			want[2-i] = row[i]
		}
		if got := impl.Pick(l, row[:n]); !slices.Equal(got, want) {
			t.Errorf("a row of %d values: %#v", n, got)
		}
		if got := impl.Pick(l[:n], row); len(got) != n {
			t.Errorf("%d parts: %#v", n, got)
		}
	}
	wrong := []impl.Part{{Col: 1, Type: impl.TInt}, {}}
	if !impl.PlanOk(wrong[:1]) || impl.LessKey(l[:1], []impl.Val{row[0], row[0]}, []impl.Val{row[0], row[1]}) {
		t.Error("a part behind the plan is read")
	}
}
