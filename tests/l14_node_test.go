package tests

import (
	"fmt"
	"math"
	"math/rand"
	"slices"
	"strings"
	"testing"

	"loop.example/g00322/impl"
)

var (
	_ func(impl.Node) bool            = impl.NodeOk
	_ func(impl.Node) int             = impl.SizeOf
	_ func(impl.Node) []byte          = impl.PutNode
	_ func([]byte) (impl.Node, bool)  = impl.GetNode
	_ func(impl.Node, impl.Node) bool = impl.SameNode
	_ func(impl.Node, string) int     = impl.ChildOf
)

// leafOf has a leaf of keys and values in turn.
func leafOf(pairs ...string) impl.Node {
	x := impl.Node{Leaf: true}
	for i := 0; i+1 < len(pairs); i += 2 {
		x.Keys, x.Vals = append(x.Keys, pairs[i]), append(x.Vals, pairs[i+1])
	}
	return x
}

func texts(l ...string) []string { return l }

func innerOf(keys []string, kids ...int) impl.Node { return impl.Node{Keys: keys, Kids: kids} }

// long has n bytes.
func long(n int) string { return strings.Repeat("k", n) }

// upTo has n texts that ascend, each of so many bytes.
func upTo(n int, size int) []string {
	var out []string
	for i := range n {
		out = append(out, fmt.Sprintf("%03d", i)[3-min(size, 3):]+strings.Repeat("x", max(size-3, 0)))
	}
	return out
}

// someKids has n sectors, from 2 on, again from there behind the last.
func someKids(n int) []int {
	var out []int
	for i := range n {
		out = append(out, 2+i%46)
	}
	return out
}

func nodeCopy(x impl.Node) impl.Node {
	return impl.Node{Leaf: x.Leaf, Keys: slices.Clone(x.Keys), Vals: slices.Clone(x.Vals), Kids: slices.Clone(x.Kids)}
}

// nodeText has all of a node as one text, in which an empty list and nil are the same.
func nodeText(x impl.Node) string { return fmt.Sprintf("%v %q %q %v", x.Leaf, x.Keys, x.Vals, x.Kids) }

// wordsGroups has the bytes of any number, as chapter 1 has it.
func wordsGroups(n int) string {
	n = min(max(n, 0), 1000000)
	if n < 16384 {
		return countForm(n)
	}
	return string([]byte{byte(n%128 + 128), byte(n/128%128 + 128), byte(n / 16384)})
}

// wordsBody has the body of any node by the chapter's words, whether it is right or not.
func wordsBody(x impl.Node) string {
	var b strings.Builder
	if x.Leaf {
		b.WriteString("\x01")
	} else {
		b.WriteString("\x00")
	}
	b.WriteString(wordsGroups(len(x.Keys)))
	for _, k := range x.Keys {
		b.WriteString(wordsGroups(len(k)) + k)
	}
	if x.Leaf {
		for _, v := range x.Vals {
			b.WriteString(wordsGroups(len(v)) + v)
		}
	} else {
		for _, kid := range x.Kids {
			b.WriteString(wordsGroups(kid))
		}
	}
	return b.String()
}

// wordsNodeOk is what the chapter tells of a node.
func wordsNodeOk(x impl.Node) bool {
	ok := len(wordsBody(x)) <= 240
	for i, k := range x.Keys {
		ok = ok && (i == 0 || strings.Compare(x.Keys[i-1], k) < 0)
		ok = ok && (!x.Leaf || len(k) <= 48)
	}
	for _, v := range x.Vals {
		ok = ok && len(v) <= 60
	}
	for _, kid := range x.Kids {
		ok = ok && kid >= 2 && kid <= 47
	}
	if x.Leaf {
		return ok && len(x.Keys) >= 1 && len(x.Vals) == len(x.Keys) && len(x.Kids) == 0
	}
	return ok && len(x.Kids) >= 1 && len(x.Keys) == len(x.Kids)-1 && len(x.Vals) == 0
}

// isNode asks that a node is right, and that it and its bytes come of each other.
func isNode(t *testing.T, what string, x impl.Node, want string) {
	t.Helper()
	if !impl.NodeOk(x) {
		t.Errorf("%s: NodeOk(%s) is false", what, nodeText(x))
	}
	if n := impl.SizeOf(x); n != len(want) {
		t.Errorf("%s: SizeOf(%s) = %d, not %d", what, nodeText(x), n, len(want))
	}
	if b := impl.PutNode(x); string(b) != want {
		t.Errorf("%s: PutNode(%s) = %x, not %x", what, nodeText(x), b, want)
	}
	if got, ok := impl.GetNode([]byte(want)); nodeText(got) != nodeText(x) || !ok {
		t.Errorf("%s: GetNode(%x) = %s, %v", what, want, nodeText(got), ok)
	}
}

// isNoNode asks that a node is not right, and has no bytes; those that it would have are none's.
func isNoNode(t *testing.T, what string, x impl.Node) {
	t.Helper()
	if impl.NodeOk(x) {
		t.Errorf("%s: NodeOk(%s) is true", what, nodeText(x))
	}
	if b := impl.PutNode(x); len(b) != 0 {
		t.Errorf("%s: PutNode(%s) = %x", what, nodeText(x), b)
	}
	if n := impl.SizeOf(x); n != len(wordsBody(x)) {
		t.Errorf("%s: SizeOf(%s) = %d, not %d", what, nodeText(x), n, len(wordsBody(x)))
	}
}

// noNodeOf asks that GetNode refuses, with the zero one beside it.
func noNodeOf(t *testing.T, what string, b string) {
	t.Helper()
	if x, ok := impl.GetNode([]byte(b)); nodeText(x) != nodeText(impl.Node{}) || ok {
		t.Errorf("%s: GetNode(%x) = %s, %v", what, b, nodeText(x), ok)
	}
}

// rightNodes has nodes of both kinds, at the edges of what is right.
func rightNodes() map[string]impl.Node {
	return map[string]impl.Node{
		"the empty key":            leafOf("", ""),
		"one key":                  leafOf("a", "v"),
		"one key without a value":  leafOf("a", ""),
		"two keys":                 leafOf("a", "v", "bc", ""),
		"the empty key ahead":      leafOf("", "x", "\x00", "y"),
		"a beginning ahead":        leafOf("a", "1", "a\x00", "2", "ab", "3"),
		"bytes above 127":          leafOf("\x7f", "\xff", "\x80", "\x00", "\xff", "\xff\xff"),
		"values that are alike":    leafOf("a", "v", "b", "v", "c", "v"),
		"values that descend":      leafOf("a", "z", "b", "y"),
		"a key of MaxKey":          leafOf(long(48), "v"),
		"a value of MaxRow":        leafOf("a", long(60)),
		"both at their most":       leafOf(long(48), long(60)),
		"two of both":              leafOf("a"+long(47), long(60), "b"+long(47), long(60)),
		"many keys":                {Leaf: true, Keys: upTo(47, 3), Vals: make([]string, 47)},
		"what looks like nodes":    leafOf("\x00\x00\x02", "\x01\x01\x01a\x01v"),
		"one kid alone":            innerOf(nil, 2),
		"the last sector":          innerOf(nil, 47),
		"two kids":                 innerOf(texts("m"), 5, 47),
		"kids that descend":        innerOf(texts("m"), 47, 2),
		"kids that are alike":      innerOf(texts("m", "n"), 7, 7, 7),
		"the empty key between":    innerOf(texts(""), 2, 3),
		"the empty key and others": innerOf(texts("", "\x00", "\x00\x00"), 2, 3, 4, 5),
		"a key of MaxKey between":  innerOf(texts(long(48)), 2, 3),
		"all sectors":              innerOf(upTo(45, 3), someKids(46)...),
		"more kids than sectors":   innerOf(upTo(50, 2), someKids(51)...),
	}
}

func TestNodesAsBytes(t *testing.T) {
	isNode(t, "a leaf", leafOf("a", "v", "bc", ""), "\x01\x02\x01a\x02bc\x01v\x00")
	isNode(t, "the least leaf", leafOf("", ""), "\x01\x01\x00\x00")
	isNode(t, "a leaf of one", leafOf("k", "\x00\xff"), "\x01\x01\x01k\x02\x00\xff")
	isNode(t, "two kids", innerOf(texts("m"), 5, 47), "\x00\x01\x01m\x05\x2f")
	isNode(t, "three kids", innerOf(texts("", "b"), 2, 9, 3), "\x00\x02\x00\x01b\x02\x09\x03")
	isNode(t, "a full key and value", leafOf(long(48), long(60)), "\x01\x01\x30"+long(48)+"\x3c"+long(60))
	for what, x := range rightNodes() {
		isNode(t, what, x, wordsBody(x))
	}
}

// A node of one Kid has no Key: nothing stands between.
func TestOneKidAlone(t *testing.T) {
	for kid := 2; kid <= 47; kid++ {
		x := innerOf(nil, kid)
		isNode(t, "one kid", x, string([]byte{0, 0, byte(kid)}))
		x.Keys = []string{}
		isNode(t, "one kid, an empty list", x, string([]byte{0, 0, byte(kid)}))
		if impl.ChildOf(x, "") != 0 || impl.ChildOf(x, "z") != 0 {
			t.Errorf("another kid than the one: %d", kid)
		}
		x.Keys = texts("")
		isNoNode(t, "one kid and a key", x)
	}
	noNodeOf(t, "no kid", "\x00\x00")
	noNodeOf(t, "the kid 0", "\x00\x00\x00")
	noNodeOf(t, "the kid 1", "\x00\x00\x01")
	noNodeOf(t, "the kid 48", "\x00\x00\x30")
	noNodeOf(t, "a second kid", "\x00\x00\x02\x03")
	noNodeOf(t, "one kid and a key", "\x00\x01\x01a\x02")
	noNodeOf(t, "a leaf without a key, and a kid", "\x01\x00\x02")
}

func TestLeavesThatAreNotRight(t *testing.T) {
	for what, x := range map[string]impl.Node{
		"no key":                      {Leaf: true},
		"no key, empty lists":         {Leaf: true, Keys: []string{}, Vals: []string{}, Kids: []int{}},
		"a value alone":               {Leaf: true, Vals: texts("v")},
		"a key alone":                 {Leaf: true, Keys: texts("a")},
		"a value too few":             {Leaf: true, Keys: texts("a", "b", "c"), Vals: texts("v", "w")},
		"a value too many":            {Leaf: true, Keys: texts("a", "b"), Vals: texts("v", "w", "x")},
		"keys that are the same":      leafOf("a", "v", "a", "w"),
		"all the same":                leafOf("a", "v", "a", "v"),
		"empty keys":                  leafOf("", "v", "", "w"),
		"the last two the same":       leafOf("a", "", "b", "", "b", ""),
		"keys that descend":           leafOf("b", "v", "a", "w"),
		"the last two descend":        leafOf("a", "", "c", "", "b", ""),
		"one in the midst":            leafOf("a", "", "c", "", "b", "", "d", ""),
		"the first again":             leafOf("a", "", "b", "", "a", ""),
		"a beginning behind":          leafOf("ab", "", "a", ""),
		"the empty key behind":        leafOf("a", "", "", ""),
		"a byte above 127 ahead":      leafOf("\x80", "", "\x7f", ""),
		"a key of one more":           leafOf(long(49), "v"),
		"the last key of one more":    leafOf("a", "v", "b"+long(48), "v"),
		"a value of one more":         leafOf("a", long(61)),
		"the last value of one more":  leafOf("a", "v", "b", long(61)),
		"a kid":                       {Leaf: true, Keys: texts("a"), Vals: texts("v"), Kids: []int{2}},
		"kids as of another":          {Leaf: true, Keys: texts("a"), Vals: texts("v"), Kids: []int{2, 3}},
		"the kid 0":                   {Leaf: true, Keys: texts("a"), Vals: texts("v"), Kids: []int{0}},
		"kids in the place of values": {Leaf: true, Keys: texts("a"), Kids: []int{2, 3}},
		"a kid alone":                 {Leaf: true, Kids: []int{2}},
	} {
		isNoNode(t, what, x)
	}
}

func TestOtherNodesThatAreNotRight(t *testing.T) {
	for what, x := range map[string]impl.Node{
		"nothing":                     {},
		"no kid, empty lists":         {Keys: []string{}, Vals: []string{}, Kids: []int{}},
		"a key alone":                 innerOf(texts("a")),
		"a key too few":               innerOf(texts("a"), 2, 3, 4),
		"no key of two kids":          innerOf(nil, 2, 3),
		"a key too many":              innerOf(texts("a", "b"), 2, 3),
		"two keys too many":           innerOf(texts("a", "b", "c"), 2, 3),
		"a key of one kid":            innerOf(texts("a"), 2),
		"the kid 0":                   innerOf(nil, 0),
		"the kid 1":                   innerOf(nil, 1),
		"the kid MaxSecs":             innerOf(nil, 48),
		"a kid below 0":               innerOf(nil, -1),
		"the least kid":               innerOf(nil, math.MinInt),
		"the greatest kid":            innerOf(nil, math.MaxInt),
		"a kid with a sector's bits":  innerOf(nil, 256+2),
		"the first kid 1":             innerOf(texts("a"), 1, 2),
		"the last kid 1":              innerOf(texts("a"), 2, 1),
		"the last kid MaxSecs":        innerOf(texts("a", "b"), 2, 3, 48),
		"one in the midst 0":          innerOf(texts("a", "b"), 2, 0, 3),
		"keys that are the same":      innerOf(texts("a", "a"), 2, 3, 4),
		"empty keys":                  innerOf(texts("", ""), 2, 3, 4),
		"keys that descend":           innerOf(texts("b", "a"), 2, 3, 4),
		"the last two descend":        innerOf(texts("a", "c", "b"), 2, 3, 4, 5),
		"a byte above 127 ahead":      innerOf(texts("\x80", "\x7f"), 2, 3, 4),
		"a value":                     {Keys: texts("a"), Vals: texts("v"), Kids: []int{2, 3}},
		"values as of a leaf":         {Keys: texts("a"), Vals: texts("v")},
		"the empty value":             {Keys: texts("a"), Vals: texts(""), Kids: []int{2, 3}},
		"one kid and a value":         {Vals: texts(""), Kids: []int{2}},
		"values in the place of kids": {Vals: texts("v")},
	} {
		isNoNode(t, what, x)
	}
}

// bodiesOf has nodes whose bodies have this size, from 230 on, each right but for that.
func bodiesOf(size int) map[string]impl.Node {
	rest := size - 2 - 2*110
	return map[string]impl.Node{
		"a leaf's key":      leafOf("a"+long(47), long(60), "b"+long(47), long(60), "c"+long(rest-3), ""),
		"a leaf's value":    leafOf("a"+long(47), long(60), "b"+long(47), long(60), "c", long(rest-3)),
		"another's key":     innerOf(append(upTo(4, 48), "1"+long(size-2-4*49-6-2)), someKids(6)...),
		"another's one key": innerOf(texts(long(size-2-2-2)), 2, 3),
	}
}

func TestBodiesOfMaxBody(t *testing.T) {
	for size := 230; size <= 250; size++ {
		for what, x := range bodiesOf(size) {
			if len(wordsBody(x)) != size {
				t.Fatalf("%s: %d bytes, not %d", what, len(wordsBody(x)), size)
			}
			if size <= 240 {
				isNode(t, what, x, wordsBody(x))
			} else {
				isNoNode(t, what, x)
				noNodeOf(t, what, wordsBody(x))
			}
		}
	}
	// As many as have room, and one more.
	isNode(t, "59 keys", impl.Node{Leaf: true, Keys: upTo(59, 2), Vals: make([]string, 59)}, wordsBody(impl.Node{Leaf: true, Keys: upTo(59, 2), Vals: make([]string, 59)}))
	isNoNode(t, "60 keys", impl.Node{Leaf: true, Keys: upTo(60, 2), Vals: make([]string, 60)})
	isNode(t, "60 kids", innerOf(upTo(59, 2), someKids(60)...), wordsBody(innerOf(upTo(59, 2), someKids(60)...)))
	isNoNode(t, "61 kids", innerOf(upTo(60, 2), someKids(61)...))
	isNoNode(t, "240 kids", innerOf(upTo(239, 3), someKids(240)...))
}

// The words limit a leaf's Keys alone; those of others have no limit but the body's.
func TestLongKeysOfOtherNodes(t *testing.T) {
	for _, n := range []int{47, 48, 49, 50, 60, 61, 126, 127, 128, 129, 233, 234} {
		x := innerOf(texts(long(n)), 2, 3)
		isNode(t, fmt.Sprint("a key of ", n, " bytes"), x, wordsBody(x))
	}
	isNoNode(t, "a key of 235 bytes", innerOf(texts(long(235)), 2, 3))
}

// A node that is not right has a size, too: what it would have.
func TestSizesOfAnyNode(t *testing.T) {
	for _, c := range []struct {
		x    impl.Node
		want int
	}{
		{impl.Node{}, 2},
		{impl.Node{Leaf: true}, 2},
		{impl.Node{Leaf: true, Kids: []int{2, 3, 4}}, 2},
		{impl.Node{Vals: texts("abc", "d")}, 2},
		{impl.Node{Leaf: true, Keys: texts("a"), Vals: texts("v"), Kids: []int{2, 3, 4}}, 6},
		{impl.Node{Keys: texts("a"), Vals: texts("v"), Kids: []int{2, 3}}, 6},
		{impl.Node{Leaf: true, Keys: texts("a")}, 4},
		{impl.Node{Leaf: true, Vals: texts("abc")}, 6},
		{innerOf(nil, 127), 3},
		{innerOf(nil, 128), 4},
		{innerOf(nil, 16383), 4},
		{innerOf(nil, 16384), 5},
		{innerOf(nil, 1000000), 5},
		{innerOf(nil, 1000001), 5},
		{innerOf(nil, math.MaxInt), 5},
		{innerOf(nil, 0, -1, math.MinInt), 5},
		{innerOf(texts(long(127))), 2 + 1 + 127},
		{innerOf(texts(long(128))), 2 + 2 + 128},
		{leafOf(long(16383), long(16384)), 2 + 2 + 16383 + 3 + 16384},
		{leafOf(long(1000000), long(1000001)), 2 + 3 + 1000000 + 3 + 1000001},
		{leafOf("", long(1<<21)), 2 + 1 + 3 + 1<<21},
		{impl.Node{Keys: make([]string, 127)}, 2 + 127},
		{impl.Node{Keys: make([]string, 128)}, 3 + 128},
		{impl.Node{Leaf: true, Keys: make([]string, 16384)}, 4 + 16384},
		{impl.Node{Keys: make([]string, 1000001)}, 4 + 1000001},
		{impl.Node{Leaf: true, Vals: make([]string, 200000)}, 2 + 200000},
		{impl.Node{Kids: make([]int, 200000)}, 2 + 200000},
	} {
		if n := impl.SizeOf(c.x); n != c.want {
			t.Errorf("SizeOf of %d keys, %d values, %d kids, a leaf %v = %d, not %d", len(c.x.Keys), len(c.x.Vals), len(c.x.Kids), c.x.Leaf, n, c.want)
		}
		if impl.NodeOk(c.x) || len(impl.PutNode(c.x)) != 0 {
			t.Errorf("%d keys, %d values, %d kids, a leaf %v: right", len(c.x.Keys), len(c.x.Vals), len(c.x.Kids), c.x.Leaf)
		}
	}
}

func TestNodesCutAnywhere(t *testing.T) {
	for what, x := range rightNodes() {
		b := wordsBody(x)
		for n := range len(b) {
			noNodeOf(t, what+", cut", b[:n])
		}
	}
}

func TestNodesWithBytesBehind(t *testing.T) {
	for what, x := range rightNodes() {
		b := wordsBody(x)
		for c := range 256 {
			noNodeOf(t, what+", a byte behind", b+string([]byte{byte(c)}))
		}
		for _, more := range []string{"\x00\x00", "more", b, strings.Repeat("\x00", 240), strings.Repeat("\x00", 300)} {
			noNodeOf(t, what+", bytes behind", b+more)
		}
	}
}

// Of all first numbers in one group and in two only 0 and 1 are kinds.
func TestNodesOfNoKind(t *testing.T) {
	for what, x := range rightNodes() {
		rest := wordsBody(x)[1:]
		for _, n := range []int{2, 3, 4, 47, 48, 126, 127, 128, 129, 130, 255, 256, 257, 16383, 16384, 16385, 999999, 1000000} {
			noNodeOf(t, fmt.Sprint(what, ", the kind ", n), wordsGroups(n)+rest)
		}
		for _, ahead := range []string{"\x81\x00", "\x80\x00", "\x81\x80\x00", "\x80\x80\x00", "\x81", "\x80", "\xc1\x84\x3d", "\xff\xff\xff", ""} {
			noNodeOf(t, fmt.Sprintf("%s, the kind %x", what, ahead), ahead+rest)
		}
	}
	for n := 2; n < 16384; n++ {
		noNodeOf(t, fmt.Sprint("the kind ", n), countForm(n)+"\x01\x01a\x01v")
		noNodeOf(t, fmt.Sprint("the kind ", n), countForm(n)+"\x01\x01a\x02\x03")
	}
	// What one kind has is none of the other kind.
	noNodeOf(t, "a leaf's rest", "\x00\x01\x01a\x01v")
	noNodeOf(t, "another's rest", "\x01\x01\x01a\x03\x04")
}

func TestNodesWithNeedlessGroups(t *testing.T) {
	for _, c := range []struct{ name, b string }{
		{"how many keys, of a leaf", "\x01\x81\x00\x01a\x01v"},
		{"how many keys, with two", "\x01\x81\x80\x00\x01a\x01v"},
		{"how many keys, of another", "\x00\x81\x00\x01a\x02\x03"},
		{"no keys, of another", "\x00\x80\x00\x02"},
		{"a key's bytes, of a leaf", "\x01\x01\x81\x00a\x01v"},
		{"an empty key's bytes, of a leaf", "\x01\x01\x80\x00\x01v"},
		{"a key's bytes, of another", "\x00\x01\x81\x00a\x02\x03"},
		{"a value's bytes", "\x01\x01\x01a\x81\x00v"},
		{"an empty value's bytes", "\x01\x01\x01a\x80\x00"},
		{"the first kid", "\x00\x01\x01a\x82\x00\x03"},
		{"the last kid", "\x00\x01\x01a\x02\x83\x00"},
		{"the last kid, with two", "\x00\x01\x01a\x02\x83\x80\x00"},
		{"one kid alone", "\x00\x00\x82\x00"},
	} {
		noNodeOf(t, c.name, c.b)
	}
}

func TestGetNodeOfWhatIsNotRight(t *testing.T) {
	for _, c := range []struct{ name, b string }{
		{"nothing", ""},
		{"a leaf alone", "\x01"},
		{"another alone", "\x00"},
		{"a leaf without keys", "\x01\x00"},
		{"another without kids", "\x00\x00"},
		{"keys that are the same", "\x01\x02\x01a\x01a\x00\x00"},
		{"keys that descend", "\x01\x02\x01b\x01a\x00\x00"},
		{"keys between that are the same", "\x00\x02\x01a\x01a\x02\x03\x04"},
		{"keys between that descend", "\x00\x02\x01b\x01a\x02\x03\x04"},
		{"a value too few", "\x01\x02\x01a\x01b\x01v"},
		{"a value too many", "\x01\x01\x01a\x01v\x01w"},
		{"a kid too few", "\x00\x01\x01a\x02"},
		{"a kid too many", "\x00\x01\x01a\x02\x03\x04"},
		{"the kid 0", "\x00\x01\x01a\x00\x02"},
		{"the kid 1", "\x00\x01\x01a\x02\x01"},
		{"the kid MaxSecs", "\x00\x01\x01a\x02\x30"},
		{"the kid 127", "\x00\x01\x01a\x02\x7f"},
		{"the kid 130", "\x00\x01\x01a\x02\x82\x01"},
		{"the kid 258", "\x00\x01\x01a\x02\x82\x02"},
		{"the kid MaxNum", "\x00\x01\x01a\x02\xc0\x84\x3d"},
		{"a kid above MaxNum", "\x00\x01\x01a\x02\xff\xff\xff"},
		{"a key of one more", "\x01\x01\x31" + long(49) + "\x00"},
		{"a value of one more", "\x01\x01\x01a\x3d" + long(61)},
		{"MaxNum keys", "\x01\xc0\x84\x3d\x01a\x01v"},
		{"more keys than MaxNum", "\x01\xc1\x84\x3d\x01a\x01v"},
		{"a key past the end", "\x01\x01\x05a\x01v"},
		{"a value past the end", "\x01\x01\x01a\x02v"},
		{"a text that ends by a mark", "\x01\x01a\x00\x01v\x00\x01"},
	} {
		noNodeOf(t, c.name, c.b)
	}
	for n := range 300 {
		noNodeOf(t, "noughts", strings.Repeat("\x00", n))
		noNodeOf(t, "all bits", strings.Repeat("\xff", n))
		noNodeOf(t, "twos", strings.Repeat("\x02", n))
	}
	if x, ok := impl.GetNode(nil); nodeText(x) != nodeText(impl.Node{}) || ok {
		t.Errorf("nil: %s, %v", nodeText(x), ok)
	}
	// The counts are right, and yet there is far too much.
	noNodeOf(t, "MaxNum empty keys", "\x01\xc0\x84\x3d"+strings.Repeat("\x00", 2000000))
	noNodeOf(t, "MaxNum kids and one", "\x00\xc0\x84\x3d"+strings.Repeat("\x00", 1000000)+strings.Repeat("\x02", 1000001))
}

// nodeRead reads a node by the words alone: it takes numbers of one group and of two, and holds what it has against its body.
func nodeRead(b string) (impl.Node, bool) {
	at := 0
	bad := false
	number := func() int {
		if at < len(b) && b[at] < 128 {
			at++
			return int(b[at-1])
		}
		if at+1 < len(b) && b[at+1] < 128 {
			at += 2
			return int(b[at-2]) - 128 + 128*int(b[at-1])
		}
		bad = true
		return 0
	}
	text := func() string {
		n := number()
		bad = bad || n > len(b)-at
		if bad {
			return ""
		}
		at += n
		return b[at-n : at]
	}
	x := impl.Node{Leaf: number() == 1}
	count := number()
	for i := 0; i < count && !bad; i++ {
		x.Keys = append(x.Keys, text())
	}
	for i := 0; x.Leaf && i < count && !bad; i++ {
		x.Vals = append(x.Vals, text())
	}
	for i := 0; !x.Leaf && i <= count && !bad; i++ {
		x.Kids = append(x.Kids, number())
	}
	if bad || !wordsNodeOk(x) || wordsBody(x) != b {
		return impl.Node{}, false
	}
	return x, true
}

func readsNode(t *testing.T, b string) bool {
	t.Helper()
	x, ok := impl.GetNode([]byte(b))
	want, wanted := nodeRead(b)
	if nodeText(x) != nodeText(want) || ok != wanted {
		t.Fatalf("GetNode(%x) = %s, %v, not %s, %v", b, nodeText(x), ok, nodeText(want), wanted)
	}
	if ok && string(impl.PutNode(x)) != b {
		t.Fatalf("GetNode(%x) = %s, whose bytes are %x", b, nodeText(x), impl.PutNode(x))
	}
	return ok
}

// All short bytes that the form leans on: what is read is just what is made.
func TestGetNodeReadsJustWhatIsMade(t *testing.T) {
	nodes := 0
	for _, b := range textsOf("\x00\x01\x02\x03\x2f\x30\x80\x81", 6) {
		if readsNode(t, b) {
			nodes++
		}
	}
	// One kid alone: 3; two kids with a key of 0 and of 1 byte: 9 and 8*9; three with the empty key ahead need 7 bytes.
	inner := 3 + 9 + 8*9
	// A leaf of one key: k and v with 0 to 2 bytes in all; two keys need the empty one ahead of one byte, and so 7.
	leaf := 1 + 2*8 + 3*64
	if nodes != inner+leaf {
		t.Errorf("%d nodes, not %d", nodes, inner+leaf)
	}
}

// someText has up to most bytes, of few letters, so that texts meet.
func someText(r *rand.Rand, most int) string {
	b := make([]byte, r.Intn(most+1))
	for i := range b {
		b[i] = "\x00ab\xff"[r.Intn(4)]
	}
	return string(b)
}

// someNode is right as often as not.
func someNode(r *rand.Rand) impl.Node {
	x := impl.Node{Leaf: r.Intn(2) == 0}
	most := []int{2, 8, 50, 100}[r.Intn(4)]
	for range r.Intn(8) {
		x.Keys = append(x.Keys, someText(r, most))
	}
	if r.Intn(5) > 0 {
		slices.Sort(x.Keys)
		x.Keys = slices.Compact(x.Keys)
	}
	vals, kids := 0, len(x.Keys)+1
	if x.Leaf {
		vals, kids = len(x.Keys), 0
	}
	if r.Intn(6) == 0 {
		vals = max(vals+r.Intn(3)-1, 0)
	}
	if r.Intn(6) == 0 {
		kids = max(kids+r.Intn(3)-1, 0)
	}
	for range vals {
		x.Vals = append(x.Vals, someText(r, []int{1, 20, 62}[r.Intn(3)]))
	}
	for range kids {
		x.Kids = append(x.Kids, 2+r.Intn(46))
	}
	if len(x.Kids) > 0 && r.Intn(6) == 0 {
		x.Kids[r.Intn(len(x.Kids))] = []int{-1, 0, 1, 2, 47, 48, 49, 130, 1 << 40}[r.Intn(9)]
	}
	return x
}

func TestNodesByTheWords(t *testing.T) {
	r := rand.New(rand.NewSource(14))
	right, wrong := 0, 0
	for range 40000 {
		x := someNode(r)
		if wordsNodeOk(x) {
			right++
			isNode(t, "some", x, wordsBody(x))
		} else {
			wrong++
			isNoNode(t, "some", x)
		}
		b := []byte(wordsBody(x))
		readsNode(t, string(b))
		switch at := r.Intn(len(b)); r.Intn(4) {
		case 0:
			b[at] = byte(r.Intn(256))
		case 1:
			b = append(b[:at:at], b[at+1:]...)
		case 2:
			b = append(b[:at:at], append([]byte{byte(r.Intn(4))}, b[at:]...)...)
		case 3:
			b[at] ^= 1 << r.Intn(8)
		}
		readsNode(t, string(b))
	}
	if right < 5000 || wrong < 5000 {
		t.Errorf("%d right, %d wrong", right, wrong)
	}
}

// A node's bytes are a page's body, however many there are.
func TestNodesComeBackOfPages(t *testing.T) {
	for size := 230; size <= 240; size++ {
		for what, x := range bodiesOf(size) {
			_, body, whole := impl.GetPage(impl.PutPage(impl.PgNode, impl.PutNode(x)))
			if got, ok := impl.GetNode(body); !whole || !ok || nodeText(got) != nodeText(x) {
				t.Errorf("%s of %d bytes: %s, %v, %v", what, size, nodeText(got), whole, ok)
			}
		}
	}
}

// unlikeNodes has nodes no two of which are the same; most differ from one in a single field.
func unlikeNodes() []impl.Node {
	full := impl.Node{Keys: texts("a", "b"), Vals: texts("v", "w"), Kids: []int{2, 3, 4}}
	turns := []func(x *impl.Node){
		func(x *impl.Node) {},
		func(x *impl.Node) { x.Leaf = true },
		func(x *impl.Node) { x.Keys[0] = "" },
		func(x *impl.Node) { x.Keys[1] = "c" },
		func(x *impl.Node) { x.Keys[0], x.Keys[1] = "b", "a" },
		func(x *impl.Node) { x.Keys = texts("a") },
		func(x *impl.Node) { x.Keys = texts("a", "b", "") },
		func(x *impl.Node) { x.Keys = texts("ab") },
		func(x *impl.Node) { x.Keys = nil },
		func(x *impl.Node) { x.Vals[0] = "x" },
		func(x *impl.Node) { x.Vals[1] = "w\x00" },
		func(x *impl.Node) { x.Vals = texts("v") },
		func(x *impl.Node) { x.Vals = texts("v", "w", "") },
		func(x *impl.Node) { x.Vals = nil },
		func(x *impl.Node) { x.Kids[0] = 258 },
		func(x *impl.Node) { x.Kids[2] = 5 },
		func(x *impl.Node) { x.Kids = []int{2, 3} },
		func(x *impl.Node) { x.Kids = []int{2, 3, 4, 0} },
		func(x *impl.Node) { x.Kids = []int{4, 3, 2} },
		func(x *impl.Node) { x.Kids = nil },
	}
	out := []impl.Node{{}, {Leaf: true}, leafOf("a", "v"), innerOf(nil, 2), {Leaf: true, Keys: texts("v"), Vals: texts("a")}}
	for _, turn := range turns {
		x := nodeCopy(full)
		turn(&x)
		out = append(out, x)
	}
	return out
}

func TestSameNode(t *testing.T) {
	all := unlikeNodes()
	for i, a := range all {
		for j, b := range all {
			if got := impl.SameNode(a, nodeCopy(b)); got != (i == j) {
				t.Errorf("SameNode(%s, %s) = %v", nodeText(a), nodeText(b), got)
			}
		}
		if !impl.SameNode(a, a) {
			t.Errorf("SameNode(%s) of itself is false", nodeText(a))
		}
	}
}

// An empty list and nil are the same value, in each of the lists, to all that is asked.
func TestNodesOfEmptyLists(t *testing.T) {
	for _, x := range append(unlikeNodes(), leafOf("a", "v"), innerOf(nil, 2), innerOf(texts("m"), 2, 3)) {
		for _, turn := range []func(x *impl.Node, nils bool){
			func(x *impl.Node, nils bool) { x.Keys = listOr(nils, x.Keys) },
			func(x *impl.Node, nils bool) { x.Vals = listOr(nils, x.Vals) },
			func(x *impl.Node, nils bool) { x.Kids = listOr(nils, x.Kids) },
		} {
			a, b := nodeCopy(x), nodeCopy(x)
			turn(&a, true)
			turn(&b, false)
			if !impl.SameNode(a, b) || !impl.SameNode(b, a) {
				t.Errorf("SameNode(%#v, %#v)", a, b)
			}
			if impl.NodeOk(a) != impl.NodeOk(b) || impl.NodeOk(a) != wordsNodeOk(a) || impl.SizeOf(a) != impl.SizeOf(b) || string(impl.PutNode(a)) != string(impl.PutNode(b)) || impl.ChildOf(a, "a") != impl.ChildOf(b, "a") {
				t.Errorf("an empty list and nil are told apart: %#v", a)
			}
		}
	}
	if !impl.NodeOk(impl.Node{Leaf: true, Keys: texts("a"), Vals: texts("v"), Kids: []int{}}) || !impl.NodeOk(impl.Node{Vals: []string{}, Kids: []int{2}}) {
		t.Error("an empty list is not a list without elements")
	}
}

func TestChildOf(t *testing.T) {
	three := texts("b", "bc", "d")
	for _, c := range []struct {
		keys []string
		key  string
		want int
	}{
		{three, "", 0},
		{three, "a", 0},
		{three, "azz", 0},
		{three, "b", 1},
		{three, "b\x00", 1},
		{three, "bb", 1},
		{three, "bbz", 1},
		{three, "bc", 2},
		{three, "bc\x00", 2},
		{three, "c", 2},
		{three, "czz", 2},
		{three, "d", 3},
		{three, "da", 3},
		{three, "\xff", 3},
		{nil, "", 0},
		{nil, "a", 0},
		{texts(""), "", 1},
		{texts(""), "a", 1},
		{texts("", "\x00"), "", 1},
		{texts("", "\x00"), "\x00", 2},
		{texts("\x7f", "\x80", "\xff"), "\x7f\xff", 1},
		{texts("\x7f", "\x80", "\xff"), "\x80", 2},
		{texts("\x7f", "\x80", "\xff"), "\xff\xff", 3},
		// Not right, and yet counted: those that are no greater, wherever they stand.
		{texts("c", "a", "b"), "b", 2},
		{texts("c", "a", "b"), "a", 1},
		{texts("a", "a", "a"), "a", 3},
		{texts("a", "a", "b"), "a", 2},
		{texts("z", "a"), "m", 1},
	} {
		for _, x := range []impl.Node{{Keys: c.keys}, {Leaf: true, Keys: c.keys}, {Keys: c.keys, Vals: c.keys, Kids: someKids(len(c.keys) + 1)}, {Leaf: true, Keys: c.keys, Vals: make([]string, len(c.keys))}} {
			if n := impl.ChildOf(x, c.key); n != c.want {
				t.Errorf("ChildOf(%s, %q) = %d, not %d", nodeText(x), c.key, n, c.want)
			}
		}
	}
}

// Of each node that is right ChildOf is the place of a Kid, and steps up at just the Keys.
func TestChildOfIsAPlace(t *testing.T) {
	for what, x := range rightNodes() {
		for i, k := range x.Keys {
			if n := impl.ChildOf(x, k); n != i+1 {
				t.Errorf("%s: ChildOf the key %q is %d", what, k, n)
			}
			if n := impl.ChildOf(x, k+"\x00"); n < i+1 || n > len(x.Keys) {
				t.Errorf("%s: ChildOf behind the key %q is %d", what, k, n)
			}
			if k != "" && impl.ChildOf(x, k[:len(k)-1]) > i {
				t.Errorf("%s: ChildOf ahead of the key %q is %d", what, k, impl.ChildOf(x, k[:len(k)-1]))
			}
		}
		if n := impl.ChildOf(x, strings.Repeat("\xff", 60)); n != len(x.Keys) {
			t.Errorf("%s: ChildOf behind all is %d", what, n)
		}
	}
}

// What was asked ahead leaves nothing behind.
func TestNodesKeepNothing(t *testing.T) {
	leaf, inner := leafOf("a", "v"), innerOf(texts("m"), 5, 47)
	for range 3 {
		isNode(t, "a leaf", leaf, "\x01\x01\x01a\x01v")
		isNoNode(t, "between them", impl.Node{Leaf: true, Keys: texts("a"), Kids: []int{2, 3}})
		noNodeOf(t, "between them", "\x01\x01\x01a")
		isNode(t, "another", inner, "\x00\x01\x01m\x05\x2f")
	}
}

// roomyNode has spare room behind each list, with what would be wrong there, or make whole what is too short.
func roomyNode(x impl.Node) impl.Node {
	x = nodeCopy(x)
	x.Keys = append(x.Keys, "\xff\xff", "")[:len(x.Keys)]
	x.Vals = append(x.Vals, "spare", long(99))[:len(x.Vals)]
	x.Kids = append(x.Kids, 3, -9)[:len(x.Kids)]
	return x
}

// allNode has a node as a text with the spare room that roomyNode made.
func allNode(x impl.Node) string {
	x.Keys, x.Vals, x.Kids = x.Keys[:len(x.Keys)+2], x.Vals[:len(x.Vals)+2], x.Kids[:len(x.Kids)+2]
	return nodeText(x)
}

func TestNodesAreNotWrittenTo(t *testing.T) {
	all := unlikeNodes()
	for _, x := range rightNodes() {
		all = append(all, x)
	}
	for _, x := range all {
		roomy := roomyNode(x)
		ahead := allNode(roomy)
		if impl.NodeOk(roomy) != wordsNodeOk(x) || impl.SizeOf(roomy) != len(wordsBody(x)) || impl.ChildOf(roomy, "\xff\xff\xff") != len(x.Keys) {
			t.Errorf("the spare room behind %s is read", nodeText(x))
		}
		if !impl.SameNode(roomy, x) || !impl.SameNode(x, roomy) || string(impl.PutNode(roomy)) != string(impl.PutNode(x)) {
			t.Errorf("the spare room behind %s is read", nodeText(x))
		}
		overwrite(impl.PutNode(roomy))
		if allNode(roomy) != ahead {
			t.Errorf("the node %s turned into %s", ahead, allNode(roomy))
		}
	}
}

// fillNode writes over all that an answer has, and all the room that came with it.
func fillNode(keys []string, vals []string, kids []int) {
	for i := range keys[:cap(keys)] {
		keys[:cap(keys)][i] = "filled"
	}
	for i := range vals[:cap(vals)] {
		vals[:cap(vals)][i] = "filled"
	}
	for i := range kids[:cap(kids)] {
		kids[:cap(kids)][i] = -7
	}
}

func TestNodesThatAreReadAreNewMemory(t *testing.T) {
	for what, x := range rightNodes() {
		b := spared(wordsBody(x))
		first, _ := impl.GetNode(b)
		second, _ := impl.GetNode(b)
		fillNode(first.Keys, first.Vals, first.Kids)
		untouched(t, what, b, wordsBody(x))
		if nodeText(second) != nodeText(x) {
			t.Errorf("%s: two answers share memory: %s", what, nodeText(second))
		}
		overwrite(b)
		if nodeText(second) != nodeText(x) {
			t.Errorf("%s: the node shares memory with its bytes: %s", what, nodeText(second))
		}
		// No two lists of it share any.
		fillNode(second.Keys, nil, nil)
		if !slices.Equal(second.Vals, x.Vals) || !slices.Equal(second.Kids, x.Kids) {
			t.Errorf("%s: two lists share memory: %s", what, nodeText(second))
		}
		third, _ := impl.GetNode([]byte(wordsBody(x)))
		fillNode(nil, third.Vals, third.Kids)
		if !slices.Equal(third.Keys, x.Keys) {
			t.Errorf("%s: two lists share memory: %s", what, nodeText(third))
		}
	}
}

// A node that is refused hands out no room either.
func TestBytesThatAreNoNodeAreNotWrittenTo(t *testing.T) {
	for _, s := range []string{"", "\x01", "\x01\x01\x01a", "\x00\x01\x01a\x02", "\x02\x01\x01a\x01v", "\x00\x00\x02\x03"} {
		b := spared(s)
		x, ok := impl.GetNode(b)
		fillNode(x.Keys, x.Vals, x.Kids)
		untouched(t, "GetNode", b, s)
		if ok {
			t.Errorf("GetNode(%x) is true", s)
		}
	}
}

func TestBytesOfNodesAreNewMemory(t *testing.T) {
	for what, x := range rightNodes() {
		first, second := impl.PutNode(x), impl.PutNode(x)
		overwrite(first)
		if string(second) != wordsBody(x) || nodeText(x) != nodeText(rightNodes()[what]) {
			t.Errorf("%s: two answers share memory", what)
		}
	}
	empty := impl.PutNode(impl.Node{})
	overwrite(empty)
	if again := impl.PutNode(impl.Node{}); len(again) != 0 {
		t.Errorf("of nothing: %x", again)
	}
}

// The spare room goes on with what would make each of these whole.
func TestNodeSpareRoomIsNotRead(t *testing.T) {
	for what, x := range rightNodes() {
		b := []byte(wordsBody(x))
		for n := range b {
			if got, ok := impl.GetNode(b[:n]); nodeText(got) != nodeText(impl.Node{}) || ok {
				t.Errorf("%s: %d of %d bytes: %s, %v", what, n, len(b), nodeText(got), ok)
			}
		}
	}
	keys, vals, kids := texts("a", "b", "c"), texts("v", "w", "x"), []int{2, 3, 4, 5}
	for n := 1; n <= 3; n++ {
		x := impl.Node{Leaf: true, Keys: keys[:n], Vals: vals[:n], Kids: kids[:0]}
		isNode(t, "a leaf", x, wordsBody(x))
		x = impl.Node{Keys: keys[:n-1], Vals: vals[:0], Kids: kids[:n]}
		isNode(t, "another", x, wordsBody(x))
		isNoNode(t, "a value too few", impl.Node{Leaf: true, Keys: keys[:n], Vals: vals[:n-1]})
		isNoNode(t, "a kid too few", impl.Node{Keys: keys[:n], Kids: kids[:n]})
	}
}
