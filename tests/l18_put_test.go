package tests

import (
	"fmt"
	"math/rand"
	"slices"
	"strings"
	"testing"

	"loop.example/g00322/impl"
)

var _ func(impl.Txn, string, string) (impl.Txn, int) = impl.Put

// wordsChange is a Txn while nodes are put into it by the chapter's words.
type wordsChange struct {
	x    impl.Txn
	had  []int // the sectors of New, as it came
	full bool
}

// put gives a node of this sector a place; one of no sector is new.
func (c *wordsChange) put(n int, node impl.Node) int {
	if !slices.Contains(c.had, n) {
		free := wordsFree(c.x)
		if len(free) == 0 {
			c.full = true
			return 0
		}
		n = free[0]
	}
	c.x.New = slices.DeleteFunc(c.x.New, func(f impl.Fresh) bool { return f.N == n })
	c.x.New = append(c.x.New, fresh(n, nodeCopy(node)))
	slices.SortFunc(c.x.New, func(a, b impl.Fresh) int { return a.N - b.N })
	return n
}

// wordsCut has the two that a node is cut in, and the key between.
func wordsCut(x impl.Node) (impl.Node, string, impl.Node) {
	if x.Leaf {
		for n := len(x.Keys) - 1; ; n-- {
			first := impl.Node{Leaf: true, Keys: x.Keys[:n], Vals: x.Vals[:n]}
			if len(wordsBody(first)) <= 240 {
				return first, x.Keys[n], impl.Node{Leaf: true, Keys: x.Keys[n:], Vals: x.Vals[n:]}
			}
		}
	}
	for n := len(x.Kids) - 1; ; n-- {
		first := innerOf(x.Keys[:n-1], x.Kids[:n]...)
		if len(wordsBody(first)) <= 240 {
			return first, x.Keys[n-1], innerOf(x.Keys[n:], x.Kids[n:]...)
		}
	}
}

// wordsPlace has how many Keys are no greater than this one.
func wordsPlace(x impl.Node, key string) int {
	place := 0
	for _, k := range x.Keys {
		if strings.Compare(k, key) <= 0 {
			place++
		}
	}
	return place
}

// wordsWith is a leaf with one pair more, or with another value.
func wordsWith(x impl.Node, key string, val string) impl.Node {
	has := map[string]string{key: val}
	keys := texts(key)
	for i, k := range x.Keys {
		if k != key {
			has[k] = x.Vals[i]
			keys = append(keys, k)
		}
	}
	slices.Sort(keys)
	out := impl.Node{Leaf: true}
	for _, k := range keys {
		out.Keys, out.Vals = append(out.Keys, k), append(out.Vals, has[k])
	}
	return out
}

// down puts what is below a sector, and then its node: it has the sectors that come in its place, and the key between two.
func (c *wordsChange) down(n int, key string, val string) ([]int, []string) {
	node, _ := wordsNodeAt(c.x, n)
	node = nodeCopy(node)
	if n == 0 {
		node = impl.Node{Leaf: true}
	}
	if node.Leaf {
		node = wordsWith(node, key, val)
	} else {
		i := wordsPlace(node, key)
		kids, keys := c.down(node.Kids[i], key, val)
		node.Kids = slices.Replace(node.Kids, i, i+1, kids...)
		node.Keys = slices.Insert(node.Keys, i, keys...)
	}
	if len(wordsBody(node)) <= 240 {
		return []int{c.put(n, node)}, nil
	}
	first, between, second := wordsCut(node)
	at := c.put(n, first)
	return []int{at, c.put(0, second)}, texts(between)
}

// wordsPut puts a key by the chapter's words.
func wordsPut(x impl.Txn, key string, val string) (impl.Txn, int) {
	if !wordsTreeOk(x) {
		return x, impl.CoForm
	}
	if len(key) > 48 || len(val) > 60 {
		return x, impl.CoLarge
	}
	c := &wordsChange{x: txnCopy(x), had: newSecs(x)}
	kids, keys := c.down(x.Root, key, val)
	if len(kids) == 2 {
		kids[0] = c.put(0, innerOf(keys, kids...))
	}
	c.x.Root = kids[0]
	if c.full {
		return x, impl.CoSpace
	}
	return c.x, impl.CoGood
}

// puts asks for just this Root and these new nodes behind a Put.
func puts(t *testing.T, what string, x impl.Txn, key string, val string, root int, news ...impl.Fresh) impl.Txn {
	t.Helper()
	want := impl.Txn{D: x.D, M: x.M, Root: root, New: news}
	got, code := impl.Put(x, key, val)
	if txnText(got) != txnText(want) || code != impl.CoGood {
		t.Errorf("%s: Put(%s, %q, %q) = %s, %d, not %s", what, txnText(x), key, val, txnText(got), code, txnText(want))
	}
	turnsInOneKey(t, what, x, key, val, got)
	putAs(t, what, x, key, val)
	return got
}

// putsNot asks that a Put is refused, and that nothing turns.
func putsNot(t *testing.T, what string, x impl.Txn, key string, val string, code int) {
	t.Helper()
	got, c := impl.Put(x, key, val)
	if txnText(got) != txnText(x) || c != code {
		t.Errorf("%s: Put(%s, %.99q, %.99q) = %s, %d, not %d", what, txnText(x), key, val, txnText(got), c, code)
	}
}

// putAs asks what the words say of a Put.
func putAs(t *testing.T, what string, x impl.Txn, key string, val string) (impl.Txn, int) {
	t.Helper()
	want, code := wordsPut(x, key, val)
	got, c := impl.Put(x, key, val)
	if txnText(got) != txnText(want) || c != code {
		t.Errorf("%s: Put(%s, %q, %q) = %s, %d, not %s, %d", what, txnText(x), key, val, txnText(got), c, txnText(want), code)
	}
	return got, c
}

// withPair has these pairs, and this one in its place.
func withPair(all []impl.Pair, key string, val string) []impl.Pair {
	out := slices.DeleteFunc(slices.Clone(all), func(p impl.Pair) bool { return p.Key == key })
	out = append(out, impl.Pair{Key: key, Val: val})
	slices.SortFunc(out, func(a, b impl.Pair) int { return strings.Compare(a.Key, b.Key) })
	return out
}

// turnsInOneKey asks what is told of y, which x became as a key was put.
func turnsInOneKey(t *testing.T, what string, x impl.Txn, key string, val string, y impl.Txn) {
	t.Helper()
	if !impl.TxnOk(y) || !impl.TreeOk(y) {
		t.Errorf("%s: behind %q, %q it is no tree: %s", what, key, val, txnText(y))
	}
	finds(t, what, y, key, val)
	isPairs(t, what, y, withPair(wordsPairs(x), key, val))
	for _, k := range near(key)[1:] {
		want, there := wordsFind(x, k)
		if got, ok := impl.Find(y, k); got != want || ok != there {
			t.Errorf("%s: behind %q, of %q there is %q, %v, not %q, %v", what, key, k, got, ok, want, there)
		}
	}
	if !sameDisk(y.D, x.D) || y.M != x.M {
		t.Errorf("%s: what is kept turned into %s", what, txnText(y))
	}
}

// keptTree has a tree that is kept, its nodes in the sectors from 2 on of so many; the first is Root.
func keptTree(secs int, nodes ...impl.Node) impl.Txn {
	x := impl.Txn{D: impl.Format(secs, nil), M: meta(1, 2), Root: 2}
	x.D.Secs[1] = []byte(wordsMeta(x.M))
	for i, node := range nodes {
		x.D.Secs[i+2] = []byte(nodePage(node))
	}
	return x
}

// freshTree has a tree that is new, its nodes in the sectors from 2 on of so many; the first is Root.
func freshTree(secs int, nodes ...impl.Node) impl.Txn {
	x := newTree(nodes...)
	x.D = impl.Format(secs, nil)
	return x
}

// leafOfSize has a leaf that has so many bytes: the first values are as long as they may be.
func leafOfSize(size int, keys ...string) impl.Node {
	x := impl.Node{Leaf: true, Keys: keys, Vals: make([]string, len(keys))}
	for i := range keys {
		x.Vals[i] = strings.Repeat("v", min(size-len(wordsBody(x)), 60))
	}
	return x
}

// wide has a text of n bytes that begins with s.
func wide(s string, n int) string { return s + strings.Repeat("x", n-len(s)) }

func TestPuttingWithoutARoot(t *testing.T) {
	for _, secs := range []int{4, 5, 48} {
		x := impl.TxNew(impl.Format(secs, nil))
		puts(t, "a new disk", x, "b", "1", 2, fresh(2, leafOf("b", "1")))
		puts(t, "the empty key", x, "", "1", 2, fresh(2, leafOf("", "1")))
		puts(t, "the empty value", x, "b", "", 2, fresh(2, leafOf("b", "")))
		puts(t, "both", x, "", "", 2, fresh(2, leafOf("", "")))
		puts(t, "any bytes", x, "\x00\xff", "\xff\x00", 2, fresh(2, leafOf("\x00\xff", "\xff\x00")))
		puts(t, "the longest", x, long(48), long(60), 2, fresh(2, leafOf(long(48), long(60))))
	}
	x := kept()
	x.Root = 0
	puts(t, "a kept tree, but nothing under way", x, "a", "9", 2, fresh(2, leafOf("a", "9")))
	x.D.Secs[1] = []byte(wordsMeta(meta(1, 5)))
	x.M.Root = 5
	puts(t, "another kept one", x, "a", "9", 2, fresh(2, leafOf("a", "9")))
	x = keptTree(6, innerOf(texts("m"), 3, 4), leafOf("a", "1"), leafOf("m", "1"))
	x.Root = 0
	puts(t, "the last sector", x, "a", "", 5, fresh(5, leafOf("a", "")))
	x = keptTree(5, innerOf(texts("m"), 3, 4), leafOf("a", "1"), leafOf("m", "1"))
	x.Root = 0
	putsNot(t, "all is kept", x, "a", "", impl.CoSpace)
}

func TestPuttingIntoOneLeaf(t *testing.T) {
	for key, want := range map[string]impl.Node{
		"a":     leafOf("a", "9", "b", "1", "d", "2", "da", "3"),
		"b":     leafOf("b", "9", "d", "2", "da", "3"),
		"b\x00": leafOf("b", "1", "b\x00", "9", "d", "2", "da", "3"),
		"c\xff": leafOf("b", "1", "c\xff", "9", "d", "2", "da", "3"),
		"d":     leafOf("b", "1", "d", "9", "da", "3"),
		"d\x00": leafOf("b", "1", "d", "2", "d\x00", "9", "da", "3"),
		"da":    leafOf("b", "1", "d", "2", "da", "9"),
		"da\x00": leafOf(
			"b", "1", "d", "2", "da", "3", "da\x00", "9"),
		"e":    leafOf("b", "1", "d", "2", "da", "3", "e", "9"),
		"\xff": leafOf("b", "1", "d", "2", "da", "3", "\xff", "9"),
		"":     leafOf("", "9", "b", "1", "d", "2", "da", "3"),
		"\x00": leafOf("\x00", "9", "b", "1", "d", "2", "da", "3"),
	} {
		leaf := leafOf("b", "1", "d", "2", "da", "3")
		puts(t, "new", freshTree(4, leaf), key, "9", 2, fresh(2, want))
		puts(t, "on the disk alone", keptTree(4, leaf), key, "9", 3, fresh(3, want))
		one := freshTree(4, leaf)
		one.Root, one.New[0].N = 3, 3
		puts(t, "new, in the last sector", one, key, "9", 3, fresh(3, want))
		full := freshTree(48, leaf)
		full.D = keptTree(4, leafOf("x", "kept")).D
		full.M, full.Root, full.New[0].N = meta(1, 2), 3, 3
		puts(t, "new, with nothing free", full, key, "9", 3, fresh(3, want))
	}
	x := freshTree(4, leafOf("", "none", "b", "1"))
	puts(t, "the empty key is there", x, "", "9", 2, fresh(2, leafOf("", "9", "b", "1")))
	puts(t, "the empty value in its place", x, "b", "", 2, fresh(2, leafOf("", "none", "b", "")))
	puts(t, "the empty value of the empty key", x, "", "", 2, fresh(2, leafOf("", "", "b", "1")))
	puts(t, "the value that it has", x, "b", "1", 2, x.New[0])
	x = keptTree(4, leafOf("b", "1"))
	puts(t, "the value that it has, on the disk alone", x, "b", "1", 3, fresh(3, leafOf("b", "1")))
	x.Root = 0
	puts(t, "beside what is kept", x, "b", "1", 3, fresh(3, leafOf("b", "1")))
}

func TestPuttingBelowARoot(t *testing.T) {
	x := kept() // 6 leads to 3 and 9; 2, 4, 5, 7, 8, 10 and 11 are free
	puts(t, "ahead of all", x, "A", "9", 4, fresh(2, leafOf("A", "9", "a", "1", "b", "2")), fresh(4, innerOf(texts("m"), 2, 9)))
	puts(t, "there", x, "a", "9", 4, fresh(2, leafOf("a", "9", "b", "2")), fresh(4, innerOf(texts("m"), 2, 9)))
	puts(t, "behind the first leaf", x, "l\xff", "9", 4, fresh(2, leafOf("a", "1", "b", "2", "l\xff", "9")), fresh(4, innerOf(texts("m"), 2, 9)))
	puts(t, "the key between", x, "m", "9", 4, fresh(2, leafOf("m", "9", "z", "4")), fresh(4, innerOf(texts("m"), 3, 2)))
	puts(t, "just behind it", x, "m\x00", "9", 4, fresh(2, leafOf("m", "3", "m\x00", "9", "z", "4")), fresh(4, innerOf(texts("m"), 3, 2)))
	puts(t, "behind all", x, "zz", "", 4, fresh(2, leafOf("m", "3", "z", "4", "zz", "")), fresh(4, innerOf(texts("m"), 3, 2)))
	puts(t, "the empty key", x, "", "9", 4, fresh(2, leafOf("", "9", "a", "1", "b", "2")), fresh(4, innerOf(texts("m"), 2, 9)))
	x.Root = 3
	puts(t, "Root is a kept leaf that is no root", x, "q", "9", 2, fresh(2, leafOf("a", "1", "b", "2", "q", "9")))

	x = underWay() // 2 leads to 11, which is new, and to 9; 4, 5, 7, 8 and 10 are free
	root := innerOf(texts("m"), 11, 9)
	puts(t, "all are new", x, "b", "9", 2, fresh(2, root), fresh(11, leafOf("a", "1", "b", "9", "c", "5")))
	puts(t, "all are new, and it is there", x, "c", "", 2, fresh(2, root), fresh(11, leafOf("a", "1", "c", "")))
	puts(t, "Root is new", x, "q", "9", 2, fresh(2, innerOf(texts("m"), 11, 4)), fresh(4, leafOf("m", "3", "q", "9", "z", "4")), x.New[1])
	x.New[0].N, x.New[1].N, x.New[0].X.Kids[0], x.Root = 4, 5, 5, 4
	puts(t, "Root is new, the leaf ahead of it", x, "q", "9", 4, fresh(2, leafOf("m", "3", "q", "9", "z", "4")), fresh(4, innerOf(texts("m"), 5, 2)), x.New[1])
}

// threeKept has a tree of three levels that is kept: 2 leads to 3 and 4, 3 to 5 and 6, 4 to 7 and 8; 9 to 13 are free.
func threeKept() impl.Txn {
	return keptTree(14,
		innerOf(texts("m"), 3, 4),
		innerOf(texts("g"), 5, 6),
		innerOf(texts("t"), 7, 8),
		leafOf("a", "1"),
		leafOf("g", "2"),
		leafOf("m", "3"),
		leafOf("t", "4"))
}

func TestPuttingBelowGrandparents(t *testing.T) {
	x := threeKept()
	puts(t, "the first leaf", x, "b", "9", 11, fresh(9, leafOf("a", "1", "b", "9")), fresh(10, innerOf(texts("g"), 9, 6)), fresh(11, innerOf(texts("m"), 10, 4)))
	puts(t, "the second leaf", x, "l", "9", 11, fresh(9, leafOf("g", "2", "l", "9")), fresh(10, innerOf(texts("g"), 5, 9)), fresh(11, innerOf(texts("m"), 10, 4)))
	puts(t, "the third leaf", x, "m", "9", 11, fresh(9, leafOf("m", "9")), fresh(10, innerOf(texts("t"), 9, 8)), fresh(11, innerOf(texts("m"), 3, 10)))
	puts(t, "the last leaf", x, "z", "9", 11, fresh(9, leafOf("t", "4", "z", "9")), fresh(10, innerOf(texts("t"), 7, 9)), fresh(11, innerOf(texts("m"), 3, 10)))
	x.New, x.Root = []impl.Fresh{fresh(10, innerOf(texts("m"), 3, 4))}, 10
	puts(t, "Root is new", x, "b", "9", 10, fresh(9, leafOf("a", "1", "b", "9")), fresh(10, innerOf(texts("m"), 11, 4)), fresh(11, innerOf(texts("g"), 9, 6)))
	x.New = append(x.New, fresh(12, innerOf(texts("g"), 5, 6)))
	x.New[0].X.Kids[0] = 12
	puts(t, "Root and one above the leaf are new", x, "b", "9", 10, fresh(9, leafOf("a", "1", "b", "9")), x.New[0], fresh(12, innerOf(texts("g"), 9, 6)))
	puts(t, "Root and one aside are new", x, "z", "9", 10, fresh(9, leafOf("t", "4", "z", "9")), fresh(10, innerOf(texts("m"), 12, 11)), fresh(11, innerOf(texts("t"), 7, 9)), x.New[1])
	x.New = append(x.New, fresh(13, leafOf("a", "1", "c", "5")))
	x.New[1].X.Kids[0] = 13
	puts(t, "all are new", x, "b", "9", 10, x.New[0], x.New[1], fresh(13, leafOf("a", "1", "b", "9", "c", "5")))
	puts(t, "the leaf alone is not", x, "h", "9", 10, fresh(9, leafOf("g", "2", "h", "9")), x.New[0], fresh(12, innerOf(texts("g"), 13, 9)), x.New[2])
}

// fourKeys is a leaf of 214 bytes, of which each key has 53.
func fourKeys() impl.Node {
	v := strings.Repeat("v", 50)
	return leafOf("b", v, "d", v, "f", v, "h", v)
}

func TestLeavesThatAreCut(t *testing.T) {
	v, w, just := strings.Repeat("v", 50), strings.Repeat("w", 24), strings.Repeat("w", 23)
	for _, c := range []struct {
		key    string
		first  impl.Node
		second impl.Node
	}{
		{"a", leafOf("a", w, "b", v, "d", v, "f", v), leafOf("h", v)},
		{"c", leafOf("b", v, "c", w, "d", v, "f", v), leafOf("h", v)},
		{"e", leafOf("b", v, "d", v, "e", w, "f", v), leafOf("h", v)},
		{"g", leafOf("b", v, "d", v, "f", v, "g", w), leafOf("h", v)},
		{"i", fourKeys(), leafOf("i", w)},
	} {
		up := c.second.Keys[0]
		puts(t, "new", freshTree(5, fourKeys()), c.key, w, 4, fresh(2, c.first), fresh(3, c.second), fresh(4, innerOf(texts(up), 2, 3)))
		puts(t, "on the disk alone", keptTree(6, fourKeys()), c.key, w, 5, fresh(3, c.first), fresh(4, c.second), fresh(5, innerOf(texts(up), 3, 4)))
		puts(t, "just MaxBody", freshTree(5, fourKeys()), c.key, just, 2, fresh(2, wordsWith(fourKeys(), c.key, just)))
		puts(t, "just MaxBody, on the disk alone", keptTree(6, fourKeys()), c.key, just, 3, fresh(3, wordsWith(fourKeys(), c.key, just)))
		x := keptTree(9, innerOf(texts("a", "m"), 3, 4, 5), leafOf("", "1"), fourKeys(), leafOf("m", "1"))
		x.D.Secs[4] = []byte(nodePage(fourKeys()))
		puts(t, "below a Root", x, c.key, w, 8, fresh(6, c.first), fresh(7, c.second), fresh(8, innerOf(texts("a", up, "m"), 3, 6, 7, 5)))
	}
	x := freshTree(9, innerOf(texts("a", "m"), 3, 4, 5), leafOf("", "1"), fourKeys(), leafOf("m", "1"))
	puts(t, "below a new Root", x, "i", w, 2, fresh(2, innerOf(texts("a", "i", "m"), 3, 4, 6, 5)), x.New[1], fresh(4, fourKeys()), x.New[3], fresh(6, leafOf("i", w)))
	x = freshTree(9, innerOf(texts("m"), 3, 4), fourKeys(), leafOf("m", "1"))
	puts(t, "the first of two", x, "a", w, 2, fresh(2, innerOf(texts("h", "m"), 3, 5, 4)), fresh(3, leafOf("a", w, "b", v, "d", v, "f", v)), x.New[2], fresh(5, leafOf("h", v)))
	x = freshTree(9, innerOf(texts("a"), 3, 4), leafOf("", "1"), fourKeys())
	puts(t, "the last of two", x, "z", w, 2, fresh(2, innerOf(texts("a", "z"), 3, 4, 5)), x.New[1], fresh(4, fourKeys()), fresh(5, leafOf("z", w)))
}

// A value in the place of a longer or a shorter one: the leaf is cut, or is not.
func TestLeavesThatAreCutByAValue(t *testing.T) {
	v := strings.Repeat("v", 50)
	five := leafOf("b", v, "d", v, "f", v, "h", v, "j", "") // 217 bytes
	for n := range 61 {
		val := strings.Repeat("w", n)
		for _, key := range five.Keys {
			want := []impl.Fresh{fresh(2, wordsWith(five, key, val))}
			root := 2
			if size := len(wordsBody(want[0].X)); size > 240 {
				first := want[0].X
				want[0].X = impl.Node{Leaf: true, Keys: first.Keys[:4], Vals: first.Vals[:4]}
				want = append(want, fresh(3, leafOf("j", first.Vals[4])), fresh(4, innerOf(texts("j"), 2, 3)))
				root = 4
			}
			puts(t, fmt.Sprint("a value of ", n), freshTree(5, five), key, val, root, want...)
		}
	}
	x := freshTree(5, leafOfSize(240, "a", "b", "c", "d"))
	puts(t, "less in a full leaf", x, "b", "", 2, fresh(2, wordsWith(x.New[0].X, "b", "")))
	puts(t, "as much in a full leaf", x, "b", strings.Repeat("w", len(x.New[0].X.Vals[1])), 2, fresh(2, wordsWith(x.New[0].X, "b", strings.Repeat("w", len(x.New[0].X.Vals[1])))))
}

// As many keys as have room come first, be it two of three, or all but the last of many.
func TestHowLeavesAreCut(t *testing.T) {
	one, two, three := wide("b", 48), wide("d", 48), wide("f", 48)
	v := long(60)
	x := freshTree(5, leafOf(one, v, two, v))
	puts(t, "the longest, the last", x, three, v, 4, fresh(2, leafOf(one, v, two, v)), fresh(3, leafOf(three, v)), fresh(4, innerOf(texts(three), 2, 3)))
	x = freshTree(5, leafOf(two, v, three, v))
	puts(t, "the longest, the first", x, one, v, 4, fresh(2, leafOf(one, v, two, v)), fresh(3, leafOf(three, v)), fresh(4, innerOf(texts(three), 2, 3)))
	x = freshTree(5, leafOf(one, v, three, v))
	puts(t, "the longest, between", x, two, v, 4, fresh(2, leafOf(one, v, two, v)), fresh(3, leafOf(three, v)), fresh(4, innerOf(texts(three), 2, 3)))
	// A long one ahead of many short ones: there are many that have no room.
	short := impl.Node{Leaf: true, Keys: upTo(47, 3), Vals: make([]string, 47)} // 237 bytes
	y, _ := putAs(t, "ahead of many", freshTree(5, short), wide("\x00", 48), v)
	if len(y.New) != 3 || len(y.New[0].X.Keys) != 26 || len(y.New[1].X.Keys) != 22 || y.New[2].X.Keys[0] != "025" {
		t.Errorf("ahead of many: %s", txnText(y))
	}
	for size := 220; size <= 240; size++ {
		for n := range 20 {
			for _, key := range []string{"0", "a", "bb", "e", "z"} {
				putAs(t, "at the edge", freshTree(5, leafOfSize(size, "a", "b", "c", "d")), key, strings.Repeat("w", n))
			}
		}
	}
}

// wideRoot has a root of 203 bytes, its keys c, e, g and i, of 48 bytes each, and a leaf ahead of, between and behind them.
func wideRoot() []impl.Node {
	v := long(60)
	return []impl.Node{
		innerOf(texts(wide("c", 48), wide("e", 48), wide("g", 48), wide("i", 48)), 3, 4, 5, 6, 7),
		leafOf("a", v, "a1", v, "a2", v),
		leafOf("d", v, "d1", v, "d2", v),
		leafOf("f", v),
		leafOf("h", v),
		leafOf("j", v, "j1", v, "j2", v),
	}
}

func TestRootsThatAreCut(t *testing.T) {
	nodes, v := wideRoot(), long(60)
	c, e, g, i := wide("c", 48), wide("e", 48), wide("g", 48), wide("i", 48)
	for _, n := range []int{35, 36} {
		b, d, k := wide("b", n), wide("d3", n), wide("k", n)
		if n == 35 { // the root has just 240 bytes
			puts(t, "just MaxBody, at the first", freshTree(9, nodes...), b, v, 2, fresh(2, innerOf(texts(b, c, e, g, i), 3, 8, 4, 5, 6, 7)), fresh(3, nodes[1]), fresh(4, nodes[2]), fresh(5, nodes[3]), fresh(6, nodes[4]), fresh(7, nodes[5]), fresh(8, leafOf(b, v)))
			puts(t, "just MaxBody, on the disk alone", keptTree(11, nodes...), k, v, 10, fresh(8, nodes[5]), fresh(9, leafOf(k, v)), fresh(10, innerOf(texts(c, e, g, i, k), 3, 4, 5, 6, 8, 9)))
			continue
		}
		puts(t, "at the first", freshTree(11, nodes...), b, v, 10,
			fresh(2, innerOf(texts(b, c, e, g), 3, 8, 4, 5, 6)), fresh(3, nodes[1]), fresh(4, nodes[2]), fresh(5, nodes[3]), fresh(6, nodes[4]), fresh(7, nodes[5]), fresh(8, leafOf(b, v)),
			fresh(9, innerOf(nil, 7)), fresh(10, innerOf(texts(i), 2, 9)))
		puts(t, "between", freshTree(11, nodes...), d, v, 10,
			fresh(2, innerOf(texts(c, d, e, g), 3, 4, 8, 5, 6)), fresh(3, nodes[1]), fresh(4, nodes[2]), fresh(5, nodes[3]), fresh(6, nodes[4]), fresh(7, nodes[5]), fresh(8, leafOf(d, v)),
			fresh(9, innerOf(nil, 7)), fresh(10, innerOf(texts(i), 2, 9)))
		puts(t, "at the last", freshTree(11, nodes...), k, v, 10,
			fresh(2, innerOf(texts(c, e, g, i), 3, 4, 5, 6, 7)), fresh(3, nodes[1]), fresh(4, nodes[2]), fresh(5, nodes[3]), fresh(6, nodes[4]), fresh(7, nodes[5]), fresh(8, leafOf(k, v)),
			fresh(9, innerOf(nil, 8)), fresh(10, innerOf(texts(k), 2, 9)))
		puts(t, "on the disk alone", keptTree(13, nodes...), d, v, 12,
			fresh(8, nodes[2]), fresh(9, leafOf(d, v)), fresh(10, innerOf(texts(c, d, e, g), 3, 8, 9, 5, 6)), fresh(11, innerOf(nil, 7)), fresh(12, innerOf(texts(i), 10, 11)))
	}
}

// A key that is as long as a node has room for goes up: it stands there alone, and the node that was Root may have to be cut where it has one Kid more.
func TestLongKeysBetween(t *testing.T) {
	v := long(60)
	most := wide("m", 234)
	x := freshTree(48, innerOf(texts(most), 3, 4), leafOf("a", v, "a1", v, "a2", v), leafOf("n", "1"))
	puts(t, "the longest goes up", x, wide("b", 48), v, 7,
		fresh(2, innerOf(texts(wide("b", 48)), 3, 5)), x.New[1], x.New[2], fresh(5, leafOf(wide("b", 48), v)), fresh(6, innerOf(nil, 4)), fresh(7, innerOf(texts(most), 2, 6)))
	x = freshTree(48, innerOf(texts(most), 3, 4), leafOf("a", "1"), leafOf("n", v, "n1", v, "n2", v))
	puts(t, "the longest stays", x, wide("o", 48), v, 7,
		fresh(2, innerOf(texts(most), 3, 4)), x.New[1], x.New[2], fresh(5, leafOf(wide("o", 48), v)), fresh(6, innerOf(nil, 5)), fresh(7, innerOf(texts(wide("o", 48)), 2, 6)))
	// It goes up two levels, and both of the nodes there are cut.
	x = freshTree(48, innerOf(texts(wide("p", 234)), 3, 4),
		innerOf(texts(most), 5, 6), innerOf(nil, 7),
		leafOf("a", v, "a1", v, "a2", v), leafOf("n", "1"), leafOf("q", "1"))
	b := wide("b", 3)
	puts(t, "two levels up", x, b, v, 11,
		fresh(2, innerOf(texts(most), 3, 9)), fresh(3, innerOf(texts(b), 5, 8)), x.New[2], x.New[3], x.New[4], x.New[5], fresh(8, leafOf(b, v)), fresh(9, innerOf(nil, 6)), fresh(10, innerOf(nil, 4)), fresh(11, innerOf(texts(wide("p", 234)), 2, 10)))
}

// The node above the leaf is cut, and Root takes both.
func TestNodesBetweenThatAreCut(t *testing.T) {
	nodes, v := wideRoot(), long(60)
	c, d, e, g, i := wide("c", 48), wide("d3", 36), wide("e", 48), wide("g", 48), wide("i", 48)
	more := []impl.Node{innerOf(nil, 9), leafOf("y", "1"), innerOf(texts("x"), 2, 8)} // 8, 9 and 10
	x := freshTree(14, append(nodes, more...)...)
	x.Root = 10
	puts(t, "all are new", x, d, v, 10,
		fresh(2, innerOf(texts(c, d, e, g), 3, 4, 11, 5, 6)), x.New[1], x.New[2], x.New[3], x.New[4], x.New[5], x.New[6], x.New[7], fresh(10, innerOf(texts(i, "x"), 2, 12, 8)), fresh(11, leafOf(d, v)), fresh(12, innerOf(nil, 7)))
	x = keptTree(16, append(nodes, more...)...)
	x.D.Secs[1] = []byte(wordsMeta(meta(1, 10)))
	x.M, x.Root = meta(1, 10), 10
	puts(t, "on the disk alone", x, d, v, 15,
		fresh(11, nodes[2]), fresh(12, leafOf(d, v)), fresh(13, innerOf(texts(c, d, e, g), 3, 11, 12, 5, 6)), fresh(14, innerOf(nil, 7)), fresh(15, innerOf(texts(i, "x"), 13, 14, 8)))
	x.New, x.Root = []impl.Fresh{fresh(12, innerOf(texts("x"), 2, 8))}, 12
	puts(t, "Root is new", x, d, v, 12,
		fresh(11, nodes[2]), fresh(12, innerOf(texts(i, "x"), 14, 15, 8)), fresh(13, leafOf(d, v)), fresh(14, innerOf(texts(c, d, e, g), 3, 11, 13, 5, 6)), fresh(15, innerOf(nil, 7)))
}

func TestLimitsOfWhatIsPut(t *testing.T) {
	for what, x := range map[string]impl.Txn{"no Root": impl.TxNew(impl.Format(6, nil)), "a leaf": freshTree(6, leafOf("a", "1")), "a kept leaf": keptTree(6, leafOf("a", "1")), "a kept tree": kept(), "a tree": underWay()} {
		for _, n := range []int{0, 1, 47, 48} {
			for _, m := range []int{0, 1, 59, 60} {
				y, code := putAs(t, what, x, long(n), long(m))
				if code != impl.CoGood {
					t.Errorf("%s: a key of %d and a value of %d bytes: %d", what, n, m, code)
				}
				turnsInOneKey(t, what, x, long(n), long(m), y)
			}
		}
		for _, n := range []int{49, 50, 60, 61, 100, 240, 241, 1000001} {
			putsNot(t, what, x, long(n), "", impl.CoLarge)
			putsNot(t, what, x, long(n), long(60), impl.CoLarge)
			putsNot(t, what, x, long(n), long(61), impl.CoLarge)
		}
		for _, m := range []int{61, 62, 100, 240, 241, 1000001} {
			putsNot(t, what, x, "", long(m), impl.CoLarge)
			putsNot(t, what, x, "a", long(m), impl.CoLarge)
			putsNot(t, what, x, long(48), long(m), impl.CoLarge)
		}
	}
	putsNot(t, "a long key that would be there", underWay(), "a"+long(48), "1", impl.CoLarge)
}

// So many sectors are there, and each one that is lacking is told.
func TestPuttingWithoutRoom(t *testing.T) {
	nodes, v := wideRoot(), long(60)
	w := strings.Repeat("w", 24)
	for secs := 8; secs < 13; secs++ {
		putsNot(t, fmt.Sprint("of ", secs, " sectors: a leaf, its second, Root, its second, a new Root"), keptTree(secs, nodes...), wide("b", 36), v, impl.CoSpace)
	}
	for secs := 8; secs < 11; secs++ {
		putsNot(t, fmt.Sprint("of ", secs, " sectors: the second, Root's second, a new Root"), freshTree(secs, nodes...), wide("b", 36), v, impl.CoSpace)
		putsNot(t, fmt.Sprint("of ", secs, " sectors: the leaf, its second, Root"), keptTree(secs, nodes...), wide("b", 35), v, impl.CoSpace)
	}
	putsNot(t, "the second, below a new Root", freshTree(8, nodes...), wide("b", 35), v, impl.CoSpace)
	for secs := 8; secs < 10; secs++ {
		putsNot(t, fmt.Sprint("of ", secs, " sectors: the leaf, Root"), keptTree(secs, nodes...), "a", "1", impl.CoSpace)
	}
	puts(t, "both have room", keptTree(10, nodes...), "f", "1", 9, fresh(8, leafOf("f", "1")), fresh(9, innerOf(nodes[0].Keys, 3, 4, 8, 6, 7)))
	x := freshTree(8, nodes...)
	puts(t, "none is asked for", x, "f", "1", 2, x.New[0], x.New[1], x.New[2], fresh(5, leafOf("f", "1")), x.New[4], x.New[5])
	full := freshTree(5, leafOf("x", "1"))
	full.D, full.M, full.New[0].N, full.Root = keptTree(5, innerOf(nil, 3), leafOf("a", "1")).D, meta(1, 2), 4, 4
	puts(t, "one new leaf, and all others kept", full, "y", "1", 4, fresh(4, leafOf("x", "1", "y", "1")))
	full.New[0].X = fourKeys()
	putsNot(t, "its second", full, "i", w, impl.CoSpace)
	putsNot(t, "no leaf", impl.Txn{D: full.D, M: full.M, Root: 2, New: nil}, "b", w, impl.CoSpace)
	leaf := keptTree(4, fourKeys())
	putsNot(t, "the second of a kept leaf", leaf, "i", w, impl.CoSpace)
	leaf = keptTree(5, fourKeys())
	putsNot(t, "a new Root", leaf, "i", w, impl.CoSpace)
	leaf = freshTree(4, fourKeys())
	putsNot(t, "a new Root of new ones", leaf, "i", w, impl.CoSpace)
	leaf = keptTree(6, fourKeys())
	putAs(t, "just enough", leaf, "i", w)
}

func TestPuttingIntoWhatIsNoTree(t *testing.T) {
	args := [][]string{{"a", "1"}, {"", ""}, {"q", "2"}, {long(48), long(60)}, {long(49), "1"}, {"a", long(61)}, {long(49), long(61)}}
	check := func(what string, x impl.Txn) {
		t.Helper()
		for _, arg := range args {
			putsNot(t, what, x, arg[0], arg[1], impl.CoForm)
		}
	}
	for what, x := range unsound() {
		check(what, x)
	}
	for _, c := range wrongTxns() {
		x := underWay()
		c.turn(&x)
		check(c.what, x)
	}
	check("the zero one", impl.Txn{})
	check("of no root", impl.TxNew(impl.DiskNew(8, nil)))
	check("a new disk without a root", impl.Txn{D: impl.DiskNew(8, nil)})
	x := kept()
	x.D.Secs[9] = []byte(nodePage(leafOf("l", "1")))
	check("not sound on the disk", x)
	x.Root = 0
	puts(t, "not sound on the disk, but not under way", x, "a", "1", 2, fresh(2, leafOf("a", "1")))
	x.Root = 3
	puts(t, "not sound on the disk, beside what is under way", x, "c", "1", 2, fresh(2, leafOf("a", "1", "b", "2", "c", "1")))
}

// Of several codes the first counts.
func TestWhichCodeOfPuttingCounts(t *testing.T) {
	full := keptTree(4, fourKeys())
	full.D.Secs[3] = []byte(nodePage(leafOf("x", "1")))
	full.D.Secs[2] = []byte(nodePage(innerOf(texts("m"), 3, 3)))
	putsNot(t, "no tree, too large, no room", full, long(49), long(61), impl.CoForm)
	putsNot(t, "no tree, no room", full, "a", "1", impl.CoForm)
	full.D.Secs[2] = []byte(nodePage(innerOf(nil, 3)))
	putsNot(t, "too large, no room", full, long(49), "1", impl.CoLarge)
	putsNot(t, "too large, no room", full, "a", long(61), impl.CoLarge)
	putsNot(t, "no room", full, "a", "1", impl.CoSpace)
	full.M.Gen = 3
	putsNot(t, "no root, too large, no room", full, long(49), "1", impl.CoForm)
	putsNot(t, "no root, no room", full, "a", "1", impl.CoForm)
	full.M.Gen = 1
	full.Root = 0
	putsNot(t, "no Root, too large, no room", full, long(49), "1", impl.CoLarge)
	putsNot(t, "no Root, no room", full, "a", "1", impl.CoSpace)
}

// What is new and is not led to on the way of the key stays as it was, and no other list of it turns.
func TestWhatIsNotPutStays(t *testing.T) {
	x := underWay()
	x.New[0].X = innerOf(texts("f", "m", "t"), 11, 4, 9, 5)
	x.New = []impl.Fresh{x.New[0], fresh(4, leafOf("f", "1", "g", "")), fresh(5, leafOf("t", "2")), x.New[1]}
	x.D.Secs[9] = []byte(nodePage(leafOf("m", "3", "p", "4")))
	puts(t, "into 11", x, "b", "9", 2, x.New[0], x.New[1], x.New[2], fresh(11, leafOf("a", "1", "b", "9", "c", "5")))
	puts(t, "into 4", x, "h", "9", 2, x.New[0], fresh(4, leafOf("f", "1", "g", "", "h", "9")), x.New[2], x.New[3])
	puts(t, "into 5", x, "z", "9", 2, x.New[0], x.New[1], fresh(5, leafOf("t", "2", "z", "9")), x.New[3])
	puts(t, "into 9, which is kept", x, "q", "9", 2, fresh(2, innerOf(texts("f", "m", "t"), 11, 4, 7, 5)), x.New[1], x.New[2], fresh(7, leafOf("m", "3", "p", "4", "q", "9")), x.New[3])
}

// A disk that is off, has Writes in its cache, or Faults that wait, is a disk still; the cache is read, and nothing is written.
func TestPuttingMakesNoOperation(t *testing.T) {
	for what, turn := range map[string]func(x *impl.Txn){
		"off":                 func(x *impl.Txn) { x.D.Down = true },
		"no operation left":   func(x *impl.Txn) { x.D.Ops = 100000 },
		"Writes in the cache": func(x *impl.Txn) { x.D.Cache = []impl.Write{write(4, "x"), write(2, "y")} },
		"a Fault at once":     func(x *impl.Txn) { x.D.Faults = []impl.Fault{fault(0, 3, 9)} },
		"Faults":              func(x *impl.Txn) { x.D.Faults = faultLists()[3] },
		"a leaf in the cache": func(x *impl.Txn) { x.D.Cache = []impl.Write{write(9, nodePage(leafOf("m", "cached")))} },
		"a newer root in the cache": func(x *impl.Txn) {
			x.D.Cache, x.M = []impl.Write{write(0, wordsMeta(meta(2, 6)))}, meta(2, 6)
		},
	} {
		for _, x := range []impl.Txn{kept(), underWay()} {
			turn(&x)
			for _, key := range []string{"", "b", "m", "q"} {
				y, code := putAs(t, what, x, key, "9")
				if code != impl.CoGood {
					t.Errorf("%s: %d", what, code)
				}
				turnsInOneKey(t, what, x, key, "9", y)
			}
		}
	}
}

// What is led to, but neither kept nor new, has no sector of its own: the first free one is taken, whatever stands there.
func TestPuttingIntoWhatNobodyKept(t *testing.T) {
	x := kept()
	x.Root = 4
	puts(t, "a leaf", x, "p", "9", 2, fresh(2, leafOf("old", "x", "p", "9")))
	x.Root = 5
	puts(t, "one above a kept leaf", x, "p", "9", 4, fresh(2, leafOf("a", "1", "b", "2", "p", "9")), fresh(4, innerOf(nil, 2)))
	x = impl.TxNew(impl.Format(5, nil))
	x.D.Secs[2] = []byte(nodePage(leafOf("a", "1")))
	x.Root = 2
	puts(t, "the first free one is its own", x, "b", "2", 2, fresh(2, leafOf("a", "1", "b", "2")))
	x.D.Secs[2] = []byte(nodePage(innerOf(texts("m"), 3, 4)))
	x.D.Secs[3], x.D.Secs[4] = []byte(nodePage(leafOf("a", "1"))), []byte(nodePage(leafOf("m", "2")))
	puts(t, "the first free one is the one above", x, "b", "2", 3, fresh(2, leafOf("a", "1", "b", "2")), fresh(3, innerOf(texts("m"), 2, 4)))
	r := rand.New(rand.NewSource(180))
	for range 300 {
		x := someTree(r, somePairs(r))
		for _, key := range keysIn(x)[:min(3, len(keysIn(x)))] {
			putAs(t, "anywhere", x, near(key)[r.Intn(3)], someText(r, 60))
		}
		if t.Failed() {
			t.FailNow()
		}
	}
}

// An empty list and nil are the same value.
func TestPuttingWithEmptyLists(t *testing.T) {
	for _, nils := range []bool{true, false} {
		x := underWay()
		x.D.Cache, x.D.Faults = listOr(nils, x.D.Cache), listOr(nils, x.D.Faults)
		x.New[0].X.Vals, x.New[1].X.Kids = listOr(nils, x.New[0].X.Vals), listOr(nils, x.New[1].X.Kids)
		puts(t, "under way", x, "b", "9", 2, x.New[0], fresh(11, leafOf("a", "1", "b", "9", "c", "5")))
		x = kept()
		x.New = listOr(nils, x.New)
		puts(t, "nothing new", x, "c", "9", 4, fresh(2, leafOf("a", "1", "b", "2", "c", "9")), fresh(4, innerOf(texts("m"), 2, 9)))
		x.Root = 0
		puts(t, "no Root", x, "c", "9", 2, fresh(2, leafOf("c", "9")))
	}
}

// somePut has a key beside one that is there, or any, and a value; few of them are too large.
func somePut(r *rand.Rand, x impl.Txn) (string, string) {
	key := someText(r, []int{2, 5, 20, 48}[r.Intn(4)])
	if pairs := impl.PairsOf(x); len(pairs) > 0 && r.Intn(3) == 0 {
		beside := near(pairs[r.Intn(len(pairs))].Key)
		key = beside[r.Intn(len(beside))]
	}
	switch r.Intn(60) {
	case 0:
		key = wide(key, 49+len(key)/49)
	case 1:
		key = wide(key, max(48, len(key)))
	}
	return key, someText(r, []int{0, 10, 40, 60, 60, 60, 61}[r.Intn(7)])
}

// Many puts in drawn orders, and now and then what came of them is kept.
func TestManyPuts(t *testing.T) {
	r := rand.New(rand.NewSource(18))
	codes, depths := map[int]int{}, map[int]int{}
	for range 60 {
		x := impl.TxNew(impl.Format(4+r.Intn(45), nil))
		has, held := []impl.Pair{}, []impl.Pair{}
		for range 70 {
			key, val := somePut(r, x)
			y, code := putAs(t, "many", x, key, val)
			codes[code]++
			if code == impl.CoGood {
				turnsInOneKey(t, "many", x, key, val, y)
				has = withPair(has, key, val)
			}
			isPairs(t, "many", y, has)
			if got := impl.KeptOf(y.D); !slices.Equal(got, held) {
				t.Errorf("what is kept turned into %q", got)
			}
			x = y
			if code == impl.CoSpace && r.Intn(2) == 0 || r.Intn(25) == 0 {
				d, c := impl.Commit(x)
				if c != impl.CoGood {
					t.Errorf("it is not kept: %d", c)
				}
				x, held = impl.TxNew(d), has
			}
			depths[impl.DepthOf(x)]++
			if t.Failed() {
				t.FailNow()
			}
		}
	}
	if codes[impl.CoGood] < 2000 || codes[impl.CoSpace] < 200 || codes[impl.CoLarge] < 50 || depths[1] < 100 || depths[2] < 500 || depths[3] < 300 {
		t.Errorf("the codes %v, the depths %v", codes, depths)
	}
}

// Keys that are put in order, and back.
func TestPutsInOrder(t *testing.T) {
	keys := []string{}
	for i := range 60 {
		keys = append(keys, wide(fmt.Sprintf("%02d", i), 30))
	}
	back := slices.Clone(keys)
	slices.Reverse(back)
	odd := []string{}
	for i := range 60 {
		odd = append(odd, keys[(i*2)%60+i/30])
	}
	for what, order := range map[string][]string{"in order": keys, "back": back, "by turns": odd} {
		for _, size := range []int{0, 20, 60} {
			x := impl.TxNew(impl.Format(48, nil))
			has := []impl.Pair{}
			for i, key := range order {
				y, code := putAs(t, what, x, key, long(size))
				if code != impl.CoGood {
					if len(impl.FreeOf(x)) > 5 {
						t.Errorf("%s, of %d bytes: %d at %q", what, size, code, key)
					}
					break
				}
				has = withPair(has, key, long(size))
				isPairs(t, what, y, has)
				x = y
				if i%20 == 10 {
					d, _ := impl.Commit(x)
					x = impl.TxNew(d)
				}
			}
			if len(has) < 20 || impl.DepthOf(x) < 3 {
				t.Errorf("%s, of %d bytes: %d keys, %d deep", what, size, len(has), impl.DepthOf(x))
			}
		}
	}
}

// longGrower makes trees whose keys between are as long as there is room for.
type longGrower struct {
	r     *rand.Rand
	secs  []int
	nodes map[int]impl.Node
}

// longGrown is a node, and which leaf is the first below it.
type longGrown struct {
	at    int
	first int
}

func (g *longGrower) add(x impl.Node, first int) longGrown {
	at := g.secs[len(g.nodes)]
	g.nodes[at] = x
	return longGrown{at, first}
}

func (g *longGrower) leaf(i int) longGrown {
	x := impl.Node{Leaf: true}
	for j := range 1 + g.r.Intn(4) {
		x.Keys = append(x.Keys, wide(fmt.Sprintf("%02d1%d", i, j), 4+g.r.Intn(45)))
		x.Vals = append(x.Vals, strings.Repeat("v", g.r.Intn(61)))
		if !wordsNodeOk(x) {
			x.Keys, x.Vals = x.Keys[:j], x.Vals[:j]
			break
		}
	}
	return g.add(x, i)
}

func (g *longGrower) above(below []longGrown) []longGrown {
	var out []longGrown
	for len(below) > 0 {
		x := impl.Node{}
		n := 0
		for most := 2 + g.r.Intn(3); n < min(most, len(below)); n++ {
			if n > 0 {
				room := 240 - len(wordsBody(x)) - 3
				if room < 3 {
					break
				}
				key := fmt.Sprintf("%02d0", below[n].first)
				x.Keys = append(x.Keys, wide(key, []int{3, min(room, 48), min(room, 126), max(room-1, 3), min(3+g.r.Intn(room), room)}[g.r.Intn(5)]))
			}
			x.Kids = append(x.Kids, below[n].at)
		}
		out = append(out, g.add(x, below[0].first))
		below = below[n:]
	}
	return out
}

// longTree has a tree whose keys between are long, some of it kept.
func longTree(r *rand.Rand) impl.Txn {
	g := &longGrower{r: r, nodes: map[int]impl.Node{}}
	for _, n := range r.Perm(46) {
		g.secs = append(g.secs, n+2)
	}
	var level []longGrown
	for i := range 1 + r.Intn(12) {
		level = append(level, g.leaf(i))
	}
	for len(level) > 1 {
		level = g.above(level)
	}
	return soundOf(r, level[0].at, g.nodes)
}

func TestPutsBesideLongKeys(t *testing.T) {
	r := rand.New(rand.NewSource(188))
	grew, full := 0, 0
	for range 400 {
		x := longTree(r)
		treeIs(t, "long keys", x, true)
		depth := impl.DepthOf(x)
		for range 6 {
			key, val := wide(fmt.Sprintf("%02d1%d", r.Intn(13), r.Intn(10)), 4+r.Intn(45)), strings.Repeat("w", 40+r.Intn(21))
			y, code := putAs(t, "long keys", x, key, val)
			if code == impl.CoGood {
				turnsInOneKey(t, "long keys", x, key, val, y)
			}
			for _, f := range y.New {
				if n := len(wordsBody(f.X)); n > 236 && !f.X.Leaf {
					full++
				}
			}
			x = y
		}
		if impl.DepthOf(x) > depth {
			grew++
		}
		if t.Failed() {
			t.FailNow()
		}
	}
	if grew < 100 || full < 100 {
		t.Errorf("%d grew, %d were nearly full", grew, full)
	}
}

// What is put into a tree of which some is kept: each way down, ahead of and behind each key.
func TestPutsIntoSoundTrees(t *testing.T) {
	r := rand.New(rand.NewSource(1800))
	for range 150 {
		x := soundTree(r, somePairs(r))
		for _, k := range keysIn(x) {
			beside := near(k)
			key, val := beside[r.Intn(len(beside))], someText(r, 60)
			y, code := putAs(t, "a sound tree", x, key, val)
			if code == impl.CoGood {
				turnsInOneKey(t, "a sound tree", x, key, val, y)
			}
		}
		if t.Failed() {
			t.FailNow()
		}
	}
}

func TestPutsByTheWords(t *testing.T) {
	r := rand.New(rand.NewSource(18000))
	for _, x := range someTxns() {
		for range 3 {
			putAs(t, "some", x, someText(r, 3), someText(r, 60))
		}
	}
	for what, d := range someDisks() {
		putAs(t, what, impl.TxNew(d), "a", "1")
		putAs(t, what, impl.Txn{D: d, Root: 2}, "a", "1")
	}
	right := 0
	for range 3000 {
		x := someTxn(r)
		if _, code := putAs(t, "some", x, someText(r, 2), someText(r, 60)); code == impl.CoGood {
			right++
		}
		if t.Failed() {
			t.FailNow()
		}
	}
	if right < 500 {
		t.Errorf("%d were put", right)
	}
}

// What was asked ahead leaves nothing behind.
func TestPuttingKeepsNothing(t *testing.T) {
	for _, c := range wrongTxns() {
		x := underWay()
		c.turn(&x)
		impl.Put(x, "a", "ahead")
		impl.Put(x, long(49), "ahead")
		puts(t, "behind "+c.what, underWay(), "b", "9", 2, fresh(2, innerOf(texts("m"), 11, 9)), fresh(11, leafOf("a", "1", "b", "9", "c", "5")))
	}
	x := kept()
	for range 3 {
		puts(t, "again", x, "c", "9", 4, fresh(2, leafOf("a", "1", "b", "2", "c", "9")), fresh(4, innerOf(texts("m"), 2, 9)))
		isPairs(t, "again", x, pairsOf("a", "1", "b", "2", "m", "3", "z", "4"))
	}
}

// putsOf has a Txn, and what is put into it, refused and not.
type putOf struct {
	x   impl.Txn
	key string
	val string
}

func somePuts() []putOf {
	nodes, v := wideRoot(), long(60)
	out := []putOf{
		{impl.TxNew(impl.Format(5, faultLists()[3])), "a", "1"},
		{kept(), "c", "1"},
		{kept(), "m", "1"},
		{underWay(), "b", "1"},
		{underWay(), "c", "1"},
		{underWay(), "q", "1"},
		{freshTree(6, fourKeys()), "c", strings.Repeat("w", 24)},
		{keptTree(8, fourKeys()), "i", strings.Repeat("w", 24)},
		{freshTree(11, nodes...), wide("d3", 36), v},
		{keptTree(13, nodes...), wide("d3", 36), v},
		{keptTree(12, nodes...), wide("d3", 36), v},
		{kept(), long(49), "1"},
		{underWay(), "a", long(61)},
	}
	for _, x := range someTxns() {
		out = append(out, putOf{x, "b", "1"}, putOf{x, long(49), ""})
	}
	return out
}

// Neither is what is asked written to, nor is the room behind it read.
func TestPuttingWritesNothing(t *testing.T) {
	for _, p := range somePuts() {
		roomy := roomyTxn(txnCopy(p.x))
		ahead := allTxn(roomy)
		putAs(t, "with room behind", roomy, p.key, p.val)
		if got := allTxn(roomy); got != ahead {
			t.Errorf("the Txn %s turned into %s", ahead, got)
		}
	}
}

func TestWhatIsPutIsNewMemory(t *testing.T) {
	for _, p := range somePuts() {
		arg := roomyTxn(txnCopy(p.x))
		ahead := allTxn(arg)
		first, _ := impl.Put(arg, p.key, p.val)
		second, code := impl.Put(arg, p.key, p.val)
		want := txnText(second)
		overwriteTxn(first)
		if allTxn(arg) != ahead || txnText(second) != want {
			t.Errorf("%d: the answer shares memory: %s, %s", code, allTxn(arg), txnText(second))
		}
		overwriteTxn(arg)
		if txnText(second) != want {
			t.Errorf("%d: the answer shares memory with the Txn: %s, not %s", code, txnText(second), want)
		}
	}
}

// listOfTxn is one list of a Txn: it is filled with all the room that came with it.
type listOfTxn struct {
	fill func()
	text func() string
}

// listsOfTxn has all lists of texts, numbers and bytes in a Txn.
func listsOfTxn(x impl.Txn) []listOfTxn {
	var out []listOfTxn
	for _, b := range listsOf(x.D) {
		out = append(out, listOfTxn{func() { overwrite(b) }, func() string { return string(b) }})
	}
	for _, f := range x.New {
		for _, l := range [][]string{f.X.Keys, f.X.Vals} {
			out = append(out, listOfTxn{func() { fillNode(l, nil, nil) }, func() string { return fmt.Sprintf("%q", l) }})
		}
		out = append(out, listOfTxn{func() { fillNode(nil, nil, f.X.Kids) }, func() string { return fmt.Sprint(f.X.Kids) }})
	}
	return out
}

func TestListsOfWhatIsPutShareNothing(t *testing.T) {
	both := texts("a", "b")
	shared := impl.TxNew(impl.Format(9, nil))
	shared.Root = 2
	shared.New = []impl.Fresh{fresh(2, innerOf(texts("m"), 3, 4)), fresh(3, impl.Node{Leaf: true, Keys: both, Vals: both}), fresh(4, leafOf("m", "1"))}
	one := []byte(wordsMeta(meta(0, 0)))
	shared.D.Secs = [][]byte{one, one, one, one, one, one}
	shared.D.Cache = []impl.Write{{N: 5, B: one}, {N: 5, B: one}}
	for _, p := range append(somePuts(), putOf{shared, "b", "2"}, putOf{shared, "n", "2"}, putOf{shared, "n", long(61)}) {
		y, code := impl.Put(p.x, p.key, p.val)
		lists := listsOfTxn(y)
		for i, l := range lists {
			ahead := []string{}
			for _, other := range lists {
				ahead = append(ahead, other.text())
			}
			l.fill()
			for j, other := range lists {
				if i != j && other.text() != ahead[j] {
					t.Errorf("%d: %d and %d share memory: %s", code, i, j, other.text())
				}
			}
		}
	}
}

// Nothing stands behind the lists of an answer.
func TestNothingStandsBehindWhatIsPut(t *testing.T) {
	for _, p := range somePuts() {
		y, code := impl.Put(roomyTxn(txnCopy(p.x)), p.key, p.val)
		for _, f := range y.New[len(y.New):cap(y.New)] {
			if f.N != 0 || nodeText(f.X) != nodeText(impl.Node{}) {
				t.Errorf("%d: behind New stands %d, %s", code, f.N, nodeText(f.X))
			}
		}
		for _, f := range y.New {
			room := slices.Concat(f.X.Keys[len(f.X.Keys):cap(f.X.Keys)], f.X.Vals[len(f.X.Vals):cap(f.X.Vals)])
			if strings.Join(room, "") != "" || slices.ContainsFunc(f.X.Kids[len(f.X.Kids):cap(f.X.Kids)], func(n int) bool { return n != 0 }) {
				t.Errorf("%d: behind the lists of %d stands %q, %v", code, f.N, room, f.X.Kids[:cap(f.X.Kids)])
			}
		}
	}
}

// Much that is wrong comes to an end, too.
func TestPuttingIntoVeryMany(t *testing.T) {
	const many = 200000
	x := impl.TxNew(impl.Format(48, nil))
	x.Root, x.New = 2, chain(upToKids(many, 2)...)
	if y, code := impl.Put(x, "a", "1"); code != impl.CoForm || len(y.New) != many || y.Root != 2 {
		t.Errorf("one below the other: %d", code)
	}
	x.New = []impl.Fresh{fresh(2, innerOf(nil, slices.Repeat([]int{3, 2}, many)...)), fresh(3, leafOf("a", "1"))}
	if y, code := impl.Put(x, "a", "1"); code != impl.CoForm || len(y.New) != 2 || len(y.New[0].X.Kids) != 2*many {
		t.Errorf("many kids: %d", code)
	}
	x.New = chain(upToKids(46, 2)...)
	puts(t, "46 deep", x, "a", "2", 2, append(x.New[:45:45], fresh(47, leafOf("a", "2")))...)
	putsNot(t, "46 deep, too large", x, strings.Repeat("k", many), strings.Repeat("v", many), impl.CoLarge)
	x.New = chain(upToKids(40, 2)...)
	x.New[39].X = fourKeys()
	y, code := putAs(t, "40 deep", x, "i", strings.Repeat("w", 24))
	if code != impl.CoGood || impl.DepthOf(y) != 40 || len(y.New) != 41 {
		t.Errorf("40 deep: %d, %s", code, txnText(y))
	}
}
