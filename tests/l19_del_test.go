package tests

import (
	"fmt"
	"math/rand"
	"slices"
	"strings"
	"testing"

	"loop.example/g00322/impl"
)

var _ func(impl.Txn, string) (impl.Txn, int) = impl.Del

// gone takes a node from New, if it was there as x came.
func (c *wordsChange) gone(n int) {
	if slices.Contains(c.had, n) {
		c.leaves(n)
	}
}

func (c *wordsChange) leaves(n int) {
	c.x.New = slices.DeleteFunc(c.x.New, func(f impl.Fresh) bool { return f.N == n })
}

// wordsLess is a node without one Key and one Kid.
func wordsLess(x impl.Node, key int, kid int) impl.Node {
	out := impl.Node{}
	for i, k := range x.Keys {
		if i != key {
			out.Keys = append(out.Keys, k)
		}
	}
	for i, k := range x.Kids {
		if i != kid {
			out.Kids = append(out.Kids, k)
		}
	}
	return out
}

// wordsBoth has two of one kind together.
func wordsBoth(a impl.Node, key string, b impl.Node) impl.Node {
	out := impl.Node{Leaf: a.Leaf}
	out.Keys = append(out.Keys, a.Keys...)
	if !a.Leaf {
		out.Keys = append(out.Keys, key)
	}
	out.Keys = append(out.Keys, b.Keys...)
	out.Vals = append(append(out.Vals, a.Vals...), b.Vals...)
	out.Kids = append(append(out.Kids, a.Kids...), b.Kids...)
	return out
}

// less has what the node of a sector is without this key: what is below is put, but not the node.
func (c *wordsChange) less(came impl.Txn, n int, key string) impl.Node {
	node, _ := wordsNodeAt(came, n)
	if !node.Leaf {
		i := wordsPlace(node, key)
		return c.above(came, nodeCopy(node), i, c.less(came, node.Kids[i], key))
	}
	out := impl.Node{Leaf: true}
	for i, k := range node.Keys {
		if k != key {
			out.Keys, out.Vals = append(out.Keys, k), append(out.Vals, node.Vals[i])
		}
	}
	return out
}

// above has what the node above becomes as one below it turned.
func (c *wordsChange) above(came impl.Txn, above impl.Node, i int, x impl.Node) impl.Node {
	n := above.Kids[i]
	if len(x.Keys) == 0 && len(x.Kids) == 0 {
		c.gone(n)
		return wordsLess(above, max(i-1, 0), i)
	}
	if len(wordsBody(x)) < 60 {
		for first := max(i-1, 0); first <= i && first+1 < len(above.Kids); first++ {
			pair := []impl.Node{x, x}
			other := 2*first + 1 - i
			pair[other-first], _ = wordsNodeAt(came, above.Kids[other])
			both := wordsBoth(pair[0], above.Keys[first], pair[1])
			if len(wordsBody(both)) > 240 {
				continue
			}
			c.gone(above.Kids[first+1])
			at := c.put(above.Kids[first], both)
			above = wordsLess(above, first, first+1)
			above.Kids[first] = at
			return above
		}
	}
	above.Kids[i] = c.put(n, x)
	return above
}

// root has what is Root at last.
func (c *wordsChange) root(n int, x impl.Node) int {
	if len(x.Keys) == 0 && len(x.Kids) == 0 {
		c.gone(n)
		return 0
	}
	if len(x.Kids) != 1 {
		return c.put(n, x)
	}
	c.gone(n)
	n = x.Kids[0]
	for {
		node, _ := wordsNodeAt(c.x, n)
		if c.full || len(node.Kids) != 1 {
			return n
		}
		c.leaves(n)
		n = node.Kids[0]
	}
}

// wordsDel takes a key away by the chapter's words.
func wordsDel(x impl.Txn, key string) (impl.Txn, int) {
	if !wordsTreeOk(x) {
		return x, impl.CoForm
	}
	if _, there := wordsFind(x, key); !there {
		return x, impl.CoMissing
	}
	c := &wordsChange{x: txnCopy(x), had: newSecs(x)}
	root := c.less(x, x.Root, key)
	c.x.Root = c.root(x.Root, root)
	if c.full {
		return x, impl.CoSpace
	}
	return c.x, impl.CoGood
}

// dels asks for just this Root and these new nodes behind a Del.
func dels(t *testing.T, what string, x impl.Txn, key string, root int, news ...impl.Fresh) impl.Txn {
	t.Helper()
	want := impl.Txn{D: x.D, M: x.M, Root: root, New: news}
	got, code := impl.Del(x, key)
	if txnText(got) != txnText(want) || code != impl.CoGood {
		t.Errorf("%s: Del(%s, %q) = %s, %d, not %s", what, txnText(x), key, txnText(got), code, txnText(want))
	}
	turnsInNoKey(t, what, x, key, got)
	delAs(t, what, x, key)
	return got
}

// delsNot asks that a Del is refused, and that nothing turns.
func delsNot(t *testing.T, what string, x impl.Txn, key string, code int) {
	t.Helper()
	got, c := impl.Del(x, key)
	if txnText(got) != txnText(x) || c != code {
		t.Errorf("%s: Del(%s, %.99q) = %s, %d, not %d", what, txnText(x), key, txnText(got), c, code)
	}
}

// delAs asks what the words say of a Del.
func delAs(t *testing.T, what string, x impl.Txn, key string) (impl.Txn, int) {
	t.Helper()
	want, code := wordsDel(x, key)
	got, c := impl.Del(x, key)
	if txnText(got) != txnText(want) || c != code {
		t.Errorf("%s: Del(%s, %q) = %s, %d, not %s, %d", what, txnText(x), key, txnText(got), c, txnText(want), code)
	}
	return got, c
}

func withoutPair(all []impl.Pair, key string) []impl.Pair {
	return slices.DeleteFunc(slices.Clone(all), func(p impl.Pair) bool { return p.Key == key })
}

// turnsInNoKey asks what is told of y, which x became as a key was taken away.
func turnsInNoKey(t *testing.T, what string, x impl.Txn, key string, y impl.Txn) {
	t.Helper()
	if !impl.TxnOk(y) || !impl.TreeOk(y) {
		t.Errorf("%s: without %q it is no tree: %s", what, key, txnText(y))
	}
	findsNot(t, what, y, key)
	isPairs(t, what, y, withoutPair(wordsPairs(x), key))
	for _, k := range append(near(key)[1:], keysIn(x)...) {
		want, there := wordsFind(x, k)
		if got, ok := impl.Find(y, k); k != key && (got != want || ok != there) {
			t.Errorf("%s: without %q, of %q there is %q, %v, not %q, %v", what, key, k, got, ok, want, there)
		}
	}
	if !sameDisk(y.D, x.D) || y.M != x.M {
		t.Errorf("%s: what is kept turned into %s", what, txnText(y))
	}
	if _, code := impl.Del(y, key); code != impl.CoMissing {
		t.Errorf("%s: %q is taken away again: %d", what, key, code)
	}
}

// leafIn has one leaf that is new, in this sector.
func leafIn(secs int, n int, leaf impl.Node) impl.Txn {
	x := freshTree(secs, leaf)
	x.Root, x.New[0].N = n, n
	return x
}

func TestTakingTheOnlyKey(t *testing.T) {
	for _, key := range []string{"", "a", "\x00", "\xff", long(48)} {
		leaf := leafOf(key, long(60))
		dels(t, "new", freshTree(4, leaf), key, 0)
		dels(t, "new, in the last sector", leafIn(4, 3, leaf), key, 0)
		dels(t, "on the disk alone", keptTree(4, leaf), key, 0)
		full := keptTree(4, leaf)
		full.D.Secs = full.D.Secs[:3]
		delsNot(t, "a disk that is too small", full, key, impl.CoForm)
		full = keptTree(4, innerOf(nil, 3), leaf)
		dels(t, "nothing is free, and nothing is put", full, key, 0)
		full.Root = 3
		dels(t, "a kept leaf that is no root", full, key, 0)
		cached := impl.TxNew(impl.Format(4, nil))
		cached.D.Cache, cached.Root = []impl.Write{write(3, nodePage(leaf))}, 3
		dels(t, "in the cache", cached, key, 0)
	}
}

func TestTakingFromOneLeaf(t *testing.T) {
	leaf := leafOf("", "1", "b", "2", "ba", "3", "d", "")
	for key, want := range map[string]impl.Node{
		"":   leafOf("b", "2", "ba", "3", "d", ""),
		"b":  leafOf("", "1", "ba", "3", "d", ""),
		"ba": leafOf("", "1", "b", "2", "d", ""),
		"d":  leafOf("", "1", "b", "2", "ba", "3"),
	} {
		dels(t, "new", freshTree(4, leaf), key, 2, fresh(2, want))
		dels(t, "new, in the last sector", leafIn(4, 3, leaf), key, 3, fresh(3, want))
		dels(t, "on the disk alone", keptTree(4, leaf), key, 3, fresh(3, want))
		full := keptTree(4, leafOf("x", "kept"))
		full.Root, full.New = 3, []impl.Fresh{fresh(3, leaf)}
		dels(t, "new, with nothing free", full, key, 3, fresh(3, want))
		cached := impl.TxNew(impl.Format(4, nil))
		cached.D.Cache, cached.Root = []impl.Write{write(3, nodePage(leaf))}, 3
		dels(t, "in the cache", cached, key, 2, fresh(2, want))
	}
	for _, two := range []impl.Node{leafOf("a", "1", "b", "2"), leafOf("", "", "\x00", ""), leafOf(long(47), long(60), long(48), long(60))} {
		dels(t, "the first of two", freshTree(4, two), two.Keys[0], 2, fresh(2, leafOf(two.Keys[1], two.Vals[1])))
		dels(t, "the last of two", keptTree(4, two), two.Keys[1], 3, fresh(3, leafOf(two.Keys[0], two.Vals[0])))
	}
	many := impl.Node{Leaf: true, Keys: upTo(47, 3), Vals: make([]string, 47)}
	for i, key := range many.Keys {
		want := impl.Node{Leaf: true, Keys: slices.Delete(slices.Clone(many.Keys), i, i+1), Vals: make([]string, 46)}
		dels(t, "one of many", freshTree(4, many), key, 2, fresh(2, want))
	}
}

func TestTakingWhatIsNotThere(t *testing.T) {
	w := long(60)
	check := func(what string, x impl.Txn, keys ...string) {
		t.Helper()
		for _, key := range append(keys, long(48), long(49), long(300), "\xff\xff") {
			delsNot(t, what, x, key, impl.CoMissing)
		}
	}
	check("a new disk", impl.TxNew(impl.Format(4, nil)), "", "a")
	without := kept()
	without.Root = 0
	check("no Root, but a kept tree", without, "", "a", "b", "m", "z")
	leaf := leafOf("b", "1", "d", "", "da", "")
	for _, x := range []impl.Txn{freshTree(4, leaf), keptTree(4, leaf)} {
		check("one leaf", x, "", "a", "b\x00", "c", "d\x00", "db", "B", "da\x00")
	}
	check("a kept tree", kept(), "", "c", "l", "m\x00", "y", "zz", "old", "cut")
	check("under way", underWay(), "", "b", "d", "m\x00", "old", "cut")
	between := freshTree(12, innerOf(texts("c", "m"), 3, 4, 5), innerOf(nil, 6), innerOf(texts("g"), 7, 8), innerOf(nil, 9), leafOf("a", w), leafOf("d", w), leafOf("h", w), leafOf("n", w))
	check("the Keys of nodes that are no leaves", between, "c", "g", "m")
	check("other values and sectors", between, w, "\x02", "v")
	hidden := newTree(innerOf(texts(""), 3, 4), leafOf("a", "1", "z", "2"), leafOf("b", "3"))
	check("a key where its way does not lead", hidden, "a", "z", "")
	gone := dels(t, "it was there", freshTree(9, innerOf(texts("m"), 3, 4), leafOf("a", w), leafOf("m", w, "n", w)), "m", 2,
		fresh(2, innerOf(texts("m"), 3, 4)), fresh(3, leafOf("a", w)), fresh(4, leafOf("n", w)))
	check("the Key between stayed", gone, "m")
}

func TestTakingBelowARoot(t *testing.T) {
	w := long(60)
	nodes := []impl.Node{innerOf(texts("m"), 3, 4), leafOf("a", w, "b", w), leafOf("m", w, "n", w)}
	x := freshTree(9, nodes...)
	dels(t, "all are new", x, "a", 2, x.New[0], fresh(3, leafOf("b", w)), x.New[2])
	dels(t, "all are new", x, "b", 2, x.New[0], fresh(3, leafOf("a", w)), x.New[2])
	dels(t, "all are new, the last leaf", x, "n", 2, x.New[0], x.New[1], fresh(4, leafOf("m", w)))
	k := keptTree(9, nodes...)
	dels(t, "on the disk alone", k, "a", 6, fresh(5, leafOf("b", w)), fresh(6, innerOf(texts("m"), 5, 4)))
	dels(t, "on the disk alone, the last leaf", k, "m", 6, fresh(5, leafOf("n", w)), fresh(6, innerOf(texts("m"), 3, 5)))
	k.Root, k.New = 7, []impl.Fresh{fresh(7, innerOf(texts("m"), 3, 4))}
	dels(t, "Root is new", k, "a", 7, fresh(5, leafOf("b", w)), fresh(7, innerOf(texts("m"), 5, 4)))
	k.New = []impl.Fresh{fresh(7, innerOf(texts("m"), 8, 4)), fresh(8, leafOf("a", w, "c", w))}
	dels(t, "Root and the leaf are new", k, "a", 7, k.New[0], fresh(8, leafOf("c", w)))
	dels(t, "Root and the other leaf are new", k, "m", 7, fresh(5, leafOf("n", w)), fresh(7, innerOf(texts("m"), 8, 5)), k.New[1])
	k.Root, k.New = 3, nil
	dels(t, "Root is a kept leaf that is no root", k, "a", 5, fresh(5, leafOf("b", w)))
}

// fourLeaves has a root over leaves of one key each, none of them small. The Keys between are none of these.
func fourLeaves() []impl.Node {
	w := long(60)
	return []impl.Node{innerOf(texts("c", "f", "i"), 3, 4, 5, 6), leafOf("a", w), leafOf("d", w), leafOf("g", w), leafOf("j", w)}
}

func TestLeavesThatAreEmpty(t *testing.T) {
	nodes, w := fourLeaves(), long(60)
	n := freshTree(9, nodes...).New
	for _, c := range []struct {
		what string
		key  string
		up   impl.Node
		left []impl.Fresh
	}{
		{"the first", "a", innerOf(texts("f", "i"), 4, 5, 6), []impl.Fresh{n[2], n[3], n[4]}},
		{"the second", "d", innerOf(texts("f", "i"), 3, 5, 6), []impl.Fresh{n[1], n[3], n[4]}},
		{"the third", "g", innerOf(texts("c", "i"), 3, 4, 6), []impl.Fresh{n[1], n[2], n[4]}},
		{"the last", "j", innerOf(texts("c", "f"), 3, 4, 5), []impl.Fresh{n[1], n[2], n[3]}},
	} {
		dels(t, c.what, freshTree(9, nodes...), c.key, 2, append([]impl.Fresh{fresh(2, c.up)}, c.left...)...)
		dels(t, c.what+", on the disk alone", keptTree(8, nodes...), c.key, 7, fresh(7, c.up))
		k := keptTree(9, nodes...)
		k.Root, k.New = 8, []impl.Fresh{fresh(8, nodes[0])}
		dels(t, c.what+", Root alone is new", k, c.key, 8, fresh(8, c.up))
	}
	x := freshTree(9, innerOf(texts("c"), 3, 4), leafOf("a", w), leafOf("d", w))
	dels(t, "the first of two", x, "a", 4, x.New[2])
	dels(t, "the last of two", x, "d", 3, x.New[1])
	x = keptTree(5, innerOf(texts("c"), 3, 4), leafOf("a", w), leafOf("d", w))
	dels(t, "the first of two, on the disk alone", x, "a", 4)
	dels(t, "the last of two, on the disk alone", x, "d", 3)
	dels(t, "the one Kid", freshTree(4, innerOf(nil, 3), leafOf("a", w)), "a", 0)
	dels(t, "the one Kid, on the disk alone", keptTree(4, innerOf(nil, 3), leafOf("a", w)), "a", 0)
	dels(t, "a small one, beside small ones", freshTree(9, innerOf(texts("c", "f"), 3, 4, 5), leafOf("a", ""), leafOf("d", ""), leafOf("g", "")), "d", 2,
		fresh(2, innerOf(texts("f"), 3, 5)), fresh(3, leafOf("a", "")), fresh(5, leafOf("g", "")))
	x = freshTree(9, innerOf(texts("m"), 3, 4), leafOf("", w), leafOf("n", w))
	dels(t, "the empty key", x, "", 4, x.New[2])
}

// Of a SizeOf of 59 it is put together with another one, of 60 not.
func TestWhatIsSmall(t *testing.T) {
	w := long(60)
	for n := 50; n <= 60; n++ {
		left := leafOf("b", strings.Repeat("v", n))
		small := len(wordsBody(left)) < 60
		if small != (n < 55) {
			t.Fatalf("%d: %d", n, len(wordsBody(left)))
		}
		what := fmt.Sprint("a value of ", n)
		for key, leaf := range map[string]impl.Node{"a": leafOf("a", w, "b", left.Vals[0]), "c": leafOf("b", left.Vals[0], "c", "")} {
			first := freshTree(9, innerOf(texts("m"), 3, 4), leaf, leafOf("m", ""))
			last := freshTree(9, innerOf(texts("a"), 4, 3), leaf, leafOf("", w))
			if small {
				dels(t, what, first, key, 3, fresh(3, leafOf("b", left.Vals[0], "m", "")))
				dels(t, what, last, key, 4, fresh(4, leafOf("", w, "b", left.Vals[0])))
			} else {
				dels(t, what, first, key, 2, first.New[0], fresh(3, left), first.New[2])
				dels(t, what, last, key, 2, last.New[0], fresh(3, left), last.New[2])
			}
		}
	}
	x := freshTree(9, innerOf(nil, 3), innerOf(texts("c"), 4, 5), leafOf("a", "", "b", ""), leafOf("d", ""))
	dels(t, "but Root", freshTree(4, leafOf("a", "", "b", "")), "a", 2, fresh(2, leafOf("b", "")))
	dels(t, "a small one beside a small one", x, "a", 4, fresh(4, leafOf("b", "", "d", "")))
}

// threeLeaves has a root over a leaf of so many bytes, one of two keys, and another one.
func threeLeaves(ahead int, behind int) []impl.Node {
	return []impl.Node{
		innerOf(texts("f", "m"), 3, 4, 5),
		leafOfSize(ahead, "a", "b", "c", "d"),
		leafOf("f", "1", "g", "2"),
		leafOfSize(behind, "m", "n", "o", "p"),
	}
}

// The one ahead is asked first, then the one behind. Both together have just MaxBody, or one more.
func TestWhichLeavesAreJoined(t *testing.T) {
	for _, sizes := range [][]int{{20, 20}, {236, 236}, {236, 237}, {237, 20}, {20, 237}, {237, 236}, {237, 237}, {240, 240}, {120, 240}, {240, 120}} {
		nodes := threeLeaves(sizes[0], sizes[1])
		left := leafOf("f", "1") // 6 bytes, of which 4 come to the other's
		x, k := freshTree(12, nodes...), keptTree(12, nodes...)
		what := fmt.Sprint(sizes)
		switch {
		case sizes[0] <= 236:
			both, up := wordsBoth(nodes[1], "", left), texts("m")
			dels(t, what, x, "g", 2, fresh(2, innerOf(up, 3, 5)), fresh(3, both), x.New[3])
			dels(t, what, k, "g", 7, fresh(6, both), fresh(7, innerOf(up, 6, 5)))
		case sizes[1] <= 236:
			both, up := wordsBoth(left, "", nodes[3]), texts("f")
			dels(t, what, x, "g", 2, fresh(2, innerOf(up, 3, 4)), x.New[1], fresh(4, both))
			dels(t, what, k, "g", 7, fresh(6, both), fresh(7, innerOf(up, 3, 6)))
		default:
			dels(t, what, x, "g", 2, x.New[0], x.New[1], fresh(4, left), x.New[3])
			dels(t, what, k, "g", 7, fresh(6, left), fresh(7, innerOf(texts("f", "m"), 3, 6, 5)))
		}
	}
	for size := 230; size <= 240; size++ {
		for n := range 12 {
			left := leafOf("f", strings.Repeat("v", n))
			fits := len(wordsBody(left))-2+size <= 240
			x := freshTree(9, innerOf(texts("f"), 3, 4), leafOfSize(size, "a", "b", "c", "d"), leafOf("f", left.Vals[0], "g", "2"))
			y := freshTree(9, innerOf(texts("m"), 3, 4), leafOf("f", left.Vals[0], "g", "2"), leafOfSize(size, "m", "n", "o", "p"))
			if what := fmt.Sprint(size, " and ", n); fits {
				dels(t, what+", the last", x, "g", 3, fresh(3, wordsBoth(x.New[1].X, "", left)))
				dels(t, what+", the first", y, "g", 3, fresh(3, wordsBoth(left, "", y.New[2].X)))
			} else {
				dels(t, what+", the last", x, "g", 2, x.New[0], x.New[1], fresh(4, left))
				dels(t, what+", the first", y, "g", 2, y.New[0], fresh(3, left), y.New[2])
			}
		}
	}
}

// Which sectors go from New, which stay, and which are taken.
func TestSectorsOfWhatIsJoined(t *testing.T) {
	w := long(60)
	x := underWay() // 2 leads to 11, which is new, and to 9; 4, 5, 7, 8 and 10 are free
	dels(t, "the one ahead is new", x, "m", 11, fresh(11, leafOf("a", "1", "c", "5", "z", "4")))
	dels(t, "the small one is new, the one behind is kept", x, "a", 11, fresh(11, leafOf("c", "5", "m", "3", "z", "4")))
	x.New[1], x.New[0].X.Kids[0] = fresh(5, x.New[1].X), 5
	dels(t, "it is in a free sector", x, "m", 5, fresh(5, leafOf("a", "1", "c", "5", "z", "4")))
	y := kept()
	y.Root, y.New = 2, []impl.Fresh{fresh(2, innerOf(texts("m"), 3, 4)), fresh(4, leafOf("m", "5", "p", "6"))}
	dels(t, "the small one goes, and its sector is taken", y, "m", 4, fresh(4, leafOf("a", "1", "b", "2", "p", "6")))
	dels(t, "the one behind goes, and its sector is taken", y, "a", 4, fresh(4, leafOf("b", "2", "m", "5", "p", "6")))
	y.New[0].X.Kids[1], y.New[1].N = 11, 11
	dels(t, "the small one goes, and a sector ahead is taken", y, "m", 4, fresh(4, leafOf("a", "1", "b", "2", "p", "6")))
	dels(t, "the one behind goes, and a sector ahead is taken", y, "a", 4, fresh(4, leafOf("b", "2", "m", "5", "p", "6")))
	y.New = []impl.Fresh{fresh(2, innerOf(texts("m", "q"), 3, 5, 11)), fresh(5, leafOf("m", "5", "p", "6")), fresh(11, leafOf("q", w))}
	dels(t, "there are others, all new", y, "p", 2, fresh(2, innerOf(texts("q"), 4, 11)), fresh(4, leafOf("a", "1", "b", "2", "m", "5")), y.New[2])
	y.New[0].X.Kids[2], y.New = 9, y.New[:2]
	y.D.Secs[9] = []byte(nodePage(leafOf("q", "3", "r", w)))
	dels(t, "the last is kept, and the one ahead is new", y, "q", 2, fresh(2, innerOf(texts("m", "q"), 3, 5, 4)), fresh(4, leafOf("r", w)), y.New[1])
	y.D.Secs[9] = []byte(nodePage(leafOf("q", "3", "r", "5")))
	dels(t, "the last is kept and small, and the one ahead is new", y, "q", 2, fresh(2, innerOf(texts("m"), 3, 5)), fresh(5, leafOf("m", "5", "p", "6", "r", "5")))
	// Nothing is free until one goes.
	full := keptTree(6, innerOf(nil, 3), leafOf("a", "1", "b", "2"))
	full.Root, full.New = 4, []impl.Fresh{fresh(4, innerOf(texts("m"), 3, 5)), fresh(5, leafOf("m", "1", "n", "2"))}
	dels(t, "the small one goes, and nothing else is free", full, "m", 5, fresh(5, leafOf("a", "1", "b", "2", "n", "2")))
	dels(t, "the one behind goes, and nothing else is free", full, "a", 5, fresh(5, leafOf("b", "2", "m", "1", "n", "2")))
	full.D.Secs[3] = []byte(nodePage(leafOf("a", w, "b", "2")))
	full.New[1].X = leafOf("m", w, "n", w)
	delsNot(t, "none goes, and nothing is free", full, "b", impl.CoSpace)
}

// threeNew is as threeKept, but all is new.
func threeNew() impl.Txn {
	k := threeKept()
	nodes := []impl.Node{}
	for n := 2; n < 9; n++ {
		node, _ := wordsNodeAt(k, n)
		nodes = append(nodes, node)
	}
	return freshTree(14, nodes...)
}

func TestNodesAboveThatAreEmpty(t *testing.T) {
	w := long(60)
	x := freshTree(12, innerOf(texts("m"), 3, 4), innerOf(nil, 5), innerOf(texts("t"), 6, 7), leafOf("a", w), leafOf("n", w), leafOf("t", w))
	dels(t, "the first", x, "a", 4, x.New[2], x.New[4], x.New[5])
	x = freshTree(12, innerOf(texts("m"), 3, 4), innerOf(texts("g"), 5, 6), innerOf(nil, 7), leafOf("a", w), leafOf("h", w), leafOf("n", w))
	dels(t, "the last", x, "n", 3, x.New[1], x.New[3], x.New[4])
	nodes := []impl.Node{
		innerOf(texts("m", "q", "t"), 3, 4, 5, 6),
		innerOf(nil, 7), innerOf(nil, 8), innerOf(nil, 9), innerOf(nil, 10),
		leafOf("a", w), leafOf("n", w), leafOf("r", w), leafOf("u", w),
	}
	for _, c := range []struct {
		key  string
		up   impl.Node
		left []int
	}{
		{"a", innerOf(texts("q", "t"), 4, 5, 6), []int{4, 5, 6, 8, 9, 10}},
		{"n", innerOf(texts("q", "t"), 3, 5, 6), []int{3, 5, 6, 7, 9, 10}},
		{"r", innerOf(texts("m", "t"), 3, 4, 6), []int{3, 4, 6, 7, 8, 10}},
		{"u", innerOf(texts("m", "q"), 3, 4, 5), []int{3, 4, 5, 7, 8, 9}},
	} {
		x = freshTree(12, nodes...)
		want := []impl.Fresh{fresh(2, c.up)}
		for _, n := range c.left {
			want = append(want, x.New[n-2])
		}
		dels(t, "of four", x, c.key, 2, want...)
		dels(t, "of four, on the disk alone", keptTree(12, nodes...), c.key, 11, fresh(11, c.up))
	}
	deep := freshTree(9, innerOf(nil, 3), innerOf(nil, 4), innerOf(nil, 5), leafOf("a", w))
	dels(t, "one below the other", deep, "a", 0)
	dels(t, "one below the other, on the disk alone", keptTree(6, innerOf(nil, 3), innerOf(nil, 4), innerOf(nil, 5), leafOf("a", w)), "a", 0)
}

func TestNodesAboveThatAreSmall(t *testing.T) {
	k, x := threeKept(), threeNew() // 2 leads to 3 and 4, 3 to 5 and 6, 4 to 7 and 8; 9 to 13 are free
	for _, c := range []struct {
		key  string
		both impl.Node
	}{
		{"a", innerOf(texts("m", "t"), 6, 7, 8)},
		{"g", innerOf(texts("m", "t"), 5, 7, 8)},
		{"m", innerOf(texts("g", "m"), 5, 6, 8)},
		{"t", innerOf(texts("g", "m"), 5, 6, 7)},
	} {
		dels(t, "on the disk alone", k, c.key, 9, fresh(9, c.both))
		want := []impl.Fresh{fresh(3, c.both)}
		for _, n := range c.both.Kids {
			want = append(want, x.New[n-2])
		}
		dels(t, "all are new", x, c.key, 3, want...)
	}
	// The leaf turned, and is put together with the one beside it; then the one above is, too.
	nodes := []impl.Node{innerOf(texts("m"), 3, 4), innerOf(texts("g"), 5, 6), innerOf(texts("t"), 7, 8), leafOf("a", "1", "b", "2"), leafOf("g", "3"), leafOf("m", "4"), leafOf("t", "5", "u", "6")}
	y := freshTree(14, nodes...)
	dels(t, "a leaf with the one behind", y, "a", 3, fresh(3, innerOf(texts("m", "t"), 5, 7, 8)), fresh(5, leafOf("b", "2", "g", "3")), y.New[5], y.New[6])
	dels(t, "a leaf with the one ahead", y, "u", 3, fresh(3, innerOf(texts("g", "m"), 5, 6, 7)), y.New[3], y.New[4], fresh(7, leafOf("m", "4", "t", "5")))
	k = keptTree(14, nodes...)
	dels(t, "a leaf with the one behind, on the disk alone", k, "a", 10, fresh(9, leafOf("b", "2", "g", "3")), fresh(10, innerOf(texts("m", "t"), 9, 7, 8)))
	dels(t, "a leaf with the one ahead, on the disk alone", k, "u", 10, fresh(9, leafOf("m", "4", "t", "5")), fresh(10, innerOf(texts("g", "m"), 5, 6, 9)))
}

// wideThree has three nodes below a root, the first and the last with a key of so many bytes; below the one between two leaves of one key each.
func wideThree(ahead int, behind int) []impl.Node {
	w := long(60)
	return []impl.Node{
		innerOf(texts("m", "t"), 3, 4, 5),
		innerOf(texts(wide("d", ahead)), 6, 7),
		innerOf(texts("q"), 8, 9),
		innerOf(texts(wide("w", behind)), 10, 11),
		leafOf("a", w), leafOf("e", w),
		leafOf("n", w), leafOf("r", w),
		leafOf("u", w), leafOf("x", w),
	}
}

func TestWhichNodesAboveAreJoined(t *testing.T) {
	for _, sizes := range [][]int{{1, 1}, {231, 231}, {231, 232}, {232, 1}, {1, 232}, {232, 231}, {232, 232}, {234, 234}, {100, 234}, {234, 100}} {
		nodes := wideThree(sizes[0], sizes[1])
		x, k := freshTree(16, nodes...), keptTree(16, nodes...)
		first, last := nodes[1].Keys[0], nodes[3].Keys[0]
		for key, stays := range map[string]int{"n": 9, "r": 8} {
			leaves := append(slices.Clone(x.New[4:6]), x.New[stays-2], x.New[8], x.New[9])
			what := fmt.Sprint(sizes, " without ", key)
			switch {
			case sizes[0] <= 231:
				both, up := innerOf(texts(first, "m"), 6, 7, stays), texts("t")
				dels(t, what, x, key, 2, append([]impl.Fresh{fresh(2, innerOf(up, 3, 5)), fresh(3, both), x.New[3]}, leaves...)...)
				dels(t, what, k, key, 13, fresh(12, both), fresh(13, innerOf(up, 12, 5)))
			case sizes[1] <= 231:
				both, up := innerOf(texts("t", last), stays, 10, 11), texts("m")
				dels(t, what, x, key, 2, append([]impl.Fresh{fresh(2, innerOf(up, 3, 4)), x.New[1], fresh(4, both)}, leaves...)...)
				dels(t, what, k, key, 13, fresh(12, both), fresh(13, innerOf(up, 3, 12)))
			default:
				dels(t, what, x, key, 2, append([]impl.Fresh{x.New[0], x.New[1], fresh(4, innerOf(nil, stays)), x.New[3]}, leaves...)...)
				dels(t, what, k, key, 13, fresh(12, innerOf(nil, stays)), fresh(13, innerOf(texts("m", "t"), 3, 12, 5)))
			}
		}
	}
}

// Of others, too, a SizeOf of 59 is small, and one of 60 is not.
func TestWhatIsSmallAbove(t *testing.T) {
	w := long(60)
	for n := 50; n <= 60; n++ {
		q := wide("q", n)
		nodes := []impl.Node{
			innerOf(texts("m"), 3, 4), innerOf(texts("g"), 5, 6), innerOf(texts(q, "s"), 7, 8, 9),
			leafOf("a", w), leafOf("h", w), leafOf("n", w), leafOf("r", w), leafOf("t", w),
		}
		x, k := freshTree(14, nodes...), keptTree(14, nodes...)
		left := []impl.Fresh{x.New[3], x.New[4], x.New[5], x.New[6]}
		if what := fmt.Sprint("a key of ", n); n < 55 {
			both := innerOf(texts("g", "m", q), 5, 6, 7, 8)
			dels(t, what, x, "t", 3, append([]impl.Fresh{fresh(3, both)}, left...)...)
			dels(t, what, k, "t", 10, fresh(10, both))
		} else {
			dels(t, what, x, "t", 2, append([]impl.Fresh{x.New[0], x.New[1], fresh(4, innerOf(texts(q), 7, 8))}, left...)...)
			dels(t, what, k, "t", 11, fresh(10, innerOf(texts(q), 7, 8)), fresh(11, innerOf(texts("m"), 3, 10)))
		}
	}
}

// What leads to a leaf turns with it, also where it is new and leads there still: it is put together with another one if it is small.
func TestNodesAboveThatWereSmall(t *testing.T) {
	w := long(60)
	leaves := []impl.Node{leafOf("a", w, "b", w), leafOf("h", w), leafOf("n", w, "o", w), leafOf("u", w)}
	x := freshTree(14, append([]impl.Node{innerOf(texts("m"), 3, 4), innerOf(texts("g"), 5, 6), innerOf(texts("t"), 7, 8)}, leaves...)...)
	both := fresh(3, innerOf(texts("g", "m", "t"), 5, 6, 7, 8))
	dels(t, "the first", x, "a", 3, both, fresh(5, leafOf("b", w)), x.New[4], x.New[5], x.New[6])
	dels(t, "the last", x, "o", 3, both, x.New[3], x.New[4], fresh(7, leafOf("n", w)), x.New[6])
	x.New[1].X.Keys[0] = wide("g", 234)
	dels(t, "none has room for both", x, "o", 2, x.New[0], x.New[1], x.New[2], x.New[3], x.New[4], fresh(7, leafOf("n", w)), x.New[6])
	dels(t, "it is not small", x, "a", 2, x.New[0], x.New[1], x.New[2], fresh(5, leafOf("b", w)), x.New[4], x.New[5], x.New[6])
	k := keptTree(14, append([]impl.Node{innerOf(texts("m"), 3, 4), innerOf(texts("g"), 5, 6), innerOf(texts("t"), 7, 8)}, leaves...)...)
	dels(t, "on the disk alone", k, "o", 10, fresh(9, leafOf("n", w)), fresh(10, innerOf(texts("g", "m", "t"), 5, 6, 9, 8)))
	k.Root, k.New = 13, []impl.Fresh{fresh(13, innerOf(texts("m"), 3, 4))}
	dels(t, "Root alone is new", k, "o", 10, fresh(9, leafOf("n", w)), fresh(10, innerOf(texts("g", "m", "t"), 5, 6, 9, 8)))
	k.New = []impl.Fresh{fresh(10, innerOf(texts("t"), 11, 8)), fresh(11, leaves[2]), fresh(13, innerOf(texts("m"), 3, 10))}
	dels(t, "the last is new, and the one ahead is kept", k, "o", 9, fresh(9, innerOf(texts("g", "m", "t"), 5, 6, 11, 8)), fresh(11, leafOf("n", w)))
	dels(t, "the first is kept, and the one behind is new", k, "a", 10, fresh(9, leafOf("b", w)), fresh(10, innerOf(texts("g", "m", "t"), 9, 6, 11, 8)), k.New[1])
}

// A sector that went is the first that is free, wherever it went from.
func TestSectorsThatWentAreTaken(t *testing.T) {
	w := long(60)
	k := threeKept()
	k.Root, k.New = 13, []impl.Fresh{fresh(9, leafOf("m", w)), fresh(12, innerOf(texts("t"), 9, 8)), fresh(13, innerOf(texts("m"), 3, 12))}
	dels(t, "of a leaf that is empty", k, "m", 9, fresh(9, innerOf(texts("g", "m"), 5, 6, 8)))
	dels(t, "of a node above", k, "t", 10, k.New[0], fresh(10, innerOf(texts("g", "m"), 5, 6, 9)))
	k.New = []impl.Fresh{fresh(9, innerOf(texts("t"), 12, 8)), fresh(12, leafOf("m", w)), fresh(13, innerOf(texts("m"), 3, 9))}
	dels(t, "of a node above, ahead of all", k, "t", 9, fresh(9, innerOf(texts("g", "m"), 5, 6, 12)), k.New[1])
	k.New = []impl.Fresh{fresh(9, innerOf(texts("m", "v"), 3, 10, 11)), fresh(10, innerOf(nil, 13)), fresh(11, innerOf(nil, 12)), fresh(12, leafOf("w", w)), fresh(13, leafOf("n", w, "o", w))}
	k.Root = 9
	hasFree(t, "nothing", k)
	dels(t, "of a node above, and nothing else is free", k, "n", 9, fresh(9, innerOf(texts("v"), 10, 11)), fresh(10, innerOf(texts("g", "m"), 5, 6, 13)), k.New[2], k.New[3], fresh(13, leafOf("o", w)))
}

func TestRootsOfOneKid(t *testing.T) {
	w := long(60)
	nodes := []impl.Node{innerOf(nil, 3), innerOf(nil, 4), innerOf(nil, 5), leafOf("a", w, "b", w)}
	x := freshTree(9, nodes...)
	dels(t, "again and again", x, "a", 5, fresh(5, leafOf("b", w)))
	dels(t, "again and again, on the disk alone", keptTree(9, nodes...), "a", 6, fresh(6, leafOf("b", w)))
	dels(t, "of two levels", freshTree(9, innerOf(nil, 3), leafOf("a", "1", "b", "2")), "b", 3, fresh(3, leafOf("a", "1")))
	x = freshTree(9, innerOf(nil, 3), innerOf(texts("m"), 4, 5), leafOf("a", w, "b", w), leafOf("m", w))
	dels(t, "until there are two", x, "a", 3, x.New[1], fresh(4, leafOf("b", w)), x.New[3])
	x = freshTree(12, innerOf(texts("m"), 3, 6), innerOf(nil, 4), innerOf(nil, 5), leafOf("a", w), innerOf(nil, 7), innerOf(nil, 8), leafOf("m", w, "n", w))
	dels(t, "those aside, too", x, "a", 8, x.New[6])
	nodes = []impl.Node{}
	for _, f := range x.New {
		nodes = append(nodes, f.X)
	}
	k := keptTree(12, nodes...)
	dels(t, "those aside, too, on the disk alone", k, "a", 8)
	k.Root, k.New = 10, []impl.Fresh{fresh(10, innerOf(texts("m"), 3, 11)), fresh(11, innerOf(nil, 7))}
	dels(t, "new and kept", k, "a", 8)
	k.New[0].X = innerOf(texts("m"), 11, 6)
	k.New[1].X = innerOf(nil, 4)
	dels(t, "kept, and the new ones go", k, "a", 8)
	k.New = []impl.Fresh{fresh(9, leafOf("m", w)), fresh(10, innerOf(texts("m"), 3, 11)), fresh(11, innerOf(nil, 9))}
	k.New[2].X = innerOf(nil, 7)
	k.New = k.New[1:]
	dels(t, "a kept one below a new one", k, "a", 8)
	x = freshTree(12, innerOf(texts("m"), 3, 4), innerOf(nil, 5), innerOf(texts("t"), 6, 7), leafOf("a", w), leafOf("n", w), leafOf("t", w))
	dels(t, "until there are two, aside", x, "a", 4, x.New[2], x.New[4], x.New[5])
}

// So many sectors are there, and each one that is lacking is told.
func TestTakingWithoutRoom(t *testing.T) {
	w := long(60)
	two := []impl.Node{innerOf(texts("m"), 3, 4), leafOf("a", w, "b", w), leafOf("m", w, "n", w)}
	delsNot(t, "the leaf", keptTree(5, two...), "a", impl.CoSpace)
	delsNot(t, "Root", keptTree(6, two...), "a", impl.CoSpace)
	dels(t, "both have room", keptTree(7, two...), "a", 6, fresh(5, leafOf("b", w)), fresh(6, innerOf(texts("m"), 5, 4)))
	one := keptTree(4, leafOf("a", w, "b", w))
	dels(t, "one leaf", one, "a", 3, fresh(3, leafOf("b", w)))
	one = keptTree(4, innerOf(nil, 3), leafOf("a", w, "b", w))
	delsNot(t, "one leaf below Root", one, "a", impl.CoSpace)
	one.Root = 3
	delsNot(t, "one leaf that is Root", one, "a", impl.CoSpace)
	three := []impl.Node{
		innerOf(texts("m"), 3, 4), innerOf(texts(wide("g", 60)), 5, 6), innerOf(texts(wide("t", 60)), 7, 8),
		leafOf("a", w, "b", w), leafOf("h", w), leafOf("m", w), leafOf("u", w),
	}
	for secs := 9; secs < 12; secs++ {
		delsNot(t, fmt.Sprint("of ", secs, " sectors: the leaf, the one above, Root"), keptTree(secs, three...), "a", impl.CoSpace)
	}
	dels(t, "all three have room", keptTree(12, three...), "a", 11, fresh(9, leafOf("b", w)), fresh(10, innerOf(three[1].Keys, 9, 6)), fresh(11, innerOf(texts("m"), 10, 4)))
	delsNot(t, "the one above, without its first leaf", keptTree(9, threeNodes(t)...), "a", impl.CoSpace)
	dels(t, "it has room", keptTree(10, threeNodes(t)...), "a", 9, fresh(9, innerOf(texts("m", "t"), 6, 7, 8)))
	small := []impl.Node{innerOf(texts("m"), 3, 4), leafOf("a", "1", "b", "2"), leafOf("m", "3")}
	delsNot(t, "both together", keptTree(5, small...), "a", impl.CoSpace)
	dels(t, "both together have room", keptTree(6, small...), "a", 5, fresh(5, leafOf("b", "2", "m", "3")))
	dels(t, "without its last key", keptTree(5, small...), "m", 3)
	// The nodes above are put, though they go again at last.
	chained := []impl.Node{innerOf(nil, 3), innerOf(nil, 4), innerOf(nil, 5), leafOf("a", w, "b", w)}
	for secs := 6; secs < 9; secs++ {
		delsNot(t, fmt.Sprint("of ", secs, " sectors: the leaf and two above"), keptTree(secs, chained...), "a", impl.CoSpace)
	}
	dels(t, "all are new", freshTree(6, chained...), "a", 5, fresh(5, leafOf("b", w)))
	x := freshTree(5, two...)
	dels(t, "none is asked for", x, "n", 2, x.New[0], x.New[1], fresh(4, leafOf("m", w)))
}

func threeNodes(t *testing.T) []impl.Node {
	t.Helper()
	var nodes []impl.Node
	for _, f := range threeNew().New {
		nodes = append(nodes, f.X)
	}
	return nodes
}

// Where two sectors lack, what stands in sector 0 leads on: to where it leads never ends.
func TestTakingEndsWhereTheWayDoesNot(t *testing.T) {
	w := long(60)
	x := keptTree(7, innerOf(texts("m"), 3, 4), innerOf(nil, 3), innerOf(nil, 5), innerOf(nil, 6), leafOf("a", w, "b", w))
	x.D.Secs[0], x.Root = []byte(nodePage(innerOf(nil, 3))), 4
	treeIs(t, "kept, but no tree", x, true)
	delsNot(t, "below a root's sector", x, "a", impl.CoSpace)
}

func TestTakingFromWhatIsNoTree(t *testing.T) {
	check := func(what string, x impl.Txn) {
		t.Helper()
		for _, key := range append(keysIn(x), "none", long(49)) {
			delsNot(t, what, x, key, impl.CoForm)
		}
	}
	for what, x := range unsound() {
		check(what, x)
	}
	for _, c := range wrongTxns() {
		x := underWay()
		c.turn(&x)
		check(c.what, x)
	}
	check("the zero one", impl.Txn{})
	check("of no root", impl.TxNew(impl.DiskNew(8, nil)))
	check("a new disk without a root", impl.Txn{D: impl.DiskNew(8, nil)})
	x := kept()
	x.D.Secs[9] = []byte(nodePage(leafOf("l", "1")))
	check("not sound on the disk", x)
	x.Root = 0
	delsNot(t, "not sound on the disk, but not under way", x, "a", impl.CoMissing)
	x.Root = 3
	dels(t, "not sound on the disk, beside what is under way", x, "a", 2, fresh(2, leafOf("b", "2")))
}

// Of several codes the first counts.
func TestWhichCodeOfTakingCounts(t *testing.T) {
	full := keptTree(4, innerOf(texts("m"), 3, 3), leafOf("a", "1", "b", "1"))
	delsNot(t, "no tree, not there, no room", full, "q", impl.CoForm)
	delsNot(t, "no tree, no room", full, "a", impl.CoForm)
	full.D.Secs[2] = []byte(nodePage(innerOf(nil, 3)))
	delsNot(t, "not there, no room", full, "q", impl.CoMissing)
	delsNot(t, "no room", full, "a", impl.CoSpace)
	full.M.Gen = 3
	delsNot(t, "no root, not there, no room", full, "q", impl.CoForm)
	delsNot(t, "no root, no room", full, "a", impl.CoForm)
	full.M.Gen, full.Root = 1, 0
	delsNot(t, "no Root, no room", full, "a", impl.CoMissing)
}

// What is new and stands beside the way stays as it was.
func TestWhatIsNotTakenStays(t *testing.T) {
	w := long(60)
	x := underWay()
	x.New = []impl.Fresh{fresh(2, innerOf(texts("f", "m", "t"), 11, 4, 9, 5)), fresh(4, leafOf("f", w, "g", w)), fresh(5, leafOf("t", w)), fresh(11, leafOf("a", w, "b", w))}
	x.D.Secs[9] = []byte(nodePage(leafOf("m", w, "p", w)))
	dels(t, "from 11", x, "b", 2, x.New[0], x.New[1], x.New[2], fresh(11, leafOf("a", w)))
	dels(t, "from 4", x, "f", 2, x.New[0], fresh(4, leafOf("g", w)), x.New[2], x.New[3])
	dels(t, "all of 5", x, "t", 2, fresh(2, innerOf(texts("f", "m"), 11, 4, 9)), x.New[1], x.New[3])
	dels(t, "from 9, which is kept", x, "m", 2, fresh(2, innerOf(texts("f", "m", "t"), 11, 4, 7, 5)), x.New[1], x.New[2], fresh(7, leafOf("p", w)), x.New[3])
	x.D.Secs[9] = []byte(nodePage(leafOf("m", w)))
	dels(t, "all of 9, which is kept", x, "m", 2, fresh(2, innerOf(texts("f", "t"), 11, 4, 5)), x.New[1], x.New[2], x.New[3])
}

// A disk that is off, has Writes in its cache, or Faults that wait, is a disk still; the cache is read, and nothing is written.
func TestTakingMakesNoOperation(t *testing.T) {
	for what, turn := range map[string]func(x *impl.Txn){
		"off":                 func(x *impl.Txn) { x.D.Down = true },
		"no operation left":   func(x *impl.Txn) { x.D.Ops = 100000 },
		"Writes in the cache": func(x *impl.Txn) { x.D.Cache = []impl.Write{write(4, "x"), write(2, "y")} },
		"a Fault at once":     func(x *impl.Txn) { x.D.Faults = []impl.Fault{fault(0, 3, 9)} },
		"Faults":              func(x *impl.Txn) { x.D.Faults = faultLists()[3] },
		"a leaf in the cache": func(x *impl.Txn) {
			x.D.Cache = []impl.Write{write(9, nodePage(leafOf("m", "cached", "n", long(60))))}
		},
		"a newer root in the cache": func(x *impl.Txn) {
			x.D.Cache, x.M = []impl.Write{write(0, wordsMeta(meta(2, 6)))}, meta(2, 6)
		},
	} {
		for _, x := range []impl.Txn{kept(), underWay()} {
			turn(&x)
			for _, key := range []string{"a", "m"} {
				y, code := delAs(t, what, x, key)
				if code != impl.CoGood {
					t.Errorf("%s: %d", what, code)
				}
				turnsInNoKey(t, what, x, key, y)
			}
		}
	}
}

// What is led to, but neither kept nor new, has no sector of its own: it is put into the first free one, whatever stands there, and goes from nowhere.
func TestTakingFromWhatNobodyKept(t *testing.T) {
	w := long(60)
	x := kept()
	x.Root = 4
	dels(t, "the only key of a leaf", x, "old", 0)
	x.Root = 5
	dels(t, "one above a kept leaf", x, "a", 2, fresh(2, leafOf("b", "2")))
	stale := func(root int, nodes map[int]impl.Node) impl.Txn {
		x := impl.TxNew(impl.Format(14, nil))
		x.Root = root
		for n, node := range nodes {
			x.D.Secs[n] = []byte(nodePage(node))
		}
		return x
	}
	dels(t, "its own is the first", stale(2, map[int]impl.Node{2: leafOf("a", "1", "b", "2")}), "a", 2, fresh(2, leafOf("b", "2")))
	chained := map[int]impl.Node{2: innerOf(nil, 4), 4: innerOf(nil, 3), 3: leafOf("a", "1", "b", "2")}
	dels(t, "again and again, over each other", stale(2, chained), "a", 2, fresh(2, leafOf("b", "2")))
	dels(t, "the one behind stood where the leaf is put", stale(9, map[int]impl.Node{
		9: innerOf(texts("m"), 10, 2), 10: innerOf(nil, 11), 2: innerOf(nil, 8), 11: leafOf("a", w, "b", w), 8: leafOf("m", w),
	}), "a", 3, fresh(2, leafOf("b", w)), fresh(3, innerOf(texts("m"), 2, 8)))
	dels(t, "the one ahead stood where the leaf is put", stale(9, map[int]impl.Node{
		9: innerOf(texts("m"), 2, 10), 2: innerOf(nil, 8), 10: innerOf(nil, 11), 8: leafOf("a", w), 11: leafOf("m", w, "n", w),
	}), "m", 3, fresh(2, leafOf("n", w)), fresh(3, innerOf(texts("m"), 8, 2)))
	dels(t, "the leaf that is left stood where the one above is put", stale(9, map[int]impl.Node{
		9: innerOf(nil, 10), 10: innerOf(texts("m"), 2, 11), 2: leafOf("a", w), 11: leafOf("m", w),
	}), "m", 2)
	x = stale(9, map[int]impl.Node{9: innerOf(texts("m"), 10, 11), 10: leafOf("a", w, "b", w), 11: leafOf("m", w)})
	x.New = []impl.Fresh{fresh(10, leafOf("a", w, "c", w))}
	dels(t, "a new leaf below it", x, "a", 2, fresh(2, innerOf(texts("m"), 10, 11)), fresh(10, leafOf("c", w)))
	r := rand.New(rand.NewSource(190))
	for range 300 {
		x := someTree(r, somePairs(r))
		for _, p := range impl.PairsOf(x)[:min(3, impl.CountOf(x))] {
			delAs(t, "anywhere", x, p.Key)
		}
		if t.Failed() {
			t.FailNow()
		}
	}
}

// Behind the empty Key stands any Key ahead of it: what comes to stand together need not be in order any more, and what was not found may be.
func TestTakingBesideTheEmptyKey(t *testing.T) {
	w := long(60)
	for _, x := range []impl.Txn{
		newTree(innerOf(texts(""), 3, 4), leafOf("a", "1"), leafOf("b", "2", "c", "3")),
		newTree(innerOf(texts(""), 3, 4), leafOf("z", "1"), leafOf("b", "2", "c", "3")),
		newTree(innerOf(texts(""), 3, 4), leafOf("c", "1"), leafOf("b", "2", "c", "3")),
		newTree(innerOf(texts(""), 3, 4), leafOf("z", w), leafOf("b", w, "c", w)),
		newTree(innerOf(texts(""), 3, 4), leafOf("z", w), leafOf("b", w)),
		newTree(innerOf(texts("", "m"), 3, 4, 5), leafOf("z", w), leafOf("b", w), leafOf("n", w)),
		newTree(innerOf(texts(""), 3, 4), innerOf(texts("c"), 5, 6), innerOf(texts("b"), 7, 8), leafOf("a", w), leafOf("d", w), leafOf("a", w), leafOf("b", w, "c", w)),
		newTree(innerOf(texts(""), 3, 4), innerOf(texts(""), 5, 6), innerOf(texts(""), 7, 8), leafOf("a", w), leafOf("b", w), leafOf("c", w), leafOf("d", w, "e", w)),
	} {
		treeIs(t, "the empty Key", x, true)
		for _, key := range keysIn(x) {
			delAs(t, "the empty Key", x, key)
		}
	}
}

// An empty list and nil are the same value.
func TestTakingWithEmptyLists(t *testing.T) {
	w := long(60)
	for _, nils := range []bool{true, false} {
		x := underWay()
		x.D.Cache, x.D.Faults = listOr(nils, x.D.Cache), listOr(nils, x.D.Faults)
		x.New[0].X.Vals, x.New[1].X.Kids = listOr(nils, x.New[0].X.Vals), listOr(nils, x.New[1].X.Kids)
		x.New[1].X.Vals = texts("1", w)
		dels(t, "under way", x, "a", 2, x.New[0], fresh(11, leafOf("c", w)))
		x = kept()
		x.New = listOr(nils, x.New)
		dels(t, "nothing new", x, "m", 2, fresh(2, leafOf("a", "1", "b", "2", "z", "4")))
		x.Root = 0
		delsNot(t, "no Root", x, "m", impl.CoMissing)
		x = newTree(impl.Node{Keys: listOr(nils, []string(nil)), Vals: listOr(nils, []string(nil)), Kids: []int{3}}, leafOf("a", "1"))
		dels(t, "no Keys", x, "a", 0)
	}
}

// someDel has a key that is there, or one beside it, or any.
func someDel(r *rand.Rand, x impl.Txn) string {
	pairs := impl.PairsOf(x)
	if len(pairs) == 0 || r.Intn(20) == 0 {
		return someText(r, 3)
	}
	key := pairs[r.Intn(len(pairs))].Key
	if r.Intn(8) == 0 {
		beside := near(key)
		return beside[r.Intn(len(beside))]
	}
	return key
}

// drawn is a tree that keys are put into and taken from, and what it must have.
type drawn struct {
	x     impl.Txn
	has   []impl.Pair
	held  []impl.Pair
	codes map[int]int
}

func (d *drawn) put(t *testing.T, key string, val string) {
	t.Helper()
	y, code := putAs(t, "drawn", d.x, key, val)
	if code == impl.CoGood {
		d.has = withPair(d.has, key, val)
	}
	d.x = y
}

func (d *drawn) del(t *testing.T, key string) {
	t.Helper()
	y, code := delAs(t, "drawn", d.x, key)
	d.codes[code]++
	if code == impl.CoGood {
		turnsInNoKey(t, "drawn", d.x, key, y)
		d.has = withoutPair(d.has, key)
	}
	isPairs(t, "drawn", y, d.has)
	if got := impl.KeptOf(y.D); !slices.Equal(got, d.held) {
		t.Errorf("what is kept turned into %q", got)
	}
	d.x = y
}

func (d *drawn) keep(t *testing.T) {
	t.Helper()
	disk, code := impl.Commit(d.x)
	if code != impl.CoGood {
		t.Errorf("it is not kept: %d", code)
	}
	d.x, d.held = impl.TxNew(disk), d.has
}

// Many keys are put and taken away in drawn orders, some of it kept in between, until nothing is left.
func TestManyDels(t *testing.T) {
	r := rand.New(rand.NewSource(19))
	codes, depths, emptied := map[int]int{}, map[int]int{}, 0
	for range 24 {
		d := &drawn{x: impl.TxNew(impl.Format(4+r.Intn(45), nil)), codes: codes}
		for range 100 {
			key, val := somePut(r, d.x)
			if r.Intn(4) > 0 && len(impl.FreeOf(d.x)) > r.Intn(5) {
				d.put(t, wide(key, max(len(key), r.Intn(49))), val)
			} else {
				d.del(t, someDel(r, d.x))
			}
			if r.Intn(15) == 0 {
				d.keep(t)
			}
			depths[impl.DepthOf(d.x)]++
		}
		for i := 0; i < 300 && len(d.has) > 0; i++ {
			lacked := codes[impl.CoSpace]
			d.del(t, someDel(r, d.x))
			if codes[impl.CoSpace] > lacked || r.Intn(25) == 0 {
				d.keep(t)
			}
			depths[impl.DepthOf(d.x)]++
		}
		if len(d.has) == 0 && d.x.Root == 0 && len(d.x.New) == 0 {
			emptied++
		}
		if t.Failed() {
			t.FailNow()
		}
	}
	if codes[impl.CoGood] < 1000 || codes[impl.CoMissing] < 100 || codes[impl.CoSpace] < 10 || depths[1] < 100 || depths[2] < 300 || depths[3] < 100 || emptied < 15 {
		t.Errorf("the codes %v, the depths %v, %d emptied", codes, depths, emptied)
	}
}

// All keys that stand in order are taken away in it, or back, or by turns.
func TestDelsInOrder(t *testing.T) {
	keys := []string{}
	for i := range 48 {
		keys = append(keys, wide(fmt.Sprintf("%02d", i), 25))
	}
	back := slices.Clone(keys)
	slices.Reverse(back)
	odd := []string{}
	for i := range 48 {
		odd = append(odd, keys[(i*2)%48+i/24])
	}
	for what, order := range map[string][]string{"in order": keys, "back": back, "by turns": odd} {
		for _, size := range []int{0, 20, 40} {
			for _, commits := range []bool{true, false} {
				d := &drawn{x: impl.TxNew(impl.Format(48, nil)), codes: map[int]int{}}
				for _, key := range keys {
					d.put(t, key, long(size))
				}
				if len(d.has) != len(keys) {
					t.Fatalf("%s, of %d bytes: %d keys", what, size, len(d.has))
				}
				for i, key := range order {
					d.del(t, key)
					if commits && i%7 == 0 {
						d.keep(t)
					}
				}
				if len(d.has) > 0 || d.x.Root != 0 || len(d.x.New) > 0 {
					t.Errorf("%s, of %d bytes: %q are left: %v", what, size, d.has, d.codes)
				}
				d.keep(t)
				if got := impl.FreeOf(d.x); len(got) != 46 {
					t.Errorf("%s, of %d bytes: free are %v", what, size, got)
				}
			}
		}
	}
}

// Each key of many trees, one alone, and then all of them in a drawn order as long as there is room.
func TestDelsOfSoundTrees(t *testing.T) {
	r := rand.New(rand.NewSource(1900))
	codes := map[int]int{}
	for i := range 150 {
		x := soundTree(r, somePairs(r))
		if i%2 == 0 {
			x = longTree(r)
		}
		treeIs(t, "a sound tree", x, true)
		pairs := impl.PairsOf(x)
		for _, p := range pairs {
			y, code := delAs(t, "a sound tree", x, p.Key)
			codes[code]++
			if code == impl.CoGood {
				turnsInNoKey(t, "a sound tree", x, p.Key, y)
			}
		}
		for _, at := range r.Perm(len(pairs)) {
			x, _ = delAs(t, "a sound tree, all", x, pairs[at].Key)
			treeIs(t, "a sound tree, all", x, true)
		}
		if t.Failed() {
			t.FailNow()
		}
	}
	if codes[impl.CoGood] < 1000 {
		t.Errorf("the codes %v", codes)
	}
}

// Of a tree that is sound, putting and taking away make one, by turns.
func TestDelsBesideLongKeys(t *testing.T) {
	r := rand.New(rand.NewSource(199))
	fell, grew := 0, 0
	for range 200 {
		x := longTree(r)
		depth := impl.DepthOf(x)
		for range 12 {
			y := x
			if r.Intn(3) == 0 {
				y, _ = putAs(t, "long keys", x, wide(fmt.Sprintf("%02d1%d", r.Intn(13), r.Intn(10)), 4+r.Intn(45)), strings.Repeat("w", r.Intn(61)))
			} else {
				key := someDel(r, x)
				var code int
				if y, code = delAs(t, "long keys", x, key); code == impl.CoGood {
					turnsInNoKey(t, "long keys", x, key, y)
				}
			}
			treeIs(t, "long keys", y, true)
			x = y
		}
		if impl.DepthOf(x) < depth {
			fell++
		}
		if impl.DepthOf(x) > depth {
			grew++
		}
		if t.Failed() {
			t.FailNow()
		}
	}
	if fell < 50 || grew < 3 {
		t.Errorf("%d fell, %d grew", fell, grew)
	}
}

func TestDelsByTheWords(t *testing.T) {
	r := rand.New(rand.NewSource(19000))
	for _, x := range someTxns() {
		for _, key := range keysIn(x) {
			delAs(t, "some", x, key)
		}
	}
	for what, d := range someDisks() {
		delAs(t, what, impl.TxNew(d), "a")
		delAs(t, what, impl.Txn{D: d, Root: 2}, "a")
	}
	codes := map[int]int{}
	for range 3000 {
		x := someTxn(r)
		keys := keysIn(x)
		_, code := delAs(t, "some", x, keys[r.Intn(len(keys))])
		codes[code]++
		if t.Failed() {
			t.FailNow()
		}
	}
	if codes[impl.CoGood] < 200 || codes[impl.CoMissing] < 200 || codes[impl.CoForm] < 200 {
		t.Errorf("the codes %v", codes)
	}
}

// What was asked ahead leaves nothing behind.
func TestTakingKeepsNothing(t *testing.T) {
	for _, c := range wrongTxns() {
		x := underWay()
		c.turn(&x)
		impl.Del(x, "a")
		impl.Del(x, "q")
		dels(t, "behind "+c.what, underWay(), "m", 11, fresh(11, leafOf("a", "1", "c", "5", "z", "4")))
	}
	x := kept()
	for range 3 {
		dels(t, "again", x, "m", 2, fresh(2, leafOf("a", "1", "b", "2", "z", "4")))
		isPairs(t, "again", x, pairsOf("a", "1", "b", "2", "m", "3", "z", "4"))
	}
}

// delOf has a Txn, and what is taken from it, refused and not.
type delOf struct {
	x   impl.Txn
	key string
}

func someDels() []delOf {
	w := long(60)
	out := []delOf{
		{impl.TxNew(impl.Format(5, faultLists()[3])), "a"},
		{kept(), "a"},
		{kept(), "q"},
		{underWay(), "a"},
		{underWay(), "m"},
		{underWay(), "q"},
		{freshTree(6, fourKeys()), "d"},
		{freshTree(6, leafOf("a", "1")), "a"},
		{keptTree(8, fourKeys()), "d"},
		{freshTree(12, fourLeaves()...), "g"},
		{keptTree(12, fourLeaves()...), "g"},
		{freshTree(12, threeLeaves(20, 20)...), "g"},
		{freshTree(12, threeLeaves(237, 20)...), "g"},
		{freshTree(12, threeLeaves(237, 237)...), "g"},
		{threeNew(), "a"},
		{threeKept(), "t"},
		{freshTree(16, wideThree(1, 1)...), "r"},
		{freshTree(16, wideThree(232, 1)...), "r"},
		{keptTree(5, innerOf(texts("m"), 3, 4), leafOf("a", w, "b", w), leafOf("m", w)), "a"},
		{freshTree(9, innerOf(nil, 3), innerOf(nil, 4), leafOf("a", w, "b", w)), "a"},
	}
	for _, x := range someTxns() {
		out = append(out, delOf{x, "a"}, delOf{x, "none"})
	}
	return out
}

// Neither is what is asked written to, nor is the room behind it read.
func TestTakingWritesNothing(t *testing.T) {
	for _, d := range someDels() {
		roomy := roomyTxn(txnCopy(d.x))
		ahead := allTxn(roomy)
		delAs(t, "with room behind", roomy, d.key)
		if got := allTxn(roomy); got != ahead {
			t.Errorf("the Txn %s turned into %s", ahead, got)
		}
	}
}

func TestWhatIsLeftIsNewMemory(t *testing.T) {
	for _, d := range someDels() {
		arg := roomyTxn(txnCopy(d.x))
		ahead := allTxn(arg)
		first, _ := impl.Del(arg, d.key)
		second, code := impl.Del(arg, d.key)
		want := txnText(second)
		overwriteTxn(first)
		if allTxn(arg) != ahead || txnText(second) != want {
			t.Errorf("%d: the answer shares memory: %s, %s", code, allTxn(arg), txnText(second))
		}
		overwriteTxn(arg)
		if txnText(second) != want {
			t.Errorf("%d: the answer shares memory with the Txn: %s, not %s", code, txnText(second), want)
		}
	}
}

func TestListsOfWhatIsLeftShareNothing(t *testing.T) {
	both, w := texts("a", "b"), long(60)
	shared := impl.TxNew(impl.Format(9, nil))
	shared.Root = 2
	shared.New = []impl.Fresh{fresh(2, innerOf(texts("m"), 3, 4)), fresh(3, impl.Node{Leaf: true, Keys: both, Vals: both}), fresh(4, leafOf("m", w, "n", w))}
	one := []byte(wordsMeta(meta(0, 0)))
	shared.D.Secs = [][]byte{one, one, one, one, one, one}
	shared.D.Cache = []impl.Write{{N: 5, B: one}, {N: 5, B: one}}
	for _, d := range append(someDels(), delOf{shared, "a"}, delOf{shared, "n"}, delOf{shared, "q"}) {
		y, code := impl.Del(d.x, d.key)
		lists := listsOfTxn(y)
		for i, l := range lists {
			ahead := []string{}
			for _, other := range lists {
				ahead = append(ahead, other.text())
			}
			l.fill()
			for j, other := range lists {
				if i != j && other.text() != ahead[j] {
					t.Errorf("%d: %d and %d share memory: %s", code, i, j, other.text())
				}
			}
		}
	}
}

// Nothing stands behind the lists of an answer.
func TestNothingStandsBehindWhatIsLeft(t *testing.T) {
	for _, d := range someDels() {
		y, code := impl.Del(roomyTxn(txnCopy(d.x)), d.key)
		for _, f := range y.New[len(y.New):cap(y.New)] {
			if f.N != 0 || nodeText(f.X) != nodeText(impl.Node{}) {
				t.Errorf("%d: behind New stands %d, %s", code, f.N, nodeText(f.X))
			}
		}
		for _, f := range y.New {
			room := slices.Concat(f.X.Keys[len(f.X.Keys):cap(f.X.Keys)], f.X.Vals[len(f.X.Vals):cap(f.X.Vals)])
			if strings.Join(room, "") != "" || slices.ContainsFunc(f.X.Kids[len(f.X.Kids):cap(f.X.Kids)], func(n int) bool { return n != 0 }) {
				t.Errorf("%d: behind the lists of %d stands %q, %v", code, f.N, room, f.X.Kids[:cap(f.X.Kids)])
			}
		}
	}
}

// Much that is wrong comes to an end, too.
func TestTakingFromVeryMany(t *testing.T) {
	const many = 200000
	x := impl.TxNew(impl.Format(48, nil))
	x.Root, x.New = 2, chain(upToKids(many, 2)...)
	if y, code := impl.Del(x, "a"); code != impl.CoForm || len(y.New) != many || y.Root != 2 {
		t.Errorf("one below the other: %d", code)
	}
	x.New = []impl.Fresh{fresh(2, innerOf(nil, slices.Repeat([]int{3, 2}, many)...)), fresh(3, leafOf("a", "1"))}
	if y, code := impl.Del(x, "a"); code != impl.CoForm || len(y.New) != 2 || len(y.New[0].X.Kids) != 2*many {
		t.Errorf("many kids: %d", code)
	}
	x.New = chain(upToKids(46, 2)...)
	dels(t, "46 deep", x, "a", 0)
	delsNot(t, "46 deep, very long", x, strings.Repeat("k", many), impl.CoMissing)
	x.New[45].X = leafOf("a", "1", "b", "2")
	dels(t, "46 deep, and one is left", x, "a", 47, fresh(47, leafOf("b", "2")))
	for n := range 46 {
		x.D.Secs[n+2] = []byte(nodePage(x.New[n].X))
	}
	for depth := 1; depth <= 46; depth++ {
		k := impl.Txn{D: diskCopy(x.D), M: meta(1, 48-depth), Root: 48 - depth}
		k.D.Secs[1] = []byte(wordsMeta(k.M))
		if depth > 24 { // the leaf, and all above it but Root, lack a sector
			delsNot(t, fmt.Sprint(depth, " deep"), k, "a", impl.CoSpace)
		} else if depth < 24 {
			dels(t, fmt.Sprint(depth, " deep"), k, "a", 2, fresh(2, leafOf("b", "2")))
		}
		delAs(t, fmt.Sprint(depth, " deep"), k, "b")
	}
}
