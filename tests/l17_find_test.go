package tests

import (
	"fmt"
	"math"
	"math/rand"
	"slices"
	"strings"
	"testing"

	"loop.example/g00322/impl"
)

var (
	_ func(impl.Txn, string) (string, bool)                 = impl.Find
	_ func(impl.Txn) []impl.Pair                            = impl.PairsOf
	_ func(impl.Txn, string, string, bool, int) []impl.Pair = impl.RangeOf
	_ struct {
		Key string
		Val string
	} = struct {
		Key string
		Val string
	}(impl.Pair{})
)

// pairsOf has pairs of keys and values in turn.
func pairsOf(l ...string) []impl.Pair {
	var out []impl.Pair
	for i := 0; i+1 < len(l); i += 2 {
		out = append(out, impl.Pair{Key: l[i], Val: l[i+1]})
	}
	return out
}

// wordsFind finds a key by the chapter's words.
func wordsFind(x impl.Txn, key string) (string, bool) {
	if x.Root == 0 {
		return "", false
	}
	n := x.Root
	for met := 1; met <= 48; met++ {
		node, there := wordsNodeAt(x, n)
		if !there {
			return "", false
		}
		if node.Leaf {
			for i, k := range node.Keys {
				if k == key {
					return textAt(node.Vals, i)
				}
			}
			return "", false
		}
		place := 0
		for _, k := range node.Keys {
			if strings.Compare(k, key) <= 0 {
				place++
			}
		}
		if place >= len(node.Kids) {
			return "", false
		}
		n = node.Kids[place]
	}
	return "", false
}

func textAt(l []string, i int) (string, bool) {
	if i >= len(l) {
		return "", false
	}
	return l[i], true
}

// wordsPairs has the pairs by the chapter's words: each node that is led to, and then, one by one, what it leads to.
func wordsPairs(x impl.Txn) []impl.Pair {
	var out []impl.Pair
	met := map[int]bool{}
	var meet func(n int)
	meet = func(n int) {
		if met[n] {
			return
		}
		met[n] = true
		node, _ := wordsNodeAt(x, n)
		for i, k := range node.Keys {
			if v, has := textAt(node.Vals, i); has && node.Leaf {
				out = append(out, impl.Pair{Key: k, Val: v})
			}
		}
		for _, kid := range node.Kids {
			meet(kid)
		}
	}
	if x.Root != 0 {
		meet(x.Root)
	}
	return out
}

// wordsRange takes of these pairs what the chapter tells.
func wordsRange(all []impl.Pair, lo string, hi string, rev bool, n int) []impl.Pair {
	var out []impl.Pair
	for i := range all {
		p := all[i]
		if rev {
			p = all[len(all)-1-i]
		}
		if strings.Compare(p.Key, lo) >= 0 && strings.Compare(p.Key, hi) < 0 && len(out) < n {
			out = append(out, p)
		}
	}
	return out
}

func finds(t *testing.T, what string, x impl.Txn, key string, want string) {
	t.Helper()
	if got, ok := impl.Find(x, key); got != want || !ok {
		t.Errorf("%s: Find(%s, %q) = %q, %v, not %q", what, txnText(x), key, got, ok, want)
	}
}

func findsNot(t *testing.T, what string, x impl.Txn, keys ...string) {
	t.Helper()
	for _, key := range keys {
		if got, ok := impl.Find(x, key); got != "" || ok {
			t.Errorf("%s: Find(%s, %q) = %q, %v", what, txnText(x), key, got, ok)
		}
	}
}

func hasPairs(t *testing.T, what string, x impl.Txn, want ...string) {
	t.Helper()
	isPairs(t, what, x, pairsOf(want...))
}

func isPairs(t *testing.T, what string, x impl.Txn, want []impl.Pair) {
	t.Helper()
	if got := impl.PairsOf(x); !slices.Equal(got, want) {
		t.Errorf("%s: PairsOf(%s) = %q, not %q", what, txnText(x), got, want)
	}
}

func hasRange(t *testing.T, what string, x impl.Txn, lo string, hi string, rev bool, n int, want ...string) {
	t.Helper()
	isRange(t, what, x, lo, hi, rev, n, pairsOf(want...))
}

func isRange(t *testing.T, what string, x impl.Txn, lo string, hi string, rev bool, n int, want []impl.Pair) {
	t.Helper()
	if got := impl.RangeOf(x, lo, hi, rev, n); !slices.Equal(got, want) {
		t.Errorf("%s: RangeOf(%s, %q, %q, %v, %d) = %q, not %q", what, txnText(x), lo, hi, rev, n, got, want)
	}
}

// near has a key and those beside it: nothing stands between it and the one behind it.
func near(key string) []string {
	out := []string{key, key + "\x00", key + "\xff"}
	if key != "" {
		ahead, last := key[:len(key)-1], key[len(key)-1]
		out = append(out, ahead, ahead+string([]byte{last + 1}), ahead+string([]byte{last - 1}), ahead+string([]byte{last - 1})+"\xff")
	}
	return out
}

// keysIn has the keys of all nodes of a Txn that stand in sectors, or in New.
func keysIn(x impl.Txn) []string {
	out := texts("", "\xff\xff\xff\xff")
	for _, n := range append(manySecs(len(x.D.Secs)), newSecs(x)...) {
		node, _ := wordsNodeAt(x, n)
		out = append(out, node.Keys...)
	}
	return out
}

// findAs asks all that the chapter tells of a Txn.
func findAs(t *testing.T, what string, x impl.Txn) {
	t.Helper()
	keys := keysIn(x)
	for _, k := range keys {
		for _, key := range near(k) {
			if want, there := wordsFind(x, key); there {
				finds(t, what, x, key, want)
			} else {
				findsNot(t, what, x, key)
			}
		}
	}
	all := wordsPairs(x)
	isPairs(t, what, x, all)
	for i, lo := range keys {
		hi := keys[(i*7+3)%len(keys)]
		for _, n := range []int{-1, 0, 1, 2, len(all), len(all) + 1} {
			isRange(t, what, x, lo, hi, i%2 == 0, n, wordsRange(all, lo, hi, i%2 == 0, n))
		}
	}
}

// treesOf has one tree in all ways: its nodes stand in the sectors from 2 on, on the disk, in its cache, in New, and by turns.
func treesOf(root int, nodes ...impl.Node) map[string]impl.Txn {
	secs := []string{}
	for _, x := range nodes {
		secs = append(secs, nodePage(x))
	}
	onDisk := impl.Txn{D: rootDisk(root, secs...), M: meta(1, root), Root: root}
	cached, isNew, mixed := impl.TxNew(impl.Format(48, nil)), impl.TxNew(impl.Format(48, nil)), txnCopy(onDisk)
	cached.Root, isNew.Root = root, root
	for i, x := range nodes {
		cached.D.Cache = append(cached.D.Cache, write(i+2, secs[i]))
		isNew.New = append(isNew.New, fresh(i+2, x))
		if i%2 == 0 {
			mixed.New = append(mixed.New, fresh(i+2, x))
			mixed.D.Secs[i+2] = []byte(nodePage(leafOf("over", "written")))
		}
	}
	return map[string]impl.Txn{"on the disk": onDisk, "in the cache": cached, "new": isNew, "by turns": mixed}
}

// twoLevels has three leaves; the key "e" stands in the inner node alone.
func twoLevels() map[string]impl.Txn {
	return treesOf(5,
		leafOf("a", "1", "c", "3"),
		leafOf("x", "24", "z", ""),
		leafOf("g", "7"),
		innerOf(texts("e", "x"), 2, 4, 3))
}

// threeLevels has seven leaves; the keys "g", "k" and "w" stand in inner nodes alone.
func threeLevels() map[string]impl.Txn {
	return treesOf(2,
		innerOf(texts("k", "t"), 3, 11, 4),
		innerOf(texts("c", "g"), 10, 6, 8),
		innerOf(texts("w"), 7, 5),
		leafOf("x", "x1", "z", "z1"),
		leafOf("c", "c1", "f", "f1"),
		leafOf("t", "t1", "v", ""),
		leafOf("h", "h1", "j", "j1"),
		leafOf("p", "p1"),
		leafOf("", "none", "b", "b1"),
		innerOf(texts("p"), 12, 9),
		leafOf("l", "l1", "m", "m1"))
}

func TestFindingWithoutATree(t *testing.T) {
	for what, x := range map[string]impl.Txn{
		"the zero one":          {},
		"a new disk":            impl.TxNew(impl.Format(4, nil)),
		"no root on the disk":   impl.TxNew(impl.DiskNew(8, nil)),
		"M has a tree":          {D: keptDisk(), M: meta(1, 6)},
		"what is new is led to": {D: keptDisk(), M: meta(1, 6), New: underWay().New},
	} {
		findsNot(t, what, x, "", "a", "b", "c", "m", "z", "old", "\x00", "\xff")
		hasPairs(t, what, x)
		hasRange(t, what, x, "", "\xff", false, 9)
		hasRange(t, what, x, "", "\xff", true, 9)
	}
}

// A Root of 0 is no tree, even where a node stands in sector 0.
func TestFindingNothingOf0(t *testing.T) {
	x := kept()
	x.Root = 0
	x.D.Secs[0] = []byte(nodePage(leafOf("a", "zero")))
	findsNot(t, "on the disk", x, "a")
	hasPairs(t, "on the disk", x)
	hasRange(t, "on the disk", x, "", "z", false, 9)
	x.New = []impl.Fresh{fresh(0, leafOf("a", "new"))}
	findsNot(t, "in New", x, "a")
	hasPairs(t, "in New", x)
	// One that leads to 0, though, leads to what is there.
	x.Root, x.New = 2, []impl.Fresh{fresh(0, leafOf("a", "new")), fresh(2, innerOf(nil, 0))}
	finds(t, "a kid", x, "a", "new")
	hasPairs(t, "a kid", x, "a", "new")
	x.Root, x.New = 1, nil
	x.D.Secs[1] = []byte(nodePage(leafOf("b", "one")))
	finds(t, "sector 1", x, "b", "one")
	hasPairs(t, "sector 1", x, "b", "one")
}

func TestFindingInOneLeaf(t *testing.T) {
	for what, x := range treesOf(2, leafOf("b", "1", "d", "", "da", "3", "f", "4")) {
		finds(t, what+", the first", x, "b", "1")
		finds(t, what+", without a value", x, "d", "")
		finds(t, what+", behind its beginning", x, "da", "3")
		finds(t, what+", the last", x, "f", "4")
		findsNot(t, what+", ahead of all", x, "", "a", "a\xff", "\x00")
		findsNot(t, what+", between", x, "b\x00", "bb", "c", "c\xff", "d\x00", "d`", "da\x00", "db", "e", "B", "D")
		findsNot(t, what+", behind all", x, "f\x00", "fa", "g", "\xff", "b1", "f4")
		hasPairs(t, what, x, "b", "1", "d", "", "da", "3", "f", "4")
		findAs(t, what, x)
	}
	for what, x := range treesOf(2, leafOf("", "", "\x00", "1", "\x7f", "2", "\x80", "3", "\xff", "4", "\xff\xff", "5")) {
		for key, want := range map[string]string{"": "", "\x00": "1", "\x7f": "2", "\x80": "3", "\xff": "4", "\xff\xff": "5"} {
			finds(t, what+", any bytes", x, key, want)
		}
		findsNot(t, what+", any bytes", x, "\x00\x00", "\x01", "\x7f\xff", "\x81", "\xfe", "\xff\x00", "\xff\xfe", "\xff\xff\x00", "\xff\xff\xff")
		findAs(t, what+", any bytes", x)
	}
	for what, x := range treesOf(2, leafOf("k", long(60))) {
		finds(t, what+", one key", x, "k", long(60))
		findsNot(t, what+", one key", x, "", "j", "kk", "l")
		findAs(t, what+", one key", x)
	}
}

func TestFindingBelowARoot(t *testing.T) {
	for what, x := range twoLevels() {
		for key, want := range map[string]string{"a": "1", "c": "3", "g": "7", "x": "24", "z": ""} {
			finds(t, what, x, key, want)
		}
		findsNot(t, what+", in the inner node alone", x, "e")
		findsNot(t, what+", between", x, "a\x00", "b", "bz", "c\x00", "d", "d\xff", "e\x00", "f", "f\xff", "g\x00", "h", "w\xff", "x\x00", "y")
		findsNot(t, what+", ahead and behind", x, "", "A", "`", "z\x00", "zz", "\xff")
		hasPairs(t, what, x, "a", "1", "c", "3", "g", "7", "x", "24", "z", "")
		findAs(t, what, x)
	}
	for what, x := range threeLevels() {
		for key, want := range map[string]string{"": "none", "b": "b1", "c": "c1", "f": "f1", "h": "h1", "j": "j1", "l": "l1", "m": "m1", "p": "p1", "t": "t1", "v": "", "x": "x1", "z": "z1"} {
			finds(t, what, x, key, want)
		}
		findsNot(t, what+", in inner nodes alone", x, "g", "k", "w")
		findsNot(t, what+", between", x, "\x00", "a", "bb", "d", "g\x00", "i", "j\xff", "k\x00", "n", "o\xff", "q", "s\xff", "u", "w\x00", "y")
		findsNot(t, what+", behind all", x, "z\x00", "z1", "\xff")
		hasPairs(t, what, x, "", "none", "b", "b1", "c", "c1", "f", "f1", "h", "h1", "j", "j1", "l", "l1", "m", "m1", "p", "p1", "t", "t1", "v", "", "x", "x1", "z", "z1")
		findAs(t, what, x)
	}
}

// Where the way goes at each key: the kid of all that is no less than the key between, and of just less.
func TestFindingByTheKeysBetween(t *testing.T) {
	for _, between := range []string{"", "\x00", "m", "m\x00", "mm", "\x80", "\xff"} {
		for what, x := range treesOf(2, innerOf(texts(between), 3, 4), leafOf("", "left", "m", "left", "zz", "left"), leafOf("", "right", "m", "right", "zz", "right")) {
			for _, key := range texts("", "m", "zz") {
				want := "right"
				if strings.Compare(key, between) < 0 {
					want = "left"
				}
				finds(t, fmt.Sprintf("%s, %q", what, between), x, key, want)
			}
			findAs(t, what, x)
		}
	}
	// A key that stands on the other side of the key between is not on its way.
	for what, x := range treesOf(2, innerOf(texts("m"), 3, 4), leafOf("a", "1", "m", "2", "x", "3"), leafOf("b", "4", "n", "5")) {
		finds(t, what, x, "a", "1")
		finds(t, what, x, "n", "5")
		findsNot(t, what, x, "m", "x", "b")
		hasPairs(t, what, x, "a", "1", "m", "2", "x", "3", "b", "4", "n", "5")
		findAs(t, what, x)
	}
	for what, x := range treesOf(2, innerOf(nil, 3), innerOf(nil, 4), leafOf("a", "1", "z", "2")) {
		finds(t, what+", one kid alone", x, "a", "1")
		finds(t, what+", one kid alone", x, "z", "2")
		findsNot(t, what+", one kid alone", x, "", "b", "zz")
	}
}

func TestFindingWhatIsNew(t *testing.T) {
	x := underWay()
	finds(t, "as it is kept", x, "a", "1")
	finds(t, "new alone", x, "c", "5")
	findsNot(t, "kept alone", x, "b")
	finds(t, "in a leaf that both lead to", x, "m", "3")
	finds(t, "in a leaf that both lead to", x, "z", "4")
	findsNot(t, "in a leaf that nobody leads to", x, "old", "over", "written")
	hasPairs(t, "under way", x, "a", "1", "c", "5", "m", "3", "z", "4")
	findAs(t, "under way", x)
	findsNot(t, "without what is new", kept(), "c")
	finds(t, "without what is new", kept(), "b", "2")
	hasPairs(t, "without what is new", kept(), "a", "1", "b", "2", "m", "3", "z", "4")
	// New is asked first, even of what is kept.
	x = kept()
	x.New = []impl.Fresh{fresh(3, leafOf("b", "new", "c", "6"))}
	finds(t, "in both", x, "b", "new")
	finds(t, "new in place of what is kept", x, "c", "6")
	findsNot(t, "the disk has it alone", x, "a")
	hasPairs(t, "in both", x, "b", "new", "c", "6", "m", "3", "z", "4")
	x.New = append(x.New, fresh(3, leafOf("a", "second")))
	findsNot(t, "two of one sector", x, "a")
	hasPairs(t, "two of one sector", x, "b", "new", "c", "6", "m", "3", "z", "4")
	findAs(t, "two of one sector", x)
}

// Root counts, not that of M; what the cache has counts ahead of the sectors.
func TestFindingFromRootOn(t *testing.T) {
	x := kept()
	x.Root = 9
	findsNot(t, "a leaf of what is kept", x, "a", "b")
	finds(t, "a leaf of what is kept", x, "m", "3")
	hasPairs(t, "a leaf of what is kept", x, "m", "3", "z", "4")
	x.Root = 4
	finds(t, "one that nobody leads to", x, "old", "x")
	hasPairs(t, "one that nobody leads to", x, "old", "x")
	x.Root, x.M = 5, meta(7, 4)
	finds(t, "with another M", x, "b", "2")
	hasPairs(t, "with another M", x, "a", "1", "b", "2")
	x = kept()
	x.D.Cache = []impl.Write{write(3, nodePage(leafOf("b", "first"))), write(3, nodePage(leafOf("b", "last")))}
	finds(t, "the last Write", x, "b", "last")
	findsNot(t, "written over", x, "a")
	hasPairs(t, "the last Write", x, "b", "last", "m", "3", "z", "4")
	x.D.Down, x.D.Ops = true, -1
	finds(t, "off, and not right", x, "b", "last")
	hasPairs(t, "off, and not right", x, "b", "last", "m", "3", "z", "4")
}

func TestFindingWhereANodeIsNotThere(t *testing.T) {
	for _, root := range []int{1, 2, 7, 8, 10, 11, 12, 47, 48, -1, -6, 256, 262, 1 << 32, math.MinInt, math.MaxInt} {
		x := kept()
		x.Root = root
		what := fmt.Sprint("a Root that is not there: ", root)
		findsNot(t, what, x, "", "a", "b", "m", "z")
		hasPairs(t, what, x)
		hasRange(t, what, x, "", "\xff", false, 9)
	}
	for _, kid := range []int{0, 1, 7, 8, 10, 12, 47, 48, -1, 256, 1 << 40, math.MinInt} {
		x := kept()
		x.Root, x.New = 2, []impl.Fresh{fresh(2, innerOf(texts("c", "m"), 3, kid, 9))}
		what := fmt.Sprint("a kid that is not there: ", kid)
		finds(t, what, x, "a", "1")
		finds(t, what, x, "m", "3")
		findsNot(t, what, x, "c", "d", "l")
		hasPairs(t, what, x, "a", "1", "b", "2", "m", "3", "z", "4")
		x.New[0].X.Kids = []int{kid, 3, 9}
		findsNot(t, what+", the first", x, "", "a", "b")
		hasPairs(t, what+", the first", x, "a", "1", "b", "2", "m", "3", "z", "4")
		x.New[0].X.Kids = []int{3, 9, kid}
		findsNot(t, what+", the last", x, "m", "z")
		hasPairs(t, what+", the last", x, "a", "1", "b", "2", "m", "3", "z", "4")
		findAs(t, what, x)
	}
	x := kept()
	x.D.Secs[3] = x.D.Secs[3][:5]
	findsNot(t, "a kid that was cut", x, "a", "b")
	finds(t, "beside a kid that was cut", x, "z", "4")
	hasPairs(t, "beside a kid that was cut", x, "m", "3", "z", "4")
	x.D.Cache = []impl.Write{write(9, "")}
	hasPairs(t, "no kid is there", x)
	x = kept()
	x.Root, x.New = 2, []impl.Fresh{fresh(2, innerOf(nil, 4)), fresh(4, innerOf(texts("k"), 10, 5))}
	findsNot(t, "a grandchild that is not there", x, "a")
	hasPairs(t, "a grandchild that is not there", x, "a", "1", "b", "2")
}

func TestFindingWhereNodesLeadToEachOther(t *testing.T) {
	x := kept()
	x.Root, x.New = 2, []impl.Fresh{fresh(2, innerOf(nil, 2))}
	findsNot(t, "it leads to itself alone", x, "", "a", "z")
	hasPairs(t, "it leads to itself alone", x)
	x.New = []impl.Fresh{fresh(2, innerOf(texts("c", "m"), 3, 2, 9))}
	finds(t, "beside itself", x, "b", "2")
	finds(t, "beside itself", x, "z", "4")
	findsNot(t, "by itself", x, "c", "d")
	hasPairs(t, "it leads to itself", x, "a", "1", "b", "2", "m", "3", "z", "4")
	x.New = []impl.Fresh{fresh(2, innerOf(texts("m"), 4, 9)), fresh(4, innerOf(texts("c"), 3, 2))}
	finds(t, "beside each other", x, "a", "1")
	finds(t, "beside each other", x, "m", "3")
	findsNot(t, "by each other", x, "c", "l")
	hasPairs(t, "they lead to each other", x, "a", "1", "b", "2", "m", "3", "z", "4")
	x.Root = 4
	finds(t, "through the other", x, "z", "4")
	hasPairs(t, "from the other on", x, "a", "1", "b", "2", "m", "3", "z", "4")
	x.Root, x.New = 2, []impl.Fresh{fresh(2, innerOf(nil, 4)), fresh(4, innerOf(nil, 5)), fresh(5, innerOf(nil, 2))}
	findsNot(t, "three in a round", x, "a")
	hasPairs(t, "three in a round", x)
	for what, x := range treesOf(2, innerOf(texts("m"), 2, 3), leafOf("a", "1", "m", "2")) {
		findsNot(t, what, x, "a", "")
		finds(t, what, x, "m", "2")
		hasPairs(t, what, x, "a", "1", "m", "2")
		findAs(t, what, x)
	}
}

func TestFindingOnLongWays(t *testing.T) {
	x := impl.TxNew(impl.Format(48, nil))
	x.Root = 2
	for met := 1; met <= 60; met++ {
		secs := []int{}
		for i := range met {
			secs = append(secs, 2+i)
		}
		x.New = chain(secs...)
		what := fmt.Sprint("nodes on the way: ", met)
		if met <= 48 {
			finds(t, what, x, "a", "1")
		} else {
			findsNot(t, what, x, "a")
		}
		findsNot(t, what, x, "", "b")
		// How many are met counts for Find alone.
		hasPairs(t, what, x, "a", "1")
		hasRange(t, what, x, "", "b", false, 9, "a", "1")
	}
	nodes := []impl.Node{}
	for n := 3; n < 48; n++ {
		nodes = append(nodes, innerOf(nil, n))
	}
	for what, x := range treesOf(2, append(nodes, leafOf("a", "1"))...) {
		finds(t, "all sectors, "+what, x, "a", "1")
		findsNot(t, "all sectors, "+what, x, "", "b")
		hasPairs(t, "all sectors, "+what, x, "a", "1")
	}
	// The way counts, not what stands beside it.
	x.New = []impl.Fresh{fresh(2, innerOf(upTo(99, 3), upToKids(100, 3)...))}
	for n := 3; n < 103; n++ {
		x.New = append(x.New, fresh(n, leafOf(fmt.Sprintf("%03d", n-4), fmt.Sprint(n))))
	}
	finds(t, "a hundred beside each other", x, "000", "4")
	finds(t, "a hundred beside each other", x, "098", "102")
}

// upToKids has n sectors from the first one on.
func upToKids(n int, first int) []int {
	var out []int
	for i := range n {
		out = append(out, first+i)
	}
	return out
}

// Nodes that are not right are in New alone: what they have is taken as it stands.
func TestFindingInNodesThatAreNotRight(t *testing.T) {
	x := kept()
	x.Root = 2
	root := func(node impl.Node) impl.Txn {
		x.New = []impl.Fresh{fresh(2, node)}
		findAs(t, "not right", x)
		return x
	}
	root(impl.Node{Leaf: true, Keys: texts("a", "b", "c"), Vals: texts("1", "2")})
	finds(t, "fewer Vals", x, "b", "2")
	findsNot(t, "fewer Vals", x, "c")
	hasPairs(t, "fewer Vals", x, "a", "1", "b", "2")
	hasRange(t, "fewer Vals", x, "b", "z", true, 9, "b", "2")
	root(impl.Node{Leaf: true, Keys: texts("a")})
	findsNot(t, "no Vals", x, "a", "")
	hasPairs(t, "no Vals", x)
	root(impl.Node{Leaf: true, Keys: texts("a"), Vals: texts("1", "2")})
	finds(t, "more Vals", x, "a", "1")
	findsNot(t, "more Vals", x, "", "2")
	hasPairs(t, "more Vals", x, "a", "1")
	root(impl.Node{Leaf: true})
	findsNot(t, "an empty leaf", x, "", "a")
	hasPairs(t, "an empty leaf", x)
	root(leafOf("c", "1", "a", "2", "b", "3", "a", "4"))
	finds(t, "no order, the first of two", x, "a", "2")
	finds(t, "no order", x, "b", "3")
	finds(t, "no order", x, "c", "1")
	hasPairs(t, "no order", x, "c", "1", "a", "2", "b", "3", "a", "4")
	hasRange(t, "no order", x, "a", "c", false, 9, "a", "2", "b", "3", "a", "4")
	hasRange(t, "no order, from the last on", x, "a", "d", true, 3, "a", "4", "b", "3", "a", "2")
	root(impl.Node{Leaf: true, Keys: texts("b", "a", "a"), Vals: texts("1", "2")})
	finds(t, "the second of two has no value", x, "a", "2")
	root(impl.Node{Leaf: true, Keys: texts("b"), Vals: texts("1"), Kids: []int{3, 9}})
	finds(t, "a leaf with Kids", x, "b", "1")
	findsNot(t, "a leaf with Kids is the end of the way", x, "a", "m")
	hasPairs(t, "a leaf with Kids leads to them", x, "b", "1", "a", "1", "b", "2", "m", "3", "z", "4")
	root(impl.Node{})
	findsNot(t, "the zero node", x, "", "a")
	hasPairs(t, "the zero node", x)
	root(impl.Node{Keys: texts("a"), Vals: texts("1")})
	findsNot(t, "Vals of no leaf", x, "", "a")
	hasPairs(t, "Vals of no leaf", x)
	root(innerOf(texts("b", "c"), 3, 9))
	finds(t, "a kid too few, ahead", x, "a", "1")
	findsNot(t, "a kid too few", x, "c", "m", "z")
	hasPairs(t, "a kid too few", x, "a", "1", "b", "2", "m", "3", "z", "4")
	root(innerOf(texts("b"), 9, 3, 4))
	finds(t, "a kid too many", x, "b", "2")
	findsNot(t, "a kid too many", x, "old", "a")
	hasPairs(t, "a kid too many", x, "m", "3", "z", "4", "a", "1", "b", "2", "old", "x")
	root(innerOf(texts("z", "a", "a"), 4, 10, 3, 9))
	finds(t, "all Keys of no order count", x, "z", "4")
	findsNot(t, "all Keys of no order count", x, "old", "m")
	finds(t, "two that are no greater", x, "b", "2")
	x.Root, x.New = -5, []impl.Fresh{fresh(-5, innerOf(texts("m"), 3, 1<<40)), fresh(1<<40, leafOf("x", "far"))}
	finds(t, "sectors of no disk", x, "x", "far")
	finds(t, "sectors of no disk", x, "a", "1")
	hasPairs(t, "sectors of no disk", x, "a", "1", "b", "2", "x", "far")
	x.Root, x.New = 2, []impl.Fresh{fresh(2, leafOf(long(100), long(500)))}
	finds(t, "too long", x, long(100), long(500))
	hasPairs(t, "too long", x, long(100), long(500))
}

// Kid by kid: what the first leads to stands ahead of the second, however deep it is.
func TestPairsKidByKid(t *testing.T) {
	for what, x := range treesOf(2, innerOf(texts("m", "p"), 3, 4, 7), innerOf(texts("c"), 5, 6), leafOf("m", "1"), leafOf("a", "2"), leafOf("c", "3"), innerOf(nil, 8), leafOf("p", "4")) {
		hasPairs(t, what, x, "a", "2", "c", "3", "m", "1", "p", "4")
		findAs(t, what, x)
	}
	// Kids' places tell the order, neither their sectors nor their keys.
	for what, x := range treesOf(3, leafOf("b", "1"), innerOf(texts("m", "p"), 5, 2, 4), leafOf("a", "2", "z", "3"), leafOf("c", "4")) {
		hasPairs(t, what, x, "c", "4", "b", "1", "a", "2", "z", "3")
		hasRange(t, what, x, "b", "z", false, 9, "c", "4", "b", "1")
		hasRange(t, what, x, "b", "z", true, 9, "b", "1", "c", "4")
		hasRange(t, what, x, "", "\xff", true, 2, "z", "3", "a", "2")
	}
}

func TestPairsOfWhatIsLedToAgain(t *testing.T) {
	for what, x := range treesOf(2, innerOf(texts("m"), 3, 3), leafOf("a", "1", "m", "2")) {
		hasPairs(t, what+", the same kid twice", x, "a", "1", "m", "2")
		finds(t, what+", by both", x, "a", "1")
		finds(t, what+", by both", x, "m", "2")
	}
	// The first way to it tells its place: the one that is deeper, if that comes first.
	for what, x := range treesOf(2, innerOf(texts("m"), 3, 4), innerOf(texts("c"), 4, 5), leafOf("a", "1"), leafOf("c", "2")) {
		hasPairs(t, what+", below the first kid, too", x, "a", "1", "c", "2")
	}
	for what, x := range treesOf(2, innerOf(texts("m"), 4, 3), innerOf(texts("c"), 5, 4), leafOf("a", "1"), leafOf("c", "2")) {
		hasPairs(t, what+", below the last kid, too", x, "a", "1", "c", "2")
	}
	for what, x := range treesOf(2, innerOf(texts("m"), 3, 4), innerOf(texts("c"), 5, 6), innerOf(texts("x"), 6, 7), leafOf("a", "1"), leafOf("c", "2"), leafOf("x", "3")) {
		hasPairs(t, what+", below both", x, "a", "1", "c", "2", "x", "3")
	}
	for what, x := range treesOf(2, innerOf(texts("g", "m"), 3, 4, 3), innerOf(texts("c"), 5, 2), innerOf(texts("k"), 6, 3), leafOf("a", "1"), leafOf("g", "2")) {
		hasPairs(t, what+", in a round", x, "a", "1", "g", "2")
	}
	// Keys that are alike in two leaves are two.
	for what, x := range treesOf(2, innerOf(texts("b"), 3, 4), leafOf("a", "1", "b", "2"), leafOf("a", "1", "b", "3")) {
		hasPairs(t, what+", alike", x, "a", "1", "b", "2", "a", "1", "b", "3")
		hasRange(t, what+", alike", x, "b", "c", true, 9, "b", "3", "b", "2")
		finds(t, what+", alike", x, "b", "3")
	}
}

func TestRanges(t *testing.T) {
	for what, x := range threeLevels() {
		hasRange(t, what+", keys", x, "c", "l", false, 9, "c", "c1", "f", "f1", "h", "h1", "j", "j1")
		hasRange(t, what+", keys, from the last on", x, "c", "l", true, 9, "j", "j1", "h", "h1", "f", "f1", "c", "c1")
		hasRange(t, what+", between keys", x, "bb", "k", false, 9, "c", "c1", "f", "f1", "h", "h1", "j", "j1")
		hasRange(t, what+", between keys, from the last on", x, "d", "i", true, 9, "h", "h1", "f", "f1")
		hasRange(t, what+", none between", x, "c\x00", "f", false, 9)
		hasRange(t, what+", just one", x, "f", "f\x00", true, 9, "f", "f1")
		hasRange(t, what+", lo behind hi", x, "l", "c", false, 9)
		hasRange(t, what+", lo behind hi", x, "l", "c", true, 9)
		hasRange(t, what+", both alike, a key", x, "f", "f", false, 9)
		hasRange(t, what+", both alike, no key", x, "g", "g", true, 9)
		hasRange(t, what+", both empty", x, "", "", false, 9)
		hasRange(t, what+", an empty hi", x, "c", "", false, 9)
		hasRange(t, what+", an empty lo", x, "", "c", false, 9, "", "none", "b", "b1")
		hasRange(t, what+", an empty lo, from the last on", x, "", "c", true, 9, "b", "b1", "", "none")
		hasRange(t, what+", the empty key alone", x, "", "\x00", false, 9, "", "none")
		hasRange(t, what+", behind the empty key", x, "\x00", "c", false, 9, "b", "b1")
		hasRange(t, what+", the last ones", x, "w", "\xff", false, 9, "x", "x1", "z", "z1")
		hasRange(t, what+", up to the last one", x, "w", "z", false, 9, "x", "x1")
		hasRange(t, what+", behind all", x, "z\x00", "\xff", false, 9)
		for _, rev := range []bool{false, true} {
			for _, n := range []int{0, -1, -2, math.MinInt} {
				hasRange(t, what+", no room", x, "", "\xff", rev, n)
			}
		}
		for n, want := range [][]string{{}, {"c", "c1"}, {"c", "c1", "f", "f1"}, {"c", "c1", "f", "f1", "h", "h1"}, {"c", "c1", "f", "f1", "h", "h1"}} {
			hasRange(t, what+", the first ones", x, "c", "j", false, n, want...)
		}
		for n, want := range [][]string{{}, {"h", "h1"}, {"h", "h1", "f", "f1"}, {"h", "h1", "f", "f1", "c", "c1"}, {"h", "h1", "f", "f1", "c", "c1"}} {
			hasRange(t, what+", the last ones", x, "c", "j", true, n, want...)
		}
		all := wordsPairs(x)
		for _, n := range []int{len(all), len(all) + 1, 1000, math.MaxInt} {
			isRange(t, what+", all", x, "", "\xff", false, n, all)
			isRange(t, what+", all", x, "", "\xff", true, n, wordsRange(all, "", "\xff", true, n))
		}
		isRange(t, what+", all but one", x, "", "\xff", false, len(all)-1, all[:len(all)-1])
	}
	for what, x := range treesOf(2, leafOf("\x7f", "1", "\x80", "2", "\xff", "3", "\xff\x00", "4")) {
		hasRange(t, what+", bytes above 127", x, "\x80", "\xff\x00", false, 9, "\x80", "2", "\xff", "3")
		hasRange(t, what+", a beginning ahead", x, "\xff", "\xff\xff", true, 9, "\xff\x00", "4", "\xff", "3")
	}
}

// An empty list and nil are the same value.
func TestFindingWithEmptyLists(t *testing.T) {
	for _, nils := range []bool{true, false} {
		x := underWay()
		x.D.Cache, x.D.Faults = listOr(nils, x.D.Cache), listOr(nils, x.D.Faults)
		x.New[0].X.Vals, x.New[1].X.Kids = listOr(nils, x.New[0].X.Vals), listOr(nils, x.New[1].X.Kids)
		findAs(t, "under way", x)
		hasPairs(t, "under way", x, "a", "1", "c", "5", "m", "3", "z", "4")
		x = kept()
		x.New = listOr(nils, x.New)
		findAs(t, "nothing new", x)
		hasPairs(t, "nothing new", x, "a", "1", "b", "2", "m", "3", "z", "4")
		x.Root, x.New = 2, []impl.Fresh{fresh(2, impl.Node{Leaf: true, Keys: listOr[string](nils, nil), Vals: listOr[string](nils, nil)})}
		hasPairs(t, "an empty leaf", x)
		findsNot(t, "an empty leaf", x, "")
	}
}

// grown is a node of a tree that grows, and the first and the last key below it.
type grown struct {
	at    int
	first string
	last  string
}

// grower makes trees whose keys stand in order, in sectors that come in no order.
type grower struct {
	r     *rand.Rand
	secs  []int
	nodes map[int]impl.Node
}

func (g *grower) add(x impl.Node, first string, last string) grown {
	at := g.secs[len(g.nodes)]
	g.nodes[at] = x
	return grown{at, first, last}
}

func (g *grower) leaves(pairs []impl.Pair) []grown {
	var out []grown
	for len(pairs) > 0 {
		n := min(1+g.r.Intn(5), len(pairs))
		x := impl.Node{Leaf: true}
		for _, p := range pairs[:n] {
			x.Keys, x.Vals = append(x.Keys, p.Key), append(x.Vals, p.Val)
		}
		out = append(out, g.add(x, x.Keys[0], x.Keys[n-1]))
		pairs = pairs[n:]
	}
	return out
}

// above has the nodes above these. A key between stands behind the last key ahead of it, and not behind the first one there.
func (g *grower) above(below []grown) []grown {
	var out []grown
	for len(below) > 0 {
		n := min(2+g.r.Intn(4), len(below))
		x := impl.Node{}
		for i, kid := range below[:n] {
			x.Kids = append(x.Kids, kid.at)
			if i > 0 {
				x.Keys = append(x.Keys, []string{kid.first, below[i-1].last + "\x00"}[g.r.Intn(2)])
			}
		}
		out = append(out, g.add(x, below[0].first, below[n-1].last))
		below = below[n:]
	}
	return out
}

// grow has the nodes of a tree that has these pairs, and its root.
func grow(r *rand.Rand, pairs []impl.Pair) (int, map[int]impl.Node) {
	g := &grower{r: r, nodes: map[int]impl.Node{}}
	for _, n := range r.Perm(46) {
		g.secs = append(g.secs, n+2)
	}
	level := g.leaves(pairs)
	for len(level) > 1 {
		level = g.above(level)
	}
	if len(level) == 0 {
		return 0, g.nodes
	}
	return level[0].at, g.nodes
}

// somePairs has keys that ascend, many of them beginnings of each other.
func somePairs(r *rand.Rand) []impl.Pair {
	keys := []string{}
	for range r.Intn(30) {
		b := []byte{}
		for range r.Intn(4) {
			b = append(b, "\x00\x01ab\x7f\x80\xff"[r.Intn(7)])
		}
		keys = append(keys, string(b))
	}
	slices.Sort(keys)
	var out []impl.Pair
	for _, k := range slices.Compact(keys) {
		out = append(out, impl.Pair{Key: k, Val: someText(r, 3)})
	}
	return out
}

// someTree has these pairs in nodes on the disk, in its cache, and in New, in front of others of the same sectors.
func someTree(r *rand.Rand, pairs []impl.Pair) impl.Txn {
	root, nodes := grow(r, pairs)
	x := impl.TxNew(impl.Format(48, nil))
	x.Root = root
	for n := 2; n < 48; n++ {
		node, there := nodes[n]
		if r.Intn(2) == 0 {
			x.D.Secs[n] = []byte(nodePage(leafOf("other", "x", "\xff", "y")))
		}
		switch where := r.Intn(3); {
		case !there:
		case where == 0:
			x.D.Secs[n] = []byte(nodePage(node))
		case where == 1:
			x.D.Cache = append(x.D.Cache, write(n, nodePage(node)))
		default:
			x.New = append(x.New, fresh(n, node))
		}
	}
	return x
}

// Just the keys that a tree has are found, and its pairs stand in the order of their keys.
func TestJustTheKeysOfATreeAreFound(t *testing.T) {
	r := rand.New(rand.NewSource(17))
	deep := 0
	for range 1500 {
		pairs := somePairs(r)
		x := someTree(r, pairs)
		has := map[string]string{}
		for _, p := range pairs {
			has[p.Key] = p.Val
		}
		for _, k := range append(keysIn(x), someText(r, 4)) {
			for _, key := range near(k) {
				if want, there := has[key]; there {
					finds(t, "a tree", x, key, want)
				} else {
					findsNot(t, "a tree", x, key)
				}
			}
		}
		isPairs(t, "a tree", x, pairs)
		for range 20 {
			lo, hi, rev, n := someEnd(r, pairs), someEnd(r, pairs), r.Intn(2) == 0, r.Intn(len(pairs)+4)-1
			isRange(t, "a tree", x, lo, hi, rev, n, wordsRange(pairs, lo, hi, rev, n))
		}
		if len(wordsPages(x, x.Root)) > 8 {
			deep++
		}
		if t.Failed() {
			t.FailNow()
		}
	}
	if deep < 300 {
		t.Errorf("%d trees of more than 8 nodes", deep)
	}
}

// someEnd has a key, one beside it, or any text.
func someEnd(r *rand.Rand, pairs []impl.Pair) string {
	if len(pairs) == 0 || r.Intn(5) == 0 {
		return someText(r, 3)
	}
	beside := near(pairs[r.Intn(len(pairs))].Key)
	return beside[r.Intn(len(beside))]
}

// anyNode has a node of few keys and few sectors, right or not.
func anyNode(r *rand.Rand) impl.Node {
	x := impl.Node{Leaf: r.Intn(2) == 0}
	for range r.Intn(5) {
		x.Keys = append(x.Keys, someText(r, 2))
	}
	if r.Intn(4) > 0 {
		slices.Sort(x.Keys)
		x.Keys = slices.Compact(x.Keys)
	}
	for range len(x.Keys) {
		if x.Leaf || r.Intn(20) == 0 {
			x.Vals = append(x.Vals, someText(r, 2))
		}
	}
	for range len(x.Keys) + 1 {
		if !x.Leaf || r.Intn(20) == 0 {
			x.Kids = append(x.Kids, []int{2 + r.Intn(6), r.Intn(10)}[r.Intn(12)/11])
		}
	}
	if r.Intn(6) == 0 {
		x.Vals = x.Vals[:r.Intn(len(x.Vals)+1)]
		x.Kids = x.Kids[:r.Intn(len(x.Kids)+1)]
	}
	return x
}

// anyTxn has nodes that lead anywhere.
func anyTxn(r *rand.Rand) impl.Txn {
	x := impl.Txn{D: impl.DiskNew(8, nil), M: someMeta(r), Root: r.Intn(8)}
	for n := range x.D.Secs {
		x.D.Secs[n] = []byte(nodePage(anyNode(r)))
	}
	for range r.Intn(3) {
		x.D.Cache = append(x.D.Cache, write(r.Intn(8), nodePage(anyNode(r))))
	}
	for range r.Intn(6) {
		x.New = append(x.New, fresh(r.Intn(9), anyNode(r)))
	}
	return x
}

func TestFindingByTheWords(t *testing.T) {
	r := rand.New(rand.NewSource(170))
	found, few, many := 0, 0, 0
	for range 5000 {
		x := anyTxn(r)
		findAs(t, "any", x)
		for _, p := range wordsPairs(x) {
			if _, there := wordsFind(x, p.Key); there {
				found++
			}
		}
		switch n := len(wordsPairs(x)); {
		case n > 4:
			many++
		case n > 0:
			few++
		}
		if t.Failed() {
			t.FailNow()
		}
	}
	if found < 3000 || few < 1000 || many < 100 {
		t.Errorf("%d found, %d of few, %d of many", found, few, many)
	}
}

// What is under way, right or not, as the chapter ahead tells it.
func TestFindingInAllTxns(t *testing.T) {
	for _, x := range someTxns() {
		findAs(t, "some", x)
	}
	for what, d := range someDisks() {
		findAs(t, what, impl.TxNew(d))
		findAs(t, what, impl.Txn{D: d, Root: 2})
		findAs(t, what, impl.Txn{D: d, Root: 2, New: []impl.Fresh{fresh(2, innerOf(texts("b"), 4, 3)), fresh(4, leafOf("a", "1"))}})
	}
	r := rand.New(rand.NewSource(1700))
	for range 1000 {
		findAs(t, "some", someTxn(r))
	}
}

// What was asked ahead leaves nothing behind.
func TestFindingKeepsNothing(t *testing.T) {
	for _, x := range someTxns() {
		findAs(t, "ahead", x)
		hasPairs(t, "behind", underWay(), "a", "1", "c", "5", "m", "3", "z", "4")
		findAs(t, "behind", underWay())
		findAs(t, "behind", kept())
	}
	x := underWay()
	pairs := impl.PairsOf(x)
	x.New[1].X.Vals[0] = "other"
	finds(t, "turned since", x, "a", "other")
	finds(t, "on the disk still", kept(), "a", "1")
	if pairs[0] != (impl.Pair{Key: "a", Val: "1"}) {
		t.Errorf("what was answered turned into %q", pairs)
	}
}

// Neither is what is asked written to, nor is the room behind it read.
func TestFindingWritesNothing(t *testing.T) {
	for _, x := range someTxns() {
		roomy := roomyTxn(txnCopy(x))
		ahead := allTxn(roomy)
		findAs(t, "with room behind", roomy)
		if got := allTxn(roomy); got != ahead {
			t.Errorf("the Txn %s turned into %s", ahead, got)
		}
	}
	x := kept()
	x.Root = 2
	for _, node := range []impl.Node{leafOf("b", "1", "a", "2"), {Leaf: true, Keys: texts("a", "spare"), Vals: texts("1")}, innerOf(texts("m"), 3), innerOf(nil)} {
		x.New = []impl.Fresh{fresh(2, node)}
		findAs(t, "not right, with room behind", roomyTxn(txnCopy(x)))
	}
}

// fillPairs fills an answer and all the room that came with it.
func fillPairs(l []impl.Pair) {
	l = l[:cap(l)]
	for i := range l {
		l[i] = impl.Pair{Key: "filled", Val: "filled"}
	}
}

func TestPairsAreNewMemory(t *testing.T) {
	for _, x := range append(someTxns(), threeLevels()["new"], threeLevels()["on the disk"]) {
		for i, ask := range []func(x impl.Txn) []impl.Pair{
			impl.PairsOf,
			func(x impl.Txn) []impl.Pair { return impl.RangeOf(x, "", "\xff", false, 99) },
			func(x impl.Txn) []impl.Pair { return impl.RangeOf(x, "", "\xff", true, 3) },
			func(x impl.Txn) []impl.Pair { return impl.RangeOf(x, "b", "x", false, 2) },
			func(x impl.Txn) []impl.Pair { return impl.RangeOf(x, "b", "x", true, 1) },
			func(x impl.Txn) []impl.Pair { return impl.RangeOf(x, "", "\xff", false, 0) },
			func(x impl.Txn) []impl.Pair { return impl.RangeOf(x, "x", "b", false, 9) },
		} {
			arg := roomyTxn(txnCopy(x))
			ahead := allTxn(arg)
			first, second := ask(arg), ask(arg)
			want := fmt.Sprintf("%q", second)
			for _, p := range second[len(second):cap(second)] {
				if p != (impl.Pair{}) {
					t.Errorf("%d: behind the answer %s stands %q", i, want, p)
				}
			}
			fillPairs(first)
			if allTxn(arg) != ahead || fmt.Sprintf("%q", second) != want {
				t.Errorf("%d: the pairs %q share memory, not %s", i, second, want)
			}
			overwriteTxn(arg)
			if fmt.Sprintf("%q", second) != want {
				t.Errorf("%d: the pairs share memory with the Txn: %q, not %s", i, second, want)
			}
		}
	}
}

func TestFoundValuesAreNewMemory(t *testing.T) {
	for _, x := range []impl.Txn{kept(), underWay(), threeLevels()["in the cache"]} {
		for _, p := range wordsPairs(x) {
			arg := roomyTxn(txnCopy(x))
			got, ok := impl.Find(arg, p.Key)
			overwriteTxn(arg)
			if got != p.Val || !ok {
				t.Errorf("the value of %q turned into %q, %v", p.Key, got, ok)
			}
		}
	}
}

// Much that is wrong comes to an end, too.
func TestFindingInVeryMany(t *testing.T) {
	const many = 200000
	x := impl.TxNew(impl.Format(48, nil))
	x.Root, x.New = 2, chain(upToKids(many, 2)...)
	findsManyNot(t, "one below the other", x, "a")
	manyPairs(t, "one below the other", x, 1)
	x.New = []impl.Fresh{fresh(2, innerOf(nil, slices.Repeat([]int{4, 2, 3}, many)...)), fresh(3, leafOf("a", "1")), fresh(4, leafOf("b", "2"))}
	manyPairs(t, "many kids", x, 2)
	x.New[0].X.Keys = upTo(many, 6)
	x.New[0].X.Kids[many] = 3
	if v, ok := impl.Find(x, "a"); v != "1" || !ok {
		t.Errorf("behind many keys: %q, %v", v, ok)
	}
	leaf := impl.Node{Leaf: true}
	for i := range many {
		leaf.Keys, leaf.Vals = append(leaf.Keys, fmt.Sprint(i)), append(leaf.Vals, "v"+fmt.Sprint(i))
	}
	x.New = []impl.Fresh{fresh(2, leaf)}
	if v, ok := impl.Find(x, "199999"); v != "v199999" || !ok {
		t.Errorf("many keys: %q, %v", v, ok)
	}
	manyPairs(t, "many keys", x, many)
	if got := impl.RangeOf(x, "", "a", true, 2); !slices.Equal(got, pairsOf("199999", "v199999", "199998", "v199998")) {
		t.Errorf("the last of many: %q", got)
	}
	// A deep tree each of whose nodes leads to all the others.
	x.New = nil
	for n := range 400 {
		x.New = append(x.New, fresh(n+2, innerOf(nil, upToKids(401, 2)...)))
	}
	x.New = append(x.New, fresh(402, leafOf("a", "1")))
	manyPairs(t, "all lead to all", x, 1)
	findsManyNot(t, "all lead to all", x, "a")
}

func findsManyNot(t *testing.T, what string, x impl.Txn, key string) {
	t.Helper()
	if got, ok := impl.Find(x, key); got != "" || ok {
		t.Errorf("%s: %q, %v", what, got, ok)
	}
}

func manyPairs(t *testing.T, what string, x impl.Txn, want int) {
	t.Helper()
	if got := len(impl.PairsOf(x)); got != want {
		t.Errorf("%s: %d pairs, not %d", what, got, want)
	}
	if got := len(impl.RangeOf(x, "", "\xff", true, math.MaxInt)); got != want {
		t.Errorf("%s: %d in the range, not %d", what, got, want)
	}
}
