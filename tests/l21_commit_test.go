package tests

import (
	"fmt"
	"math/rand"
	"slices"
	"testing"

	"loop.example/g00322/impl"
)

var (
	_ func(impl.Txn) (impl.Disk, int) = impl.Commit
	_ func(impl.Disk) []impl.Pair     = impl.KeptOf
)

// wordsCommit keeps what is under way by the chapter's words, one operation of the disk behind the other.
func wordsCommit(x impl.Txn) (impl.Disk, int) {
	if !wordsTxnOk(x) || len(x.D.Cache) > 0 || x.M.Gen == 1000000 {
		return x.D, impl.CoForm
	}
	if len(x.New) == 0 && x.Root == x.M.Root {
		return x.D, impl.CoGood
	}
	d, code := diskCopy(x.D), impl.CoGood
	write := func(n int, sec string) {
		if code == impl.CoGood {
			d, code = impl.WriteSec(d, n, []byte(sec))
		}
	}
	flush := func() {
		if code == impl.CoGood {
			d, code = impl.Flush(d)
		}
	}
	for _, f := range x.New {
		write(f.N, nodePage(f.X))
	}
	flush()
	gen := x.M.Gen + 1
	write(gen%2, string(impl.PutMeta(meta(gen, x.Root))))
	flush()
	if code != impl.CoGood {
		return d, impl.CoDown
	}
	return d, code
}

func commitAs(t *testing.T, what string, x impl.Txn) (impl.Disk, int) {
	t.Helper()
	want, code := wordsCommit(x)
	got, c := impl.Commit(x)
	if !sameDisk(got, want) || c != code {
		t.Errorf("%s: Commit(%s) = %s, %d, not %s, %d", what, txnText(x), diskText(got), c, diskText(want), code)
	}
	return got, c
}

// commits asks for the code, and what is kept then.
func commits(t *testing.T, what string, x impl.Txn, code int, want []impl.Pair) impl.Disk {
	t.Helper()
	d, c := commitAs(t, what, x)
	if c != code {
		t.Errorf("%s: Commit(%s) = %d, not %d", what, txnText(x), c, code)
	}
	if got := impl.KeptOf(d); !slices.Equal(got, want) {
		t.Errorf("%s: of %s there is kept %q, not %q", what, diskText(d), got, want)
	}
	return d
}

func TestWhatIsKept(t *testing.T) {
	old := pairsOf("a", "1", "b", "2", "m", "3", "z", "4")
	commits(t, "nothing new", kept(), impl.CoGood, old)
	d := commits(t, "under way", underWay(), impl.CoGood, wordsPairs(underWay()))
	begins(t, "under way", d, meta(2, 2))
	if d.Ops != 5 || len(d.Cache) != 0 {
		t.Errorf("%d operations, %d in the cache", d.Ops, len(d.Cache))
	}
	x := kept()
	x.Root = 0
	begins(t, "no Root", commits(t, "no Root", x, impl.CoGood, nil), meta(2, 0))
	x.Root = 3
	begins(t, "a kept leaf alone", commits(t, "a kept leaf alone", x, impl.CoGood, old[:2]), meta(2, 3))
	y, _ := impl.Put(impl.TxNew(impl.Format(4, nil)), "a", "1")
	begins(t, "the first one", commits(t, "the first one", y, impl.CoGood, pairsOf("a", "1")), meta(1, 2))
	commits(t, "a new disk", impl.TxNew(impl.Format(4, nil)), impl.CoGood, nil)
	commits(t, "what is new, over no tree", newTree(leafOf("q", "1")), impl.CoGood, pairsOf("q", "1"))
}

func TestWhatIsNotKept(t *testing.T) {
	old := pairsOf("a", "1", "b", "2", "m", "3", "z", "4")
	for _, c := range wrongTxns() {
		x := underWay()
		c.turn(&x)
		commitAs(t, c.what, x)
		if d, code := impl.Commit(x); code != impl.CoForm || !sameDisk(d, x.D) {
			t.Errorf("%s: %d", c.what, code)
		}
	}
	for _, x := range []impl.Txn{kept(), underWay()} {
		x.D.Cache = []impl.Write{write(4, "x")}
		commits(t, "Writes in the cache", x, impl.CoForm, old)
	}
	for _, gen := range []int{999998, 999999, 1000000} {
		for _, x := range []impl.Txn{kept(), underWay()} {
			x.M.Gen = gen
			x.D.Secs[0], x.D.Secs[1] = nil, nil
			x.D.Secs[gen%2] = []byte(wordsMeta(x.M))
			d, code := commitAs(t, fmt.Sprint("Gen is ", gen), x)
			if code != map[bool]int{true: impl.CoForm}[gen == 1000000] {
				t.Errorf("Gen is %d: %d, %s", gen, code, diskText(d))
			}
		}
	}
	x := underWay()
	x.D.Down = true
	commits(t, "off", x, impl.CoDown, old)
	x = kept()
	x.D.Down = true
	commits(t, "off, with nothing new", x, impl.CoGood, old)
	for left := range 7 {
		x = underWay()
		x.D.Ops = 100000 - left
		_, code := commitAs(t, fmt.Sprint(left, " operations are left"), x)
		if code != map[bool]int{true: impl.CoDown}[left < 5] {
			t.Errorf("%d operations are left: %d", left, code)
		}
	}
}

// Wherever the power goes, what is kept is the tree ahead, or the one behind, whole.
func TestWhatIsKeptWhereThePowerGoes(t *testing.T) {
	old, next := wordsPairs(kept()), wordsPairs(underWay())
	for at := range 7 {
		for keep := range 8 {
			for _, cut := range []int{0, 1, 9, 20, 256} {
				x := underWay()
				x.D.Faults = []impl.Fault{fault(at, keep, cut)}
				d, code := commitAs(t, "the power goes", x)
				d = impl.TurnOn(d)
				got := impl.KeptOf(d)
				if code == impl.CoGood && !slices.Equal(got, next) || !slices.Equal(got, old) && !slices.Equal(got, next) {
					t.Errorf("%d, %d, %d: %d, %q", at, keep, cut, code, got)
				}
				if at < 3 && !slices.Equal(got, old) {
					t.Errorf("%d, %d, %d: the root is ahead of its nodes: %q", at, keep, cut, got)
				}
			}
		}
	}
}

func TestKeptPairs(t *testing.T) {
	for what, d := range someDisks() {
		if got := impl.KeptOf(d); !slices.Equal(got, wordsPairs(impl.TxNew(d))) {
			t.Errorf("%s: %q", what, got)
		}
	}
	r := rand.New(rand.NewSource(21))
	for range 2000 {
		x := someTxn(r)
		commitAs(t, "some", x)
		if got := impl.KeptOf(x.D); !slices.Equal(got, wordsPairs(impl.TxNew(x.D))) {
			t.Errorf("%s: %q", diskText(x.D), got)
		}
		if t.Failed() {
			t.FailNow()
		}
	}
}

// Neither is what is kept written to, nor does the disk share memory with it.
func TestWhatIsKeptIsNewMemory(t *testing.T) {
	for _, x := range someTxns() {
		arg := roomyTxn(txnCopy(x))
		ahead := allTxn(arg)
		second, _ := impl.Commit(arg)
		want := diskText(second)
		first, _ := impl.Commit(arg)
		overwriteDisk(first)
		if allTxn(arg) != ahead || diskText(second) != want {
			t.Errorf("the disk shares memory: %s, %s", allTxn(arg), diskText(second))
		}
		overwriteTxn(arg)
		if diskText(second) != want {
			t.Errorf("the disk shares memory with the Txn: %s, not %s", diskText(second), want)
		}
	}
}
