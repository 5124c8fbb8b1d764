package tests

import (
	"bytes"
	"testing"

	"loop.example/g00322/impl"
)

const spareRoom = 64
const spareByte = 0xa5

// spared has s, and spare room behind it that a careless append would write into.
func spared(s string) []byte {
	whole := append([]byte(s), bytes.Repeat([]byte{spareByte}, spareRoom)...)
	return whole[:len(s)]
}

// untouched asks that b is s still, and so is the spare room behind it.
func untouched(t *testing.T, what string, b []byte, s string) {
	t.Helper()
	if string(b) != s {
		t.Errorf("%s: the argument %q turned into %q", what, s, b)
	}
	if room := b[len(b) : len(b)+spareRoom]; !bytes.Equal(room, bytes.Repeat([]byte{spareByte}, spareRoom)) {
		t.Errorf("%s: the spare room behind %q turned into %x", what, s, room)
	}
}

// overwrite fills an answer and all the room that came with it.
func overwrite(b []byte) {
	b = b[:cap(b)]
	for i := range b {
		b[i] = 0x5a
	}
}

// bytesAnswer is a call that answers bytes, of bytes.
type bytesAnswer struct {
	name string
	arg  string
	do   func(b []byte) []byte
}

// answersAreNew asks that the answers share no memory with the argument, nor with each other, and that the argument is not written to.
func answersAreNew(t *testing.T, cases []bytesAnswer) {
	t.Helper()
	for _, c := range cases {
		b := spared(c.arg)
		first, second := c.do(b), c.do(b)
		want := string(second)
		overwrite(first)
		untouched(t, c.name, b, c.arg)
		if string(second) != want {
			t.Errorf("%s: two answers share memory", c.name)
		}
		overwrite(b)
		if string(second) != want {
			t.Errorf("%s: the answer shares memory with the argument", c.name)
		}
	}
}

func TestBytesAnswersAreNewMemory(t *testing.T) {
	sum := string(impl.PutSum([]byte("abc")))
	answersAreNew(t, []bytesAnswer{
		{"PutU", "abc", func(b []byte) []byte { return impl.PutU(b, 300) }},
		{"PutU behind nothing", "", func(b []byte) []byte { return impl.PutU(b, 300) }},
		{"PutText", "abc", func(b []byte) []byte { return impl.PutText(b, "xyz") }},
		{"PutText of nothing", "abc", func(b []byte) []byte { return impl.PutText(b, "") }},
		{"PutSum", "abc", impl.PutSum},
		{"PutSum of nothing", "", impl.PutSum},
		{"GetSum", sum, func(b []byte) []byte { x, _ := impl.GetSum(b); return x }},
		{"GetSum of nothing", "\x00\x00\x00\x00", func(b []byte) []byte { x, _ := impl.GetSum(b); return x }},
		{"GetSum refused", "abcdefgh", func(b []byte) []byte { x, _ := impl.GetSum(b); return x }},
	})
}

func TestBytesReadersWriteNothing(t *testing.T) {
	for _, s := range []string{"", "\x80", "\x80\x00", "\xac\x02", "\x03xyz", "\x03xy", "\x00\x00\x00\x00"} {
		b := spared(s)
		impl.GetU(b, 0)
		impl.GetText(b, 0)
		impl.GetSum(b)
		impl.Crc(b)
		untouched(t, "reading", b, s)
	}
}

func TestTextIsNewMemory(t *testing.T) {
	b := impl.PutText(nil, "xyz")
	s, _, _ := impl.GetText(b, 0)
	overwrite(b)
	if s != "xyz" {
		t.Errorf("the text turned into %q with its bytes", s)
	}
}

// The spare room goes on with what would make each of these whole.
func TestSpareRoomIsNotRead(t *testing.T) {
	number := []byte("\xac\x02")
	if n, next, ok := impl.GetU(number[:1], 0); n != 0 || next != 0 || ok {
		t.Errorf("GetU: %d, %d, %v", n, next, ok)
	}
	if n, next, ok := impl.GetU(number[:1], 1); n != 0 || next != 0 || ok {
		t.Errorf("GetU at the end: %d, %d, %v", n, next, ok)
	}
	text := []byte("\x03xyz")
	if s, next, ok := impl.GetText(text[:3], 0); s != "" || next != 0 || ok {
		t.Errorf("GetText: %q, %d, %v", s, next, ok)
	}
	sum := impl.PutSum([]byte("abc"))
	for n := range sum {
		if x, ok := impl.GetSum(sum[:n]); len(x) != 0 || ok {
			t.Errorf("GetSum of %d bytes: %q, %v", n, x, ok)
		}
	}
}
