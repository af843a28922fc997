package wire_test

import (
	"bytes"
	"math"
	"slices"
	"testing"

	"broadsheet/api"
	"broadsheet/wire"
)

// roomy is a copy of b with spare room that is full of marks.
func roomy(b []byte) []byte {
	c := append(slices.Clone(b), bytes.Repeat([]byte{0xEE}, 16)...)
	return c[:len(b)]
}

// untouched: is b, of roomy(want), as it was, its spare room included?
func untouched(b, want []byte) bool {
	return bytes.Equal(b[:len(b)+16], append(slices.Clone(want), bytes.Repeat([]byte{0xEE}, 16)...))
}

// scribble writes over all of an answer's memory.
func scribble(b []byte) {
	b = b[:cap(b)]
	for i := range b {
		b[i] = 0xDD
	}
}

// P1.1: the bytes that each call lays down.
func TestWriterBytes(t *testing.T) {
	for _, c := range []struct {
		name string
		do   func(w *wire.Writer)
		want []byte
	}{
		{"nothing", func(w *wire.Writer) {}, nil},
		{"Byte(0)", func(w *wire.Writer) { w.Byte(0) }, []byte{0}},
		{"Byte(255)", func(w *wire.Writer) { w.Byte(255) }, []byte{255}},
		{"Num(0)", func(w *wire.Writer) { w.Num(0) }, []byte{0, 0, 0, 0}},
		{"Num(255)", func(w *wire.Writer) { w.Num(255) }, []byte{0, 0, 0, 255}},
		{"Num(256)", func(w *wire.Writer) { w.Num(256) }, []byte{0, 0, 1, 0}},
		{"Num(2^16)", func(w *wire.Writer) { w.Num(1 << 16) }, []byte{0, 1, 0, 0}},
		{"Num(2^24)", func(w *wire.Writer) { w.Num(1 << 24) }, []byte{1, 0, 0, 0}},
		{"Num(0x12345678)", func(w *wire.Writer) { w.Num(0x12345678) }, []byte{0x12, 0x34, 0x56, 0x78}},
		{"Num of the highest", func(w *wire.Writer) { w.Num(math.MaxUint32) }, []byte{255, 255, 255, 255}},
		{"Bytes(nil)", func(w *wire.Writer) { w.Bytes(nil) }, []byte{0, 0}},
		{"Bytes of an empty text", func(w *wire.Writer) { w.Bytes([]byte{}) }, []byte{0, 0}},
		{"Bytes(ab)", func(w *wire.Writer) { w.Bytes([]byte("ab")) }, []byte{0, 2, 'a', 'b'}},
		{"Raw(nil)", func(w *wire.Writer) { w.Raw(nil) }, nil},
		{"Raw(ab)", func(w *wire.Writer) { w.Raw([]byte("ab")) }, []byte("ab")},
		{"Num(258), Bytes(a)", func(w *wire.Writer) { w.Num(258); w.Bytes([]byte("a")) }, []byte{0, 0, 1, 2, 0, 1, 97}},
		{"in order", func(w *wire.Writer) {
			w.Raw([]byte("x"))
			w.Byte(1)
			w.Bytes([]byte("y"))
			w.Num(2)
			w.Raw([]byte("z"))
		},
			[]byte{'x', 1, 0, 1, 'y', 0, 0, 0, 2, 'z'}},
	} {
		w := wire.New()
		c.do(w)
		if got := w.Done(); !bytes.Equal(got, c.want) {
			t.Errorf("P1.1: %s: %v, want %v", c.name, got, c.want)
		}
	}
}

// P1.1: each length up to MaxRecord stands in two bytes, the highest first; beyond it nothing is written.
func TestWriterBytesLengths(t *testing.T) {
	for _, n := range []int{0, 1, 255, 256, 257, 0x1234, api.MaxRecord - 1, api.MaxRecord} {
		text := bytes.Repeat([]byte{'t'}, n)
		w := wire.New()
		if !w.Bytes(text) {
			t.Errorf("P1.1: Bytes of %d bytes is refused", n)
		}
		if want := append([]byte{byte(n / 256), byte(n % 256)}, text...); !bytes.Equal(w.Done(), want) {
			t.Errorf("P1.1: Bytes of %d bytes lays down %d bytes", n, len(w.Done()))
		}
	}
	for _, n := range []int{api.MaxRecord + 1, api.MaxRecord + 2, 2*api.MaxRecord + 2} {
		w := wire.New()
		w.Byte(5)
		if w.Bytes(make([]byte, n)) {
			t.Errorf("P1.1: Bytes of %d bytes is taken", n)
		}
		if w.Byte(6); !bytes.Equal(w.Done(), []byte{5, 6}) {
			t.Errorf("P1.1: Bytes of %d bytes wrote something", n)
		}
	}
}

// P1.1: Raw has no limit of its own.
func TestWriterRawLong(t *testing.T) {
	w := wire.New()
	if w.Raw(make([]byte, api.MaxRecord+1)); len(w.Done()) != api.MaxRecord+1 {
		t.Errorf("P1.1: Raw: %d bytes", len(w.Done()))
	}
}

// P1.1: Each stops ahead of the first text that is too long, and says so.
func TestEach(t *testing.T) {
	long, most := make([]byte, api.MaxRecord+1), make([]byte, api.MaxRecord)
	for _, c := range []struct {
		name string
		l    [][]byte
		ok   bool
		want []byte
	}{
		{"nil", nil, true, nil},
		{"empty", [][]byte{}, true, nil},
		{"one empty text", [][]byte{nil}, true, []byte{0, 0}},
		{"some", [][]byte{[]byte("ab"), {}, []byte("c")}, true, []byte{0, 2, 'a', 'b', 0, 0, 0, 1, 'c'}},
		{"the longest", [][]byte{most}, true, append([]byte{255, 255}, most...)},
		{"the first is too long", [][]byte{long, []byte("a")}, false, nil},
		{"one between is too long", [][]byte{[]byte("a"), long, []byte("b")}, false, []byte{0, 1, 'a'}},
		{"the last is too long", [][]byte{[]byte("a"), []byte("b"), long}, false, []byte{0, 1, 'a', 0, 1, 'b'}},
	} {
		w := wire.New()
		w.Byte(7)
		if ok := wire.Each(w, c.l); ok != c.ok {
			t.Errorf("P1.1: Each of %s: %v", c.name, ok)
		}
		if got := w.Done(); !bytes.Equal(got, append([]byte{7}, c.want...)) {
			t.Errorf("P1.1: Each of %s: %d bytes", c.name, len(got))
		}
	}
}

// R1: a nil writer answers false, whatever the list.
func TestEachOfNoWriter(t *testing.T) {
	for _, l := range [][][]byte{nil, {}, {nil}, {[]byte("a")}, {make([]byte, api.MaxRecord+1)}} {
		if wire.Each(nil, l) {
			t.Errorf("R1: Each(nil, a list of %d)", len(l))
		}
	}
}

// R2: what is handed in is not changed, its spare room included, and not kept.
func TestWriterKeepsNothing(t *testing.T) {
	for name, do := range map[string]func(w *wire.Writer, b []byte){
		"Raw":   func(w *wire.Writer, b []byte) { w.Raw(b) },
		"Bytes": func(w *wire.Writer, b []byte) { w.Bytes(b) },
		"Each":  func(w *wire.Writer, b []byte) { wire.Each(w, [][]byte{b}) },
	} {
		b := roomy([]byte("abc"))
		w := wire.New()
		do(w, b)
		w.Num(9)
		w.Raw([]byte("more"))
		if !untouched(b, []byte("abc")) {
			t.Errorf("R2: %s changes what it is given: %v", name, b[:cap(b)])
		}
		before := w.Done()
		if scribble(b); !bytes.Equal(w.Done(), before) {
			t.Errorf("R2: %s keeps what it is given", name)
		}
	}
	l := [][]byte{[]byte("a"), []byte("b"), []byte("mark")}
	wire.Each(wire.New(), l[:2])
	if string(bytes.Join(l, nil)) != "abmark" {
		t.Error("R2: Each changes its list")
	}
}

// R2: what Done tells is new memory each time, and the writer goes on beside it.
func TestDoneIsNew(t *testing.T) {
	w := wire.New()
	w.Raw([]byte("abc"))
	first, second := w.Done(), w.Done()
	scribble(first)
	if string(second) != "abc" || string(w.Done()) != "abc" {
		t.Errorf("R2: Done shares memory: %q, %q", second, w.Done())
	}
	w.Raw([]byte("def"))
	scribble(second)
	if string(w.Done()) != "abcdef" {
		t.Errorf("R2: Done shares its spare room: %q", w.Done())
	}
}

// P1.1: writers stand each by itself.
func TestWritersApart(t *testing.T) {
	a, b := wire.New(), wire.New()
	a.Byte(1)
	b.Byte(2)
	if !bytes.Equal(a.Done(), []byte{1}) || !bytes.Equal(b.Done(), []byte{2}) {
		t.Errorf("P1.1: %v, %v", a.Done(), b.Done())
	}
}
