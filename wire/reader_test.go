package wire_test

import (
	"bytes"
	"fmt"
	"math"
	"math/rand"
	"testing"

	"broadsheet/api"
	"broadsheet/wire"
)

// calls are those of a reader, each with what it answers as text.
var calls = []struct {
	name string
	do   func(r *wire.Reader) string
	bad  string // what a bad reader answers
}{
	{"Byte", func(r *wire.Reader) string { return fmt.Sprint(r.Byte()) }, "0"},
	{"Num", func(r *wire.Reader) string { return fmt.Sprint(r.Num()) }, "0"},
	{"Bytes(0)", func(r *wire.Reader) string { return fmt.Sprint(r.Bytes(0)) }, "[]"},
	{"Bytes(9)", func(r *wire.Reader) string { return fmt.Sprint(r.Bytes(9)) }, "[]"},
	{"Raw(0)", func(r *wire.Reader) string { return fmt.Sprint(r.Raw(0)) }, "[]"},
	{"Raw(1)", func(r *wire.Reader) string { return fmt.Sprint(r.Raw(1)) }, "[]"},
	{"Raw(-1)", func(r *wire.Reader) string { return fmt.Sprint(r.Raw(-1)) }, "[]"},
	{"Bad", func(r *wire.Reader) string { return fmt.Sprint(r.Bad()) }, "true"},
	{"End", func(r *wire.Reader) string { return fmt.Sprint(r.End()) }, "false"},
	{"Left", func(r *wire.Reader) string { return fmt.Sprint(r.Left()) }, "0"},
}

// staysBad asks all of a bad reader, twice over.
func staysBad(t *testing.T, why string, r *wire.Reader) {
	t.Helper()
	for range 2 {
		for _, c := range calls {
			if got := c.do(r); got != c.bad {
				t.Errorf("P1.2: %s, then %s: %s, want %s", why, c.name, got, c.bad)
			}
		}
	}
}

// P1.2: from the beginning on, with what is left after each call.
func TestReaderReads(t *testing.T) {
	r := wire.Read([]byte{7, 0, 0, 1, 2, 0, 2, 'a', 'b', 'x', 'y', 'z'})
	for _, c := range []struct {
		name string
		got  func() string
		want string
		left int
	}{
		{"Byte", func() string { return fmt.Sprint(r.Byte()) }, "7", 11},
		{"Num", func() string { return fmt.Sprint(r.Num()) }, "258", 7},
		{"Bytes", func() string { return string(r.Bytes(2)) }, "ab", 3},
		{"Raw(0)", func() string { return string(r.Raw(0)) }, "", 3},
		{"Raw(2)", func() string { return string(r.Raw(2)) }, "xy", 1},
		{"Raw(1)", func() string { return string(r.Raw(1)) }, "z", 0},
		{"Raw(0) at the end", func() string { return string(r.Raw(0)) }, "", 0},
	} {
		if got := c.got(); got != c.want || r.Left() != c.left || r.Bad() || r.End() != (c.left == 0) {
			t.Errorf("P1.2: %s: %q, left %d, bad %v, end %v", c.name, got, r.Left(), r.Bad(), r.End())
		}
	}
}

// P1.2: a reader of nothing is at its end and not bad.
func TestReaderOfNothing(t *testing.T) {
	for _, b := range [][]byte{nil, {}} {
		r := wire.Read(b)
		if !r.End() || r.Bad() || r.Left() != 0 || len(r.Raw(0)) != 0 || r.Bad() {
			t.Error("P1.2: a reader of nothing")
		}
	}
}

// P1.2: a number is read from its highest byte on.
func TestReaderNumbers(t *testing.T) {
	for _, n := range []uint32{0, 1, 255, 256, 258, 1 << 16, 1 << 24, 0x12345678, 1 << 31, math.MaxUint32} {
		r := wire.Read([]byte{byte(n >> 24), byte(n >> 16), byte(n >> 8), byte(n)})
		if got := r.Num(); got != n || !r.End() {
			t.Errorf("P1.2: Num: %d, want %d", got, n)
		}
	}
}

// P1.2: what makes a reader bad, and that it stays so.
func TestReaderGoesBad(t *testing.T) {
	for _, c := range []struct {
		name string
		b    []byte
		do   func(r *wire.Reader) string
	}{
		{"Byte of nothing", nil, func(r *wire.Reader) string { return fmt.Sprint(r.Byte()) }},
		{"Num of nothing", nil, func(r *wire.Reader) string { return fmt.Sprint(r.Num()) }},
		{"Num of one byte", []byte{1}, func(r *wire.Reader) string { return fmt.Sprint(r.Num()) }},
		{"Num of three bytes", []byte{1, 2, 3}, func(r *wire.Reader) string { return fmt.Sprint(r.Num()) }},
		{"Bytes of nothing", nil, func(r *wire.Reader) string { return fmt.Sprint(len(r.Bytes(9))) }},
		{"Bytes of half a length", []byte{0}, func(r *wire.Reader) string { return fmt.Sprint(len(r.Bytes(9))) }},
		{"Bytes without its text", []byte{0, 1}, func(r *wire.Reader) string { return fmt.Sprint(len(r.Bytes(9))) }},
		{"Bytes above what is left", []byte{0, 3, 'a', 'b'}, func(r *wire.Reader) string { return fmt.Sprint(len(r.Bytes(9))) }},
		{"Bytes above most", []byte{0, 2, 'a', 'b', 'c'}, func(r *wire.Reader) string { return fmt.Sprint(len(r.Bytes(1))) }},
		{"Bytes above 0", []byte{0, 1, 'a'}, func(r *wire.Reader) string { return fmt.Sprint(len(r.Bytes(0))) }},
		{"Bytes above a most below 0", []byte{0, 1, 'a'}, func(r *wire.Reader) string { return fmt.Sprint(len(r.Bytes(-1))) }},
		{"Bytes of a high length", []byte{1, 0, 'a'}, func(r *wire.Reader) string { return fmt.Sprint(len(r.Bytes(255))) }},
		{"Raw(1) of nothing", nil, func(r *wire.Reader) string { return fmt.Sprint(len(r.Raw(1))) }},
		{"Raw of one too many", []byte("abc"), func(r *wire.Reader) string { return fmt.Sprint(len(r.Raw(4))) }},
		{"Raw of the most", []byte("abc"), func(r *wire.Reader) string { return fmt.Sprint(len(r.Raw(math.MaxInt))) }},
		{"Raw(-1)", []byte("abc"), func(r *wire.Reader) string { return fmt.Sprint(len(r.Raw(-1))) }},
		{"Raw(-1) of nothing", nil, func(r *wire.Reader) string { return fmt.Sprint(len(r.Raw(-1))) }},
		{"Raw of the least", []byte("abc"), func(r *wire.Reader) string { return fmt.Sprint(len(r.Raw(math.MinInt))) }},
	} {
		r := wire.Read(c.b)
		if got := c.do(r); got != "0" {
			t.Errorf("P1.2: %s: %s", c.name, got)
		}
		staysBad(t, c.name, r)
	}
}

// P1.2: each call of a bad reader leaves it bad when it is the first one asked, too.
func TestEachCallOfABadReader(t *testing.T) {
	for _, c := range calls {
		r := wire.Read([]byte{0, 1, 'a', 0, 0, 0, 7})
		r.Raw(-1)
		if got := c.do(r); got != c.bad {
			t.Errorf("P1.2: bad, then %s: %s, want %s", c.name, got, c.bad)
		}
		staysBad(t, c.name, r)
	}
}

// P1.2: a reader is bad in the middle too, and what was read ahead of it stands.
func TestReaderGoesBadLate(t *testing.T) {
	r := wire.Read([]byte{'a', 0, 5, 'b', 'c'})
	first := r.Raw(1)
	if got := r.Bytes(9); len(got) != 0 || string(first) != "a" {
		t.Errorf("P1.2: %q, %q", first, got)
	}
	staysBad(t, "a text that is cut off", r)
}

// P1.2: most counts from 0 on, and a length that is just most is taken.
func TestReaderMost(t *testing.T) {
	for _, most := range []int{0, -1, math.MinInt, 1, math.MaxInt} {
		r := wire.Read([]byte{0, 0})
		if got := r.Bytes(most); len(got) != 0 || r.Bad() || !r.End() {
			t.Errorf("P1.2: Bytes(%d) of an empty text: %v, bad %v", most, got, r.Bad())
		}
	}
	for _, n := range []int{1, 2, 255, 256, api.MaxRecord} {
		b := append([]byte{byte(n >> 8), byte(n)}, make([]byte, n)...)
		for _, most := range []int{n - 1, n, n + 1, math.MaxInt} {
			r := wire.Read(b)
			got := r.Bytes(most)
			if taken := most >= n; r.Bad() == taken || r.End() != taken || taken && len(got) != n || !taken && len(got) != 0 {
				t.Errorf("P1.2: Bytes(%d) of %d bytes: %d bytes, bad %v", most, n, len(got), r.Bad())
			}
		}
	}
}

// P1.2: cut off at each place, just what is whole is read, and then the reader is bad.
func TestReaderCutOff(t *testing.T) {
	whole := []byte{7, 0, 0, 1, 2, 0, 2, 'a', 'b', 'x', 'y', 'z'}
	ends := []int{1, 5, 9, 12}
	want := []string{"7", "258", "ab", "xyz"}
	zero := []string{"0", "0", "", ""}
	for cut := range len(whole) + 1 {
		r := wire.Read(whole[:cut]) // the rest is spare room, and not to be read
		for i, got := range []string{fmt.Sprint(r.Byte()), fmt.Sprint(r.Num()), string(r.Bytes(2)), string(r.Raw(3))} {
			if cut >= ends[i] && got != want[i] || cut < ends[i] && got != zero[i] {
				t.Errorf("P1.2: cut at %d, call %d: %q", cut, i, got)
			}
		}
		if r.Bad() != (cut < len(whole)) || r.End() != (cut == len(whole)) || r.Left() != 0 {
			t.Errorf("P1.2: cut at %d: bad %v, end %v, left %d", cut, r.Bad(), r.End(), r.Left())
		}
	}
}

// R2: what is handed in is not changed and not kept.
func TestReaderKeepsNothing(t *testing.T) {
	want := []byte{0, 2, 'a', 'b', 'x', 'y'}
	b := roomy(want)
	r := wire.Read(b)
	scribble(r.Bytes(2))
	scribble(r.Raw(1))
	scribble(r.Raw(0))
	if !untouched(b, want) {
		t.Errorf("R2: Read changes what it is given: %v", b[:cap(b)])
	}
	r = wire.Read(b)
	scribble(b)
	if string(r.Bytes(2)) != "ab" || string(r.Raw(2)) != "xy" || !r.End() {
		t.Error("R2: Read keeps what it is given")
	}
}

// R2: what is told is new memory, its spare room too.
func TestReaderTellsNewMemory(t *testing.T) {
	r := wire.Read([]byte{0, 2, 'a', 'b', 0, 2, 'c', 'd', 'x', 'y', 'z'})
	first := r.Bytes(9)
	scribble(first)
	second := r.Bytes(9)
	third := r.Raw(2)
	scribble(first)
	if string(second) != "cd" || string(third) != "xy" {
		t.Errorf("R2: %q, %q", second, third)
	}
	scribble(second)
	scribble(third)
	if got := r.Raw(1); string(got) != "z" {
		t.Errorf("R2: what is read later: %q", got)
	}
}

// P1.2: readers of one text stand each by itself.
func TestReadersApart(t *testing.T) {
	b := []byte("ab")
	x, y := wire.Read(b), wire.Read(b)
	x.Raw(3)
	if got := y.Raw(2); string(got) != "ab" || y.Bad() || !x.Bad() {
		t.Errorf("P1.2: %q, bad %v and %v", got, x.Bad(), y.Bad())
	}
}

// step is a call of a writer, and the call that reads it back.
type step struct {
	kind int
	n    uint32
	text []byte
}

func (s step) write(w *wire.Writer) bool {
	switch s.kind {
	case 0:
		w.Byte(byte(s.n))
	case 1:
		w.Num(s.n)
	case 2:
		return w.Bytes(s.text)
	case 3:
		return wire.Each(w, [][]byte{s.text, nil})
	default:
		w.Raw(s.text)
	}
	return true
}

func (s step) readBack(r *wire.Reader) bool {
	switch s.kind {
	case 0:
		return r.Byte() == byte(s.n)
	case 1:
		return r.Num() == s.n
	case 2:
		return bytes.Equal(r.Bytes(len(s.text)), s.text)
	case 3:
		return bytes.Equal(r.Bytes(api.MaxRecord), s.text) && len(r.Bytes(0)) == 0
	}
	return bytes.Equal(r.Raw(len(s.text)), s.text)
}

// P1.3: what was written is read back, call for call.
func TestReadBack(t *testing.T) {
	dice := rand.New(rand.NewSource(3))
	for range 2000 {
		var steps []step
		w := wire.New()
		for range dice.Intn(12) {
			text := make([]byte, dice.Intn(300))
			dice.Read(text)
			s := step{dice.Intn(5), dice.Uint32(), text}
			if !s.write(w) {
				t.Fatalf("P1.3: %v is refused", s)
			}
			steps = append(steps, s)
		}
		r := wire.Read(w.Done())
		for i, s := range steps {
			if !s.readBack(r) || r.Bad() {
				t.Fatalf("P1.3: step %d of kind %d", i, s.kind)
			}
		}
		if !r.End() {
			t.Fatal("P1.3: something is left")
		}
	}
}

// P1.3: the longest text and the empty one come back.
func TestReadBackEdges(t *testing.T) {
	long := make([]byte, api.MaxRecord)
	rand.New(rand.NewSource(4)).Read(long)
	w := wire.New()
	if !wire.Each(w, [][]byte{long, nil, long}) {
		t.Fatal("P1.3: refused")
	}
	r := wire.Read(w.Done())
	if !bytes.Equal(r.Bytes(api.MaxRecord), long) || len(r.Bytes(0)) != 0 || !bytes.Equal(r.Bytes(math.MaxInt), long) || !r.End() {
		t.Error("P1.3: the longest text")
	}
}

// model reads as the chapter says, with a place in the whole text.
type model struct {
	b   []byte
	at  int
	bad bool
}

func (m *model) raw(n int) []byte {
	if m.bad = m.bad || n < 0 || n > len(m.b)-m.at; m.bad {
		return nil
	}
	m.at += n
	return m.b[m.at-n : m.at]
}

func (m *model) number(size int) int {
	n := 0
	for _, b := range m.raw(size) {
		n = n*256 + int(b)
	}
	return n
}

func (m *model) text(most int) []byte {
	n := m.number(2)
	if n > 0 && n > most {
		m.bad = true
	}
	return m.raw(n)
}

// W5: every row of bytes is taken or refused, whatever is asked of it.
func TestReaderOfAnything(t *testing.T) {
	dice := rand.New(rand.NewSource(5))
	for range 20000 {
		b := make([]byte, dice.Intn(24))
		for i := range b {
			b[i] = []byte{0, 0, 0, 1, 2, 3, 255}[dice.Intn(7)]
		}
		r, m := wire.Read(b), model{b: b}
		for range 10 {
			n, got, want := dice.Intn(10)-2, "", ""
			switch dice.Intn(4) {
			case 0:
				got, want = fmt.Sprint(r.Byte()), fmt.Sprint(m.number(1))
			case 1:
				got, want = fmt.Sprint(r.Num()), fmt.Sprint(m.number(4))
			case 2:
				got, want = string(r.Bytes(n)), string(m.text(n))
			default:
				got, want = string(r.Raw(n)), string(m.raw(n))
			}
			left := len(b) - m.at
			if m.bad {
				left = 0
			}
			if got != want || r.Bad() != m.bad || r.Left() != left || r.End() != (!m.bad && left == 0) {
				t.Fatalf("W5: of %v: %q, want %q; bad %v, left %d, end %v", b, got, want, r.Bad(), r.Left(), r.End())
			}
		}
	}
}
