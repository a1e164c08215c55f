package code_test

import (
	"bytes"
	"encoding/binary"
	"fmt"
	"math"
	"slices"
	"strings"
	"sync"
	"testing"
	"unsafe"

	"cartridge/code"
)

// item is one of what can be written: an Int ('i'), a Byte ('b') or a Text ('t').
type item struct {
	kind byte
	n    int
	c    byte
	s    string
}

func anInt(n int) item    { return item{kind: 'i', n: n} }
func aByte(c byte) item   { return item{kind: 'b', c: c} }
func aText(s string) item { return item{kind: 't', s: s} }
func (x item) name() string {
	return fmt.Sprintf("%c(%d, %d, %.9q of %d)", x.kind, x.n, x.c, x.s, len(x.s))
}

func (x item) write(w *code.Writer) {
	switch x.kind {
	case 'i':
		w.Int(x.n)
	case 'b':
		w.Byte(x.c)
	case 't':
		w.Text(x.s)
	}
}

// read answers what stands there, as an item of the same kind.
func (x item) read(r *code.Reader) item {
	switch x.kind {
	case 'i':
		return anInt(r.Int())
	case 'b':
		return aByte(r.Byte())
	default:
		return aText(r.Text())
	}
}

// bytes are those of the rule once more, by other means.
func (x item) bytes() []byte {
	switch x.kind {
	case 'i':
		return binary.BigEndian.AppendUint64(nil, uint64(x.n))[4:]
	case 'b':
		return []byte{x.c}
	default:
		b := []byte{255}
		if len(x.s) < 255 {
			b[0] = byte(len(x.s))
		}
		return append(b, x.s[:b[0]]...)
	}
}

// back is what is read of it: the low bytes alone of a number, the beginning of a long text.
func (x item) back() item {
	switch x.kind {
	case 'i':
		return anInt(int(binary.BigEndian.Uint32(x.bytes())))
	case 'b':
		return x
	default:
		return aText(string(x.bytes()[1:]))
	}
}

func nothing(kind byte) item { return item{kind: kind} }

const allKinds = "ibt"

func manyBytes(n int) string {
	b := make([]byte, n)
	for i := range b {
		b[i] = byte(i*7 + i/256)
	}
	return string(b)
}

// items are ordinary ones and those at the edges.
func items() []item {
	l := []item{anInt(0), anInt(1), anInt(255), anInt(256), anInt(0x01020304), anInt(0xfffefdfc), anInt(-1), anInt(-2), anInt(-256), anInt(-1 << 31), anInt(-1<<32 - 5),
		anInt(1<<31 - 1), anInt(1 << 31), anInt(1<<32 - 1), anInt(1 << 32), anInt(1<<32 + 1), anInt(1<<40 + 5), anInt(0x7aabbccd00112233), anInt(math.MaxInt), anInt(math.MinInt), anInt(math.MinInt + 1)}
	for _, c := range []byte{0, 1, 7, 'a', 127, 128, 254, 255} {
		l = append(l, aByte(c))
	}
	for _, n := range []int{0, 1, 2, 3, 4, 5, 100, 127, 128, 253, 254, 255, 256, 257, 510, 511, 512, 1000, 65535, 65536, 1 << 20} {
		l = append(l, aText(manyBytes(n)))
	}
	for _, s := range []string{"a", "ab", "a/b", "\x00", "\xff", "\x00\x00\x00", "é", "\xc3", strings.Repeat("é", 127), strings.Repeat("é", 128), "\u2028", strings.Repeat("\xff", 255), strings.Repeat("\x00", 256)} {
		l = append(l, aText(s))
	}
	return l
}

func written(l ...item) []byte {
	w := &code.Writer{}
	for _, x := range l {
		x.write(w)
	}
	return w.Bytes()
}

// checkRow writes the items one behind the other, and reads them back.
func checkRow(t *testing.T, l ...item) {
	t.Helper()
	var want []byte
	w := &code.Writer{}
	for i, x := range l {
		x.write(w)
		want = append(want, x.bytes()...)
		if got := w.Bytes(); !bytes.Equal(got, want) {
			t.Fatalf("P601: behind item %d, %s: %.40q.. of %d, not %.40q.. of %d", i, x.name(), got, len(got), want, len(want))
		}
	}
	r := code.NewReader(want)
	left := len(want)
	for i, x := range l {
		if r.Left() != left || r.Bad() {
			t.Fatalf("P601: ahead of item %d, %s: Left %d, not %d, Bad %v", i, x.name(), r.Left(), left, r.Bad())
		}
		if got := x.read(r); got != x.back() {
			t.Fatalf("P601: item %d, %s: read as %s", i, x.name(), got.name())
		}
		left -= len(x.bytes())
	}
	if r.Left() != 0 || r.Bad() {
		t.Errorf("P601: at the end: Left %d, Bad %v", r.Left(), r.Bad())
	}
}

// checkBad holds a Reader that is bad: it stays so, whatever is read, and all that is told is nothing.
func checkBad(t *testing.T, what string, r *code.Reader) {
	t.Helper()
	for round := range 3 {
		for _, kind := range []byte(allKinds) {
			if !r.Bad() || r.Left() != 0 {
				t.Errorf("P601: %s, round %d: Bad %v, Left %d", what, round, r.Bad(), r.Left())
			}
			if got := nothing(kind).read(r); got != nothing(kind) {
				t.Errorf("P601: %s, round %d: a bad one reads %s", what, round, got.name())
			}
		}
	}
	if !r.Bad() || r.Left() != 0 {
		t.Errorf("P601: %s: at last: Bad %v, Left %d", what, r.Bad(), r.Left())
	}
}

func TestTheExample(t *testing.T) {
	if got := new(code.Writer).Bytes(); len(got) != 0 {
		t.Errorf("P601: a new Writer: %q", got)
	}
	var zero code.Writer
	if got := zero.Bytes(); len(got) != 0 {
		t.Errorf("P601: the zero value: %q", got)
	}
	zero.Byte(3)
	if got := zero.Bytes(); string(got) != "\x03" {
		t.Errorf("P601: the zero value, written to: %q", got)
	}
}

func TestIntByHand(t *testing.T) {
	for _, x := range []struct {
		n    int
		want string
		back int
	}{
		{0, "\x00\x00\x00\x00", 0},
		{1, "\x00\x00\x00\x01", 1},
		{0xff, "\x00\x00\x00\xff", 0xff},
		{0xff00, "\x00\x00\xff\x00", 0xff00},
		{0xff0000, "\x00\xff\x00\x00", 0xff0000},
		{0xff000000, "\xff\x00\x00\x00", 0xff000000},
		{0x01020304, "\x01\x02\x03\x04", 0x01020304},
		{-1, "\xff\xff\xff\xff", 1<<32 - 1},
		{-2, "\xff\xff\xff\xfe", 1<<32 - 2},
		{-1 << 31, "\x80\x00\x00\x00", 1 << 31},
		{-1 << 32, "\x00\x00\x00\x00", 0},
		{1<<32 - 1, "\xff\xff\xff\xff", 1<<32 - 1},
		{1 << 32, "\x00\x00\x00\x00", 0},
		{1<<32 + 0x0a0b0c0d, "\x0a\x0b\x0c\x0d", 0x0a0b0c0d},
		{math.MaxInt, "\xff\xff\xff\xff", 1<<32 - 1},
		{math.MinInt, "\x00\x00\x00\x00", 0},
	} {
		if got := written(anInt(x.n)); string(got) != x.want {
			t.Errorf("P601: Int of %d: %q", x.n, got)
		}
		if got := code.NewReader([]byte(x.want)).Int(); got != x.back {
			t.Errorf("P601: Int of %q: %d", x.want, got)
		}
	}
}

// Each value of each byte, those around it 0 and not.
func TestEachByteOfAnInt(t *testing.T) {
	for at := range 8 {
		for v := range 256 {
			for _, around := range []uint64{0, math.MaxUint64, 0x0102030405060708} {
				n := around&^(255<<(8*at)) | uint64(v)<<(8*at)
				checkRow(t, anInt(int(n)))
			}
		}
	}
}

func TestEachByte(t *testing.T) {
	for v := range 256 {
		c := byte(v)
		if got := written(aByte(c)); len(got) != 1 || got[0] != c {
			t.Errorf("P601: Byte of %d: %q", c, got)
		}
		r := code.NewReader([]byte{c})
		if got := r.Byte(); got != c || r.Bad() || r.Left() != 0 {
			t.Errorf("P601: %d is read as %d, Bad %v, Left %d", c, got, r.Bad(), r.Left())
		}
	}
}

func TestTextByHand(t *testing.T) {
	for _, x := range [][2]string{{"", "\x00"}, {"a", "\x01a"}, {"ab", "\x02ab"}, {"\x00", "\x01\x00"}, {"é", "\x02\xc3\xa9"}, {"\xff\xfe", "\x02\xff\xfe"}} {
		if got := written(aText(x[0])); string(got) != x[1] {
			t.Errorf("P601: Text of %q: %q", x[0], got)
		}
		if got := code.NewReader([]byte(x[1])).Text(); got != x[0] {
			t.Errorf("P601: %q is read as %q", x[1], got)
		}
	}
}

// The 256th byte and all behind it are gone; what is written next stands behind the 255th.
func TestLongTexts(t *testing.T) {
	for _, n := range []int{254, 255, 256, 257, 300, 510, 511, 512, 513, 767, 768, 65535, 65536, 65537, 5_000_000} {
		s := manyBytes(n)
		most := min(n, 255)
		got := written(aText(s), aByte('y'))
		if want := string([]byte{byte(most)}) + s[:most] + "y"; string(got) != want {
			t.Errorf("P601: Text of %d bytes: %d bytes, not %d", n, len(got), len(want))
		}
		r := code.NewReader(got)
		if back := r.Text(); back != s[:most] || r.Byte() != 'y' || r.Left() != 0 || r.Bad() {
			t.Errorf("P601: Text of %d bytes: read as one of %d", n, len(back))
		}
	}
}

func TestEachLengthAndEachByteOfAText(t *testing.T) {
	for n := range 600 {
		checkRow(t, aText(manyBytes(n)), aByte('y'))
		checkRow(t, aText(strings.Repeat("\xff", n)), anInt(n))
	}
	for v := range 256 {
		one := string([]byte{byte(v)})
		checkRow(t, aText(one))
		checkRow(t, aText("a"+one+"b"), aText(one+one))
		checkRow(t, aText(strings.Repeat(one, 255)), aText(strings.Repeat(one, 256)))
	}
}

// Each item, each two of them, and all of them in several orders.
func TestItemsBehindOneAnother(t *testing.T) {
	l := items()
	checkRow(t)
	for _, x := range l {
		checkRow(t, x)
		for _, y := range l {
			checkRow(t, x, y)
		}
	}
	checkRow(t, l...)
	backwards := slices.Clone(l)
	slices.Reverse(backwards)
	checkRow(t, backwards...)
	for step := 2; step < 12; step++ {
		var mixed []item
		for from := range step {
			for i := from; i < len(l); i += step {
				mixed = append(mixed, l[i])
			}
		}
		checkRow(t, mixed...)
	}
}

// All rows of up to five small items.
func TestAllShortRows(t *testing.T) {
	some := []item{anInt(0x01020304), anInt(-7), aByte(3), aText(""), aText("\x02x"), aText("yyyyy")}
	rows := [][]item{nil}
	for len(rows) > 0 {
		row := rows[0]
		rows = rows[1:]
		checkRow(t, row...)
		if len(row) < 5 {
			for _, x := range some {
				rows = append(rows, append(slices.Clone(row), x))
			}
		}
	}
}

func TestManyWrites(t *testing.T) {
	w := &code.Writer{}
	var want []byte
	for i := range 300_000 {
		x := [...]item{anInt(i), aByte(byte(i)), aText("abc")}[i%3]
		x.write(w)
		want = append(want, x.bytes()...)
	}
	if !bytes.Equal(w.Bytes(), want) {
		t.Error("P601: many writes")
	}
	r := code.NewReader(want)
	for i := range 300_000 {
		x := [...]item{anInt(i), aByte(byte(i)), aText("abc")}[i%3]
		if got := x.read(r); got != x.back() {
			t.Fatalf("P601: read %d: %s", i, got.name())
		}
	}
	if r.Left() != 0 || r.Bad() {
		t.Errorf("P601: many reads: Left %d, Bad %v", r.Left(), r.Bad())
	}
}

// What is not there yet is not missing: a Reader is bad by a read alone.
func TestReadersOfNothing(t *testing.T) {
	for _, b := range [][]byte{nil, {}, make([]byte, 0, 9), []byte("abcdefgh")[:0]} {
		for _, kind := range []byte(allKinds) {
			r := code.NewReader(b)
			if r == nil {
				t.Fatal("P601: NewReader answers nil")
			}
			if r.Bad() || r.Left() != 0 || r.Bad() {
				t.Errorf("P601: a Reader of nothing: Bad %v, Left %d", r.Bad(), r.Left())
			}
			if got := nothing(kind).read(r); got != nothing(kind) {
				t.Errorf("P601: a Reader of nothing reads %s", got.name())
			}
			checkBad(t, "nothing", r)
		}
	}
}

// The spare room behind what is handed in is none of it.
func TestReadersEndWhereTheirBytesEnd(t *testing.T) {
	b := []byte("\x05abcdefgh")
	for n := range 6 {
		r := code.NewReader(b[:n])
		if r.Left() != n || r.Text() != "" {
			t.Errorf("P601: %d bytes of a text of 5", n)
		}
		checkBad(t, "a text that ends early", r)
	}
	for n := range 4 {
		r := code.NewReader(b[:n])
		if r.Left() != n || r.Int() != 0 {
			t.Errorf("P601: %d bytes of an Int", n)
		}
		checkBad(t, "an Int that ends early", r)
	}
}

// Each item, cut at each place, alone and behind others.
func TestMissingBytes(t *testing.T) {
	for _, ahead := range [][]item{nil, {aByte(9)}, {anInt(-3), aText("abc")}} {
		front := written(ahead...)
		for _, x := range items() {
			whole := x.bytes()
			for _, n := range cuts(len(whole)) {
				r := code.NewReader(slices.Concat(front, whole[:n]))
				for _, y := range ahead {
					if got := y.read(r); got != y.back() {
						t.Errorf("P601: %s is read as %s", y.name(), got.name())
					}
				}
				if r.Bad() || r.Left() != n {
					t.Errorf("P601: ahead of %s, cut to %d: Bad %v, Left %d", x.name(), n, r.Bad(), r.Left())
				}
				if got := x.read(r); got != nothing(x.kind) {
					t.Errorf("P601: %s, cut to %d bytes, is read as %s", x.name(), n, got.name())
				}
				checkBad(t, x.name(), r)
			}
		}
	}
}

// cuts answers how many bytes may be left of n, fewer than it.
func cuts(n int) []int {
	var l []int
	for i := range n {
		if i < 8 || i > n-4 {
			l = append(l, i)
		}
	}
	return l
}

// A text's length of n, and all counts of bytes behind it.
func TestEachLengthAgainstWhatIsThere(t *testing.T) {
	for n := range 256 {
		for _, there := range []int{0, 1, n - 2, n - 1, n, n + 1, n + 2, 255, 256} {
			if there < 0 {
				continue
			}
			s := manyBytes(there)
			r := code.NewReader([]byte(string([]byte{byte(n)}) + s))
			got := r.Text()
			if there < n {
				if got != "" {
					t.Errorf("P601: %d of %d bytes are there: %q", there, n, got)
				}
				checkBad(t, "a text", r)
			} else if got != s[:n] || r.Bad() || r.Left() != there-n {
				t.Errorf("P601: %d bytes are there, a text of %d: one of %d, Bad %v, Left %d", there, n, len(got), r.Bad(), r.Left())
			}
		}
	}
}

// The bytes that were too few for one read are not there for a smaller one.
func TestABadReaderHasNoBytesLeft(t *testing.T) {
	for _, b := range []string{"\x05ab", "\xff\xff\xff", "\x04\x01\x01\x01", "\x01"} {
		for _, kind := range []byte("it") {
			r := code.NewReader([]byte(b))
			nothing(kind).read(r)
			if !r.Bad() {
				continue // four bytes are an Int
			}
			checkBad(t, "a bad one", r)
		}
	}
}

func TestNilReader(t *testing.T) {
	var none *code.Reader
	for range 3 {
		for _, kind := range []byte(allKinds) {
			if got := nothing(kind).read(none); got != nothing(kind) {
				t.Errorf("P602: a nil Reader reads %s", got.name())
			}
			if none.Bad() || none.Left() != 0 {
				t.Errorf("P602: a nil Reader: Bad %v, Left %d", none.Bad(), none.Left())
			}
		}
	}
}

func TestTheZeroReader(t *testing.T) {
	for _, kind := range []byte(allKinds) {
		var r code.Reader
		if r.Bad() || r.Left() != 0 || nothing(kind).read(&r) != nothing(kind) {
			t.Error("P601: the zero Reader")
		}
		checkBad(t, "the zero Reader", &r)
	}
}

func TestTwoWriters(t *testing.T) {
	for _, l := range [][]item{{aByte(1), aByte(2)}, items()} {
		x, y := &code.Writer{}, &code.Writer{}
		var wantX, wantY []byte
		for i, it := range l {
			other := l[len(l)-1-i]
			it.write(x)
			other.write(y)
			wantX, wantY = append(wantX, it.bytes()...), append(wantY, other.bytes()...)
			if !bytes.Equal(x.Bytes(), wantX) || !bytes.Equal(y.Bytes(), wantY) {
				t.Fatalf("P602: two Writers, behind item %d", i)
			}
		}
		if len(new(code.Writer).Bytes()) != 0 {
			t.Error("P602: a new Writer beside others")
		}
	}
}

// A copy is another Writer: each of them goes on by itself.
func TestACopiedWriter(t *testing.T) {
	for n := range 40 {
		var w code.Writer
		var ahead []byte
		for i := range n {
			w.Byte(byte(i))
			ahead = append(ahead, byte(i))
		}
		x, y := w, w
		w.Byte('w')
		x.Byte('x')
		y.Int(-1)
		z := x
		x.Text("more")
		z.Text("less")
		for _, c := range []struct {
			w    *code.Writer
			want string
		}{{&w, "w"}, {&x, "x\x04more"}, {&y, "\xff\xff\xff\xff"}, {&z, "x\x04less"}} {
			if got := c.w.Bytes(); string(got) != string(ahead)+c.want {
				t.Errorf("P602: a copy behind %d bytes: %q, not %q", n, got, c.want)
			}
		}
	}
}

func TestTwoReaders(t *testing.T) {
	b := written(anInt(1), aText("abc"), aByte(4))
	x, y, z := code.NewReader(b), code.NewReader(b), code.NewReader(nil)
	if x.Int() != 1 || y.Left() != len(b) || x.Text() != "abc" || y.Int() != 1 || x.Byte() != 4 || x.Byte() != 0 {
		t.Error("P602: two Readers of the same bytes")
	}
	if !x.Bad() || y.Bad() || z.Bad() || y.Left() != len(b)-4 {
		t.Error("P602: one is bad, the others are not")
	}
	if y.Text() != "abc" || y.Byte() != 4 || y.Left() != 0 || y.Bad() {
		t.Error("P602: the other one reads on")
	}
	checkBad(t, "the first one", x)
}

func TestACopiedReader(t *testing.T) {
	r := code.NewReader(written(aByte(1), aText("abc"), anInt(5)))
	r.Byte()
	c := *r
	if c.Text() != "abc" || r.Left() != 8 || c.Text() != "" || c.Left() != 4-1 || c.Int() != 0 {
		t.Error("P602: a copied Reader")
	}
	checkBad(t, "the copy", &c)
	if r.Bad() || r.Text() != "abc" || r.Int() != 5 || r.Bad() {
		t.Error("P602: the one that was copied")
	}
}

// A row of bytes that its owner turns, and its spare room, behind NewReader.
func TestBytesAreNotKept(t *testing.T) {
	for _, x := range items() {
		b := append(make([]byte, 0, 2_000), x.bytes()...)
		r := code.NewReader(b)
		for i := range b[:cap(b)] {
			b[:cap(b)][i] ^= 0xa5
		}
		if r.Left() != len(b) || x.read(r) != x.back() || r.Left() != 0 || r.Bad() {
			t.Errorf("P602: %s: turned behind NewReader", x.name())
		}
	}
}

func TestBytesAreAsTheyWere(t *testing.T) {
	for _, x := range items() {
		for _, n := range append(cuts(len(x.bytes())), len(x.bytes())) {
			room := append(x.bytes(), "spare room"...)
			was := slices.Clone(room)
			r := code.NewReader(room[:n])
			for _, kind := range []byte("tib") {
				nothing(kind).read(r)
				r.Left()
				r.Bad()
			}
			if !bytes.Equal(room, was) {
				t.Errorf("P602: %s: what was handed in has turned", x.name())
			}
		}
	}
}

func lieTogether(a, b string) bool {
	from, to := uintptr(unsafe.Pointer(unsafe.StringData(a))), uintptr(unsafe.Pointer(unsafe.StringData(b)))
	return len(a) > 0 && len(b) > 0 && from < to+uintptr(len(b)) && to < from+uintptr(len(a))
}

// A text whose bytes are turned behind the call: none of them was kept, nor is one in what is read.
func TestTextsAreNotKept(t *testing.T) {
	for _, n := range []int{1, 2, 30, 255, 256, 1000} {
		b := []byte(manyBytes(n))
		s := unsafe.String(&b[0], n)
		want := aText(strings.Clone(s)).bytes()
		w := &code.Writer{}
		w.Text(s)
		if string(b) != manyBytes(n) {
			t.Errorf("P602: a text of %d bytes has turned", n)
		}
		for i := range b {
			b[i] ^= 0xff
		}
		if !bytes.Equal(w.Bytes(), want) {
			t.Errorf("P602: a text of %d bytes, turned behind the call, is kept", n)
		}
		r := code.NewReader(want)
		got := r.Text()
		if n > 1 && lieTogether(got, unsafe.String(&want[0], len(want))) {
			t.Errorf("P602: a text of %d bytes is a piece of what was handed in", n)
		}
	}
}

// What one caller does to an answer, and to its spare room, no other sees, nor the Writer.
func TestAnswersAreNewMemory(t *testing.T) {
	w := &code.Writer{}
	var want []byte
	var earlier [][]byte
	var was [][]byte
	for i, x := range items() {
		x.write(w)
		want = append(want, x.bytes()...)
		first, second := w.Bytes(), w.Bytes()
		for k := range first[:cap(first)] {
			first[:cap(first)][k] ^= 0x5a
		}
		_ = append(first, "and more"...)
		if !bytes.Equal(second, want) || !bytes.Equal(w.Bytes(), want) {
			t.Fatalf("P602: behind item %d: a turn of an answer is seen by another", i)
		}
		earlier, was = append(earlier, second[:cap(second)]), append(was, slices.Clone(second[:cap(second)]))
	}
	w.Text("and more behind them")
	for i := range earlier {
		if !bytes.Equal(earlier[i], was[i]) {
			t.Errorf("P602: answer %d has turned by further writes", i)
		}
	}
}

// An answer that its owner makes longer, while the Writer is written to.
func TestAnswersGoOnByThemselves(t *testing.T) {
	for n := range 70 {
		w := &code.Writer{}
		for range n {
			w.Byte('a')
		}
		answer := append(w.Bytes(), 'x')
		w.Byte('b')
		answer = append(answer, 'y')
		w.Byte('c')
		ahead := strings.Repeat("a", n)
		if string(answer) != ahead+"xy" || string(w.Bytes()) != ahead+"bc" {
			t.Errorf("P602: behind %d bytes: %q beside %q", n, answer, w.Bytes())
		}
	}
}

// all writes and reads every item in the order of the places, and answers what was told at each of them.
func all(l []item, places []int) []string {
	told := make([]string, len(l))
	for _, i := range places {
		w := &code.Writer{}
		l[i].write(w)
		l[len(l)-1-i].write(w)
		b := w.Bytes()
		r := code.NewReader(b[:len(b)-i%3])
		told[i] = string(b)
		for _, x := range []item{l[i], l[len(l)-1-i], l[i]} {
			told[i] += fmt.Sprint(x.read(r), r.Left(), r.Bad())
		}
		clear(b[:cap(b)])
	}
	return told
}

func upTo(n int) []int {
	l := make([]int, n)
	for i := range l {
		l[i] = i
	}
	return l
}

func TestAnswersHangOnArgumentsAlone(t *testing.T) {
	l := items()
	first := all(l, upTo(len(l)))
	if !slices.Equal(all(l, upTo(len(l))), first) {
		t.Error("P602: the same calls once more answer otherwise")
	}
	backwards := upTo(len(l))
	slices.Reverse(backwards)
	if !slices.Equal(all(l, backwards), first) {
		t.Error("P602: the same calls in another order answer otherwise")
	}
}

func TestAnswersBesideOneAnother(t *testing.T) {
	l := items()
	first := all(l, upTo(len(l)))
	var same [4]bool
	var workers sync.WaitGroup
	for i := range same {
		workers.Go(func() {
			same[i] = slices.Equal(all(l, upTo(len(l))), first)
		})
	}
	workers.Wait()
	for i, ok := range same {
		if !ok {
			t.Errorf("P602: worker %d was answered otherwise", i)
		}
	}
}

// Copies of one Writer, and Readers of the same bytes, are used beside each other.
func TestCopiesBesideOneAnother(t *testing.T) {
	var w code.Writer
	w.Text("ahead")
	b := w.Bytes()
	var told [4]string
	var workers sync.WaitGroup
	for i := range told {
		workers.Go(func() {
			mine := w
			for range 100 {
				mine.Byte(byte(i))
			}
			r := code.NewReader(b)
			told[i] = r.Text() + string(mine.Bytes())
		})
	}
	workers.Wait()
	for i, s := range told {
		if s != "ahead\x05ahead"+strings.Repeat(string([]byte{byte(i)}), 100) {
			t.Errorf("P602: worker %d: %q", i, s)
		}
	}
}
