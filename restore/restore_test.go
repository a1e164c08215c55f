package restore_test

import (
	"bytes"
	"encoding/binary"
	"fmt"
	"hash/crc32"
	"math"
	"slices"
	"strings"
	"sync"
	"testing"

	"cartridge/api"
	"cartridge/catalog"
	"cartridge/group"
	"cartridge/mend"
	"cartridge/restore"
	"cartridge/stripe"
)

const (
	thin  = 79 // bytes of a block of all kinds but parity's
	most  = 64 // bytes of data in one
	ahead = 11 // bytes of a block that stand ahead of its data

	greatest = 1<<31 - 1 // that a frame's label and number may be
)

func TestTheLimits(t *testing.T) {
	if api.Load != most || api.Frame != thin || api.MaxFile != 4000 || api.MaxParts != 14 || api.MaxTapes != 24 || api.FData != 3 {
		t.Error("the numbers of package api are others")
	}
	if api.ErrNone != 5 || api.ErrBad != 8 || api.ErrLost != 9 {
		t.Error("the errors of package api are others")
	}
}

// filled makes bytes, none of them 0, that hang on seed alone.
func filled(seed, size int) []byte {
	b := make([]byte, size)
	for i := range b {
		b[i] = byte((i*7+seed*31)%255) + 1
	}
	return b
}

func sumOf(b []byte) int {
	return int(crc32.Checksum(b, crc32.MakeTable(crc32.Castagnoli)))
}

// raw lays a block by the rule of chapter 9, whether frame.Put would or not.
func raw(kind, label, number int, load []byte) []byte {
	room := most
	if kind == api.FParity {
		room = thin
	}
	b := binary.BigEndian.AppendUint32([]byte{byte(kind)}, uint32(label))
	b = binary.BigEndian.AppendUint32(b, uint32(number))
	b = binary.BigEndian.AppendUint16(b, uint16(len(load)))
	b = append(b, load...)
	b = append(b, make([]byte, max(room-len(load), 0))...)
	return binary.BigEndian.AppendUint32(b, uint32(sumOf(b)))
}

// headBytes lays a head's bytes by the rule of chapter 10.
func headBytes(h api.Head) []byte {
	b := append([]byte{byte(len(h.Path))}, h.Path...)
	for _, n := range []int{h.Version, h.Size, h.From, h.Len, h.Serial, h.Sum} {
		b = binary.BigEndian.AppendUint32(b, uint32(n))
	}
	return append(b, 0)
}

// sealBytes lays a seal's bytes by the rule of chapter 10.
func sealBytes(s api.Seal) []byte {
	b := binary.BigEndian.AppendUint32(nil, uint32(s.Number))
	b = append(b, byte(s.Index), byte(s.Data), byte(s.Parity))
	for _, label := range s.Labels {
		b = binary.BigEndian.AppendUint32(b, uint32(label))
	}
	return b
}

// begun is a tape with its label alone.
func begun(label int) api.Tape {
	return api.Tape{Label: label, Cap: 200, Blocks: [][]byte{raw(api.FLabel, label, 0, []byte("D"))}}
}

// with answers a tape that has one block more.
func with(x api.Tape, kind int, load []byte) api.Tape {
	x = clone(x)
	x.Blocks = append(x.Blocks, raw(kind, x.Label, len(x.Blocks), load))
	return x
}

// instead answers a tape of which block n is another one.
func instead(x api.Tape, n int, b []byte) api.Tape {
	x = clone(x)
	x.Blocks[n] = b
	return x
}

// turned answers a tape of which one bit of block n is another one, if it has bytes.
func turned(x api.Tape, n, bit int) api.Tape {
	x = clone(x)
	if b := x.Blocks[n]; len(b) > 0 {
		b[bit/8%len(b)] ^= 1 << (bit % 8)
	}
	return x
}

func lost(x api.Tape) api.Tape {
	x.Lost = true
	return x
}

func clone(x api.Tape) api.Tape {
	l := make([][]byte, len(x.Blocks))
	for i, b := range x.Blocks {
		l[i] = bytes.Clone(b)
	}
	x.Blocks = l
	return x
}

func clones(l []api.Tape) []api.Tape {
	var out []api.Tape
	for _, x := range l {
		out = append(out, clone(x))
	}
	return out
}

// swapped answers the tapes, of which the one in that place is another one.
func swapped(l []api.Tape, place int, x api.Tape) []api.Tape {
	l = clones(l)
	l[place] = x
	return l
}

func sameTape(a, b api.Tape) bool {
	return a.Label == b.Label && a.Cap == b.Cap && a.Lost == b.Lost && slices.EqualFunc(a.Blocks, b.Blocks, bytes.Equal)
}

// piece is a part that is to be laid: on the tape of which place, and of how many bytes.
type piece struct{ tape, size int }

// lay answers the tapes with a file more, of these pieces, and the file: that of the bytes of seed.
func lay(l []api.Tape, path string, seed int, pieces ...piece) ([]api.Tape, api.File) {
	size := 0
	for _, p := range pieces {
		size += p.size
	}
	b := filled(seed, size)
	f := api.File{Path: path, Version: 1, Size: size, Sum: sumOf(b), Serial: seed}
	l = clones(l)
	from := 0
	for _, p := range pieces {
		x := l[p.tape]
		h := api.Head{Path: path, Version: 1, Size: size, From: from, Len: p.size, Serial: seed, Sum: f.Sum}
		f.Parts = append(f.Parts, api.Part{Head: h, Label: x.Label, Block: len(x.Blocks)})
		x = with(x, api.FHead, headBytes(h))
		for data := range slices.Chunk(b[from:from+p.size], most) {
			x = with(x, api.FData, data)
		}
		l[p.tape] = with(x, api.FMark, nil)
		from += p.size
	}
	return l, f
}

// labels of the tapes on which the tests lay files: they neither rise nor fall.
func labels() []int { return []int{7, 2, 1 << 30, 1, 30, 5} }

// tapesOf are so many tapes, each with a file of another length on it.
func tapesOf(n int) []api.Tape {
	var l []api.Tape
	for i := range n {
		l = append(l, begun(labels()[i]))
		l, _ = lay(l, "other", 70+i, piece{i, 30 * i})
	}
	return l
}

// sample is a file of several parts on several tapes, and one more tape; one tape has two of its parts, and a file lies behind.
func sample() ([]api.Tape, api.File) {
	l, f := lay(tapesOf(4), "a/b", 3, piece{2, 150}, piece{0, 64}, piece{2, 65}, piece{1, 63}, piece{0, 1})
	for i := range l {
		l, _ = lay(l, "last", 90+i, piece{i, 100})
	}
	return l, f
}

func content(f api.File) []byte { return filled(f.Serial, f.Size) }

// spotsOf are the blocks of data of a file, in the order in which it is read.
func spotsOf(f api.File) []api.Spot {
	var l []api.Spot
	for _, p := range f.Parts {
		for i := 0; i*most < p.Head.Len; i++ {
			l = append(l, api.Spot{Label: p.Label, Block: p.Block + 1 + i})
		}
	}
	return l
}

// firstOn is the first of them on the tape of that label.
func firstOn(f api.File, label int) api.Spot {
	l := spotsOf(f)
	return l[slices.IndexFunc(l, func(s api.Spot) bool { return s.Label == label })]
}

func headSpot(f api.File) api.Spot {
	return api.Spot{Label: f.Parts[0].Label, Block: f.Parts[0].Block}
}

// placeOf is where the tape of that label stands.
func placeOf(l []api.Tape, label int) int {
	return slices.IndexFunc(l, func(x api.Tape) bool { return x.Label == label })
}

// told is all that Bytes answers.
type told struct {
	b []byte
	s api.Spot
	e api.Errno
}

func tell(l []api.Tape, f api.File) told {
	var a told
	a.b, a.s, a.e = restore.Bytes(l, f)
	return a
}

func (a told) same(b told) bool {
	return a.e == b.e && a.s == b.s && bytes.Equal(a.b, b.b)
}

// short is what is told of an answer, be it ever so long.
func (a told) short() string {
	return fmt.Sprintf("%d bytes, sum %x, %v, error %d", len(a.b), sumOf(a.b), a.s, a.e)
}

// isData tells by other means whether b is a block of data, of so many bytes, in its place.
func isData(b []byte, s api.Spot, size int) bool {
	if s.Label < 1 || s.Label > greatest || s.Block < 0 || s.Block > greatest {
		return false
	}
	return len(b) == thin && bytes.Equal(b, raw(api.FData, s.Label, s.Block, b[ahead:ahead+size]))
}

// mendedOf is what the first group that counts says of a block; nil: there is none, or it says nothing.
func mendedOf(l []api.Tape, s api.Spot) []byte {
	for _, seal := range group.Find(l) {
		for _, label := range seal.Labels[:seal.Data] {
			if label == s.Label {
				b, _ := mend.Block(l, seal, s.Label, s.Block)
				return b
			}
		}
	}
	return nil
}

// blockOf is the block of data that is to be read there; else what is told of it.
func blockOf(l []api.Tape, s api.Spot, size int) ([]byte, api.Errno) {
	e := api.ErrLost
	var b []byte
	if i := placeOf(l, s.Label); i >= 0 && !l[i].Lost {
		e = api.ErrBad
		if s.Block >= 0 && s.Block < len(l[i].Blocks) {
			b = l[i].Blocks[s.Block]
		}
	}
	if isData(b, s, size) {
		return b, api.OK
	}
	if b = mendedOf(l, s); isData(b, s, size) {
		return b, api.OK
	}
	return nil, e
}

// meaning is what Bytes is to answer.
func meaning(l []api.Tape, f api.File) told {
	if f.Gone {
		return told{e: api.ErrNone}
	}
	var all []byte
	for _, p := range f.Parts {
		for at := 0; at < p.Head.Len; at += most {
			s, size := api.Spot{Label: p.Label, Block: p.Block + 1 + at/most}, min(most, p.Head.Len-at)
			b, e := blockOf(l, s, size)
			if e != api.OK {
				return told{s: s, e: e}
			}
			all = append(all, b[ahead:ahead+size]...)
		}
	}
	switch {
	case sumOf(all) == f.Sum:
		return told{b: all}
	case len(f.Parts) == 0:
		return told{e: api.ErrBad}
	default:
		return told{s: headSpot(f), e: api.ErrBad}
	}
}

// check holds Bytes against what the test asks for, and that against the meaning.
func check(t *testing.T, what string, l []api.Tape, f api.File, want told) {
	t.Helper()
	if m := meaning(l, f); !m.same(want) {
		t.Errorf("the tests are of two minds of %s: %s, and %s", what, m.short(), want.short())
	}
	if got := tell(l, f); !got.same(want) {
		t.Errorf("P1901: %s: %s, not %s", what, got.short(), want.short())
	}
}

func checkRead(t *testing.T, what string, l []api.Tape, f api.File) {
	t.Helper()
	check(t, what, l, f, told{b: content(f)})
}

func checkFails(t *testing.T, what string, l []api.Tape, f api.File, s api.Spot, e api.Errno) {
	t.Helper()
	check(t, what, l, f, told{s: s, e: e})
}

// Bytes of a file of no parts, Sum 0: nothing.
func TestTheExample(t *testing.T) {
	l, _ := sample()
	for what, tapes := range map[string][]api.Tape{"no tapes": nil, "an empty list": {}, "tapes": l, "a tape that is lost": {lost(begun(1))}, "no tape at all": {{}}} {
		check(t, what, tapes, api.File{}, told{})
		check(t, what+", an empty list of parts", tapes, api.File{Parts: []api.Part{}}, told{})
		check(t, what+", all else told", tapes, api.File{Path: "x", Version: 3, Size: 40, Serial: 9}, told{})
	}
}

func TestOtherSumsOfNoParts(t *testing.T) {
	l, _ := sample()
	for _, sum := range []int{1, -1, 1 << 31, 1<<32 - 1, 1 << 32, -1 << 32, 1 << 40, math.MaxInt, math.MinInt} {
		for _, tapes := range [][]api.Tape{nil, l} {
			checkFails(t, fmt.Sprint("no parts, sum ", sum), tapes, api.File{Sum: sum}, api.Spot{}, api.ErrBad)
		}
	}
}

// A file that is Gone is none, whatever else it says, and whatever the tapes are.
func TestFilesThatAreGone(t *testing.T) {
	l, f := sample()
	files := map[string]api.File{"nothing else": {}, "a file": f, "another sum": f, "no parts, another sum": {Sum: 7}, "parts that are nowhere": f, "all fields odd": f}
	odd := files["another sum"]
	odd.Sum++
	files["another sum"] = odd
	odd = files["parts that are nowhere"]
	odd.Parts = []api.Part{{Head: api.Head{Len: 10}, Label: -4, Block: -5}, {Head: api.Head{Len: math.MaxInt}, Block: math.MaxInt}}
	files["parts that are nowhere"] = odd
	odd.Path, odd.Version, odd.Size, odd.Sum, odd.Serial = "//", -1, math.MinInt, -5, -7
	files["all fields odd"] = odd
	for what, f := range files {
		f.Gone = true
		for _, tapes := range [][]api.Tape{nil, l, swapped(l, 2, lost(l[2])), l[:1]} {
			checkFails(t, "gone, "+what, tapes, f, api.Spot{}, api.ErrNone)
		}
	}
	// It is the file's own word: that of its parts is not looked at.
	for i := range f.Parts {
		f.Parts[i].Head.Gone = true
	}
	checkRead(t, "parts that are gone", l, f)
}

// sizes are those of parts: the edges of blocks, and some.
func sizes() []int {
	return []int{0, 1, 2, 31, 62, 63, 64, 65, 66, 127, 128, 129, 191, 192, 193, 640, 1000, 3968, 3969, 3999, 4000}
}

func TestOnePart(t *testing.T) {
	for _, size := range sizes() {
		for place := range 3 {
			l, f := lay(tapesOf(3), "f", size+1, piece{place, size})
			checkRead(t, fmt.Sprint("one part of ", size), l, f)
			l, _ = lay(l, "g", 5, piece{place, 70})
			checkRead(t, fmt.Sprint("one part of ", size, ", and one behind it"), l, f)
			checkRead(t, fmt.Sprint("one part of ", size, ", its tape alone"), l[place:place+1], f)
			slices.Reverse(l)
			checkRead(t, fmt.Sprint("one part of ", size, ", the tapes the other way round"), l, f)
		}
	}
}

func TestSeveralParts(t *testing.T) {
	for _, a := range sizes()[1:12] {
		for _, b := range sizes()[1:12] {
			for _, on := range [][]int{{0, 0, 0}, {0, 1, 2}, {2, 1, 0}, {1, 0, 1}, {0, 2, 2}} {
				l, f := lay(tapesOf(3), "f", a+b, piece{on[0], a}, piece{on[1], b}, piece{on[2], a})
				checkRead(t, fmt.Sprint("parts of ", a, b, a, " on the tapes ", on), l, f)
			}
		}
	}
	l, f := sample()
	checkRead(t, "the sample", l, f)
}

// They count in the file's order, not by where they begin in it, nor by where they lie.
func TestTheOrderOfParts(t *testing.T) {
	l, f := sample()
	b := content(f)
	pieces := [][]byte{b[:150], b[150:214], b[214:279], b[279:342], b[342:]}
	for _, order := range [][]int{{4, 3, 2, 1, 0}, {2, 0, 1, 3, 4}, {0, 2}, {1}, {3, 3, 3}, {0, 0, 1, 0}} {
		g := f
		g.Parts = nil
		var want []byte
		for _, i := range order {
			g.Parts = append(g.Parts, f.Parts[i])
			want = append(want, pieces[i]...)
		}
		g.Sum = sumOf(want)
		check(t, fmt.Sprint("parts ", order), l, g, told{b: want})
		if !bytes.Equal(want, b) {
			g.Sum = f.Sum
			checkFails(t, fmt.Sprint("parts ", order, ", the sum of others"), l, g, headSpot(g), api.ErrBad)
		}
	}
}

// What the chapter does not speak of is not looked at.
func TestOtherFields(t *testing.T) {
	l, f := sample()
	want := content(f)
	for _, n := range []int{0, 1, -1, 63, 4000, math.MaxInt, math.MinInt} {
		g := f
		g.Path, g.Version, g.Size, g.Serial = strings.Repeat("?", 30), n, n, n
		check(t, fmt.Sprint("a file of odd numbers, ", n), l, g, told{b: want})
		g.Parts = slices.Clone(g.Parts)
		for i := range g.Parts {
			g.Parts[i].Head = api.Head{Path: "..", Version: n, Size: n, From: n, Len: f.Parts[i].Head.Len, Serial: n, Sum: n, Gone: n > 0}
		}
		check(t, fmt.Sprint("heads of odd numbers, ", n), l, g, told{b: want})
		x := clones(l)
		for i := range x {
			x[i].Cap = n
		}
		check(t, fmt.Sprint("tapes of Cap ", n), x, f, told{b: want})
	}
}

// Heads, marks, labels, and what lies between the parts, may have rotted.
func TestBlocksThatAreNotData(t *testing.T) {
	l, f := sample()
	of := spotsOf(f)
	for i, x := range l {
		for n := range x.Blocks {
			if slices.Contains(of, api.Spot{Label: x.Label, Block: n}) {
				continue
			}
			checkRead(t, fmt.Sprint("rotted: ", x.Label, n), swapped(l, i, turned(x, n, 100)), f)
			checkRead(t, fmt.Sprint("nothing: ", x.Label, n), swapped(l, i, instead(x, n, nil)), f)
			l[i] = turned(x, n, 9)
		}
	}
	checkRead(t, "all that is not data rotted", l, f)
	// Nothing is asked behind the last block of data: no mark has to be there.
	l, f = lay([]api.Tape{begun(4)}, "f", 9, piece{0, 130})
	l[0].Blocks = l[0].Blocks[:len(l[0].Blocks)-1]
	checkRead(t, "no mark", l, f)
	l[0].Blocks = l[0].Blocks[:len(l[0].Blocks)-1]
	checkFails(t, "no last block", l, f, api.Spot{Label: 4, Block: 4}, api.ErrBad)
}

// Of a part of no bytes nothing is read, wherever it lies; of one of fewer neither.
func TestPartsOfNoBytes(t *testing.T) {
	l, f := sample()
	want := content(f)
	for _, n := range []int{0, -1, -64, -65, math.MinInt} {
		for _, label := range []int{labels()[0], 99, 0, -1, math.MinInt} {
			for _, block := range []int{0, 1, -1, 1000, math.MaxInt, math.MinInt} {
				p := api.Part{Head: api.Head{Len: n}, Label: label, Block: block}
				for at := range len(f.Parts) + 1 {
					g := f
					g.Parts = slices.Insert(slices.Clone(f.Parts), at, p)
					check(t, fmt.Sprint("a part of ", n, " in place ", at), l, g, told{b: want})
				}
				alone := api.File{Parts: []api.Part{p, p}}
				check(t, fmt.Sprint("parts of ", n, " alone"), l, alone, told{})
				check(t, fmt.Sprint("parts of ", n, " alone, lost"), []api.Tape{lost(l[0])}, alone, told{})
				alone.Sum = 1
				checkFails(t, fmt.Sprint("parts of ", n, " alone, another sum"), l, alone, api.Spot{Label: label, Block: block}, api.ErrBad)
			}
		}
	}
}

func TestNumbersThatCanNotBe(t *testing.T) {
	l, f := sample()
	one := func(label, block, n int) api.File {
		g := f
		g.Parts = []api.Part{{Head: api.Head{Len: n}, Label: label, Block: block}}
		return g
	}
	label := f.Parts[0].Label
	for _, n := range []int{1, 63, 64, 65, 1 << 31, math.MaxInt - 1, math.MaxInt} {
		for _, block := range []int{-2, -3, -64, -1 << 31, -1 << 32, math.MinInt, 1000, 1<<31 - 2, 1<<31 - 1, 1 << 31, 1<<32 - 1, 1 << 32, math.MaxInt - 1} {
			checkFails(t, fmt.Sprint("block ", block), l, one(label, block, n), api.Spot{Label: label, Block: block + 1}, api.ErrBad)
		}
		for _, other := range []int{0, -1, 3, 1<<31 - 1, 1 << 31, 1<<32 + label, -label, math.MinInt, math.MaxInt} {
			checkFails(t, fmt.Sprint("label ", other), l, one(other, 3, n), api.Spot{Label: other, Block: 4}, api.ErrLost)
		}
		// There is no number behind the greatest one: only that it ends, with an error.
		if b, _, e := restore.Bytes(l, one(label, math.MaxInt, n)); e != api.ErrBad || len(b) != 0 {
			t.Errorf("P1901: the greatest block: error %d", e)
		}
		if b, _, e := restore.Bytes(l, one(99, math.MaxInt, n)); e != api.ErrLost || len(b) != 0 {
			t.Errorf("P1901: the greatest block of no tape: error %d", e)
		}
	}
	// A part that is longer than what lies there ends where that does.
	p := f.Parts[0]
	for _, n := range []int{151, 191, 192, 193, 4001, math.MaxInt} {
		checkFails(t, fmt.Sprint("Len ", n), l, one(label, p.Block, n), api.Spot{Label: label, Block: p.Block + 3}, api.ErrBad)
	}
	// Block 0 may be one of data, for all that a part asks.
	x := api.Tape{Label: 3, Blocks: [][]byte{raw(api.FData, 3, 0, filled(1, 64)), raw(api.FData, 3, 1, filled(1, 70)[64:])}}
	g := api.File{Sum: sumOf(filled(1, 70)), Parts: []api.Part{{Head: api.Head{Len: 70}, Label: 3, Block: -1}}}
	check(t, "from block 0 on", []api.Tape{x}, g, told{b: filled(1, 70)})
	// Labels that no frame can have are those of tapes all the same.
	for _, label := range []int{0, -1, 1 << 31, math.MinInt, math.MaxInt} {
		x := api.Tape{Label: label, Blocks: [][]byte{nil, raw(api.FData, label, 1, []byte("a"))}}
		checkFails(t, fmt.Sprint("a tape of label ", label), []api.Tape{x}, one(label, 0, 1), api.Spot{Label: label, Block: 1}, api.ErrBad)
		checkFails(t, fmt.Sprint("a lost tape of label ", label), []api.Tape{lost(x), x}, one(label, 0, 1), api.Spot{Label: label, Block: 1}, api.ErrLost)
	}
}

// harm is a way in which a block of data is gone, with its tape or alone.
type harm struct {
	what  string
	do    func(l []api.Tape, s api.Spot) []api.Tape
	whole bool // all of its tape is gone
	lost  bool // with the tape
	apt   bool // that a group mends it: the group does not take the tape's own word for it
}

// onBlock makes a harm of one that turns a tape.
func onBlock(do func(x api.Tape, n int) api.Tape) func(l []api.Tape, s api.Spot) []api.Tape {
	return func(l []api.Tape, s api.Spot) []api.Tape {
		i := placeOf(l, s.Label)
		return swapped(l, i, do(l[i], s.Block))
	}
}

// loadOf is what a block carries; something, if it tells nothing of that.
func loadOf(b []byte) []byte {
	if len(b) != thin || b[9] != 0 || b[10] < 1 || b[10] > most {
		return filled(2, 10)
	}
	return b[ahead : ahead+int(b[10])]
}

// frameInstead makes a harm of a block that another one comes for.
func frameInstead(make func(s api.Spot, load []byte) []byte) func(l []api.Tape, s api.Spot) []api.Tape {
	return func(l []api.Tape, s api.Spot) []api.Tape {
		i := placeOf(l, s.Label)
		return swapped(l, i, instead(l[i], s.Block, make(s, loadOf(l[i].Blocks[s.Block]))))
	}
}

// firstIs makes a harm of a tape of the same label that stands ahead of all.
func firstIs(make func(x api.Tape) api.Tape) func(l []api.Tape, s api.Spot) []api.Tape {
	return func(l []api.Tape, s api.Spot) []api.Tape {
		return append([]api.Tape{make(l[placeOf(l, s.Label)])}, l...)
	}
}

// without answers the tapes that have not that label.
func without(l []api.Tape, label int) []api.Tape {
	return slices.DeleteFunc(clones(l), func(x api.Tape) bool { return x.Label == label })
}

// harmsOfTapes are those of which all blocks of a tape are gone at once.
func harmsOfTapes() []harm {
	return []harm{
		{"a tape that is lost", onBlock(func(x api.Tape, n int) api.Tape { return lost(x) }), true, true, true},
		{"a tape that is lost, with no blocks", onBlock(func(x api.Tape, n int) api.Tape { return api.Tape{Label: x.Label, Lost: true} }), true, true, true},
		{"no tape", func(l []api.Tape, s api.Spot) []api.Tape { return without(l, s.Label) }, true, true, true},
		{"the first one of the label lost", firstIs(func(x api.Tape) api.Tape { return api.Tape{Label: x.Label, Lost: true} }), true, true, true},
		{"the first one of the label lost, with its blocks", firstIs(lost), true, true, true},
		{"a blank tape", onBlock(func(x api.Tape, n int) api.Tape { return api.Tape{Label: x.Label, Cap: 9} }), true, false, false},
		{"the first one of the label blank", firstIs(func(x api.Tape) api.Tape { return api.Tape{Label: x.Label, Cap: 9} }), true, false, false},
		{"the first one of the label rotted", firstIs(func(x api.Tape) api.Tape {
			for n := range x.Blocks {
				x = turned(x, n, 8*n)
			}
			return x
		}), true, false, true},
		{"the first one of the label with marks alone", firstIs(func(x api.Tape) api.Tape {
			for n := range x.Blocks {
				x = instead(x, n, raw(api.FMark, x.Label, n, nil))
			}
			return x
		}), true, false, false},
		{"another label", func(l []api.Tape, s api.Spot) []api.Tape {
			i := placeOf(l, s.Label)
			x := clone(l[i])
			x.Label = 55
			return swapped(l, i, x)
		}, true, true, true},
	}
}

// harmsOfBlocks are those of one block that is none, or none of its place.
func harmsOfBlocks() []harm {
	l := []harm{
		{"no bytes", frameInstead(func(api.Spot, []byte) []byte { return nil }), false, false, true},
		{"bytes 0", frameInstead(func(api.Spot, []byte) []byte { return make([]byte, thin) }), false, false, true},
		{"other bytes", frameInstead(func(api.Spot, []byte) []byte { return filled(8, thin) }), false, false, true},
		{"another tape's", frameInstead(func(s api.Spot, b []byte) []byte { return raw(api.FData, s.Label+1, s.Block, b) }), false, false, true},
		{"another number's", frameInstead(func(s api.Spot, b []byte) []byte { return raw(api.FData, s.Label, s.Block+1, b) }), false, false, true},
		{"one of parity", frameInstead(func(s api.Spot, b []byte) []byte { return raw(api.FParity, s.Label, s.Block, b) }), false, false, true},
		{"a kind that is none", frameInstead(func(s api.Spot, b []byte) []byte { return raw(7, s.Label, s.Block, b) }), false, false, true},
		{"kind 0", frameInstead(func(s api.Spot, b []byte) []byte { return raw(0, s.Label, s.Block, b) }), false, false, true},
		{"a byte too few", onBlock(func(x api.Tape, n int) api.Tape { return instead(x, n, x.Blocks[n][:thin-1]) }), false, false, true},
		{"a byte too many", onBlock(func(x api.Tape, n int) api.Tape { return instead(x, n, append(bytes.Clone(x.Blocks[n]), 0)) }), false, false, true},
		{"another byte behind the data", frameInstead(func(s api.Spot, b []byte) []byte {
			x := raw(api.FData, s.Label, s.Block, b)[:thin-4]
			x[thin-5] ^= 1
			// Where the data is a full block's that byte is its last one: such a frame would be good, and its sum is made another one.
			return binary.BigEndian.AppendUint32(x, uint32(sumOf(x)+len(b)/most))
		}), false, false, true},
	}
	for _, bit := range []int{0, 1, 2, 10, 39, 42, 71, 80, 87, 88, 95, 8*(thin-5) + 7, 8 * (thin - 4), 8*thin - 1} {
		l = append(l, harm{fmt.Sprint("bit ", bit), onBlock(func(x api.Tape, n int) api.Tape { return turned(x, n, bit) }), false, false, true})
	}
	return l
}

// harmsThatStay are those of one block that a group does not mend, as it takes the tape's word.
func harmsThatStay() []harm {
	var l []harm
	for _, kind := range []int{api.FLabel, api.FHead, api.FMark, api.FSeal} {
		l = append(l, harm{fmt.Sprint("kind ", kind), frameInstead(func(s api.Spot, b []byte) []byte { return raw(kind, s.Label, s.Block, b) }), false, false, false})
	}
	return append(l,
		harm{"a byte of data less", frameInstead(func(s api.Spot, b []byte) []byte { return raw(api.FData, s.Label, s.Block, b[:len(b)-1]) }), false, false, false},
		harm{"a byte of data more, or none", frameInstead(func(s api.Spot, b []byte) []byte {
			return raw(api.FData, s.Label, s.Block, filled(4, (len(b)+1)%65))
		}), false, false, false},
		harm{"another length", frameInstead(func(s api.Spot, b []byte) []byte {
			return raw(api.FData, s.Label, s.Block, filled(4, (len(b)+32)%65))
		}), false, false, false},
		harm{"cut off", onBlock(func(x api.Tape, n int) api.Tape {
			x = clone(x)
			x.Blocks = x.Blocks[:n]
			return x
		}), false, false, false},
	)
}

func harms() []harm {
	return slices.Concat(harmsOfTapes(), harmsOfBlocks(), harmsThatStay())
}

// spot is what is told of a file that is harmed so, and is not mended.
func (h harm) spot(f api.File, s api.Spot) (api.Spot, api.Errno) {
	if h.whole {
		s = firstOn(f, s.Label)
	}
	if h.lost {
		return s, api.ErrLost
	}
	return s, api.ErrBad
}

// parityOf are the parity tapes of a group, made by hand: of any blocks of a frame's length, be they good or not.
func parityOf(number int, data []api.Tape, labels ...int) []api.Tape {
	s := api.Seal{Number: number, Data: len(data), Parity: len(labels)}
	for _, x := range data {
		s.Labels = append(s.Labels, x.Label)
	}
	s.Labels = append(s.Labels, labels...)
	rows, e := stripe.Parity(data, len(labels))
	if e != api.OK {
		panic(fmt.Sprint("a group that can't be: ", s))
	}
	var l []api.Tape
	for i, label := range labels {
		x := api.Tape{Label: label, Cap: 200, Blocks: [][]byte{raw(api.FLabel, label, 0, []byte("P"))}}
		for _, b := range rows[i] {
			x = with(x, api.FParity, b)
		}
		s.Index = s.Data + i
		l = append(l, with(x, api.FSeal, sealBytes(s)))
	}
	return l
}

// dulled answers parity tapes of which only label and seal are good.
func dulled(l []api.Tape) []api.Tape {
	l = clones(l)
	for i, x := range l {
		for n := 1; n < len(x.Blocks)-1; n++ {
			l[i] = turned(l[i], n, 13*n)
		}
	}
	return l
}

// setting is what stands beside the tapes of a file: which groups, and whether they mend one tape.
type setting struct {
	what  string
	more  func(l []api.Tape) []api.Tape
	mends bool
}

// settingsOfOne are those of no group, or of one.
func settingsOfOne() []setting {
	extra := begun(40)
	return []setting{
		{"no group", func(l []api.Tape) []api.Tape { return nil }, false},
		{"a group", func(l []api.Tape) []api.Tape { return parityOf(3, l, 60, 61) }, true},
		{"a group with one tape left of parity", func(l []api.Tape) []api.Tape { return parityOf(3, l, 60, 61)[1:] }, true},
		{"a group of one of parity", func(l []api.Tape) []api.Tape { return parityOf(1<<30, l, 60) }, true},
		{"a group with two seals", func(l []api.Tape) []api.Tape {
			p := parityOf(3, l, 60, 61)
			return append(p, p[0])
		}, true},
		{"a group whose parity is lost", func(l []api.Tape) []api.Tape {
			p := parityOf(3, l, 60)
			return []api.Tape{lost(p[0])}
		}, false},
		{"a group whose parity has rotted", func(l []api.Tape) []api.Tape { return dulled(parityOf(3, l, 60, 61)) }, false},
		{"a group whose seals have rotted", func(l []api.Tape) []api.Tape {
			p := parityOf(3, l, 60, 61)
			for i, x := range p {
				p[i] = turned(x, len(x.Blocks)-1, 200)
			}
			return p
		}, false},
		{"a group with another member that is lost", func(l []api.Tape) []api.Tape {
			return append(parityOf(3, append(clones(l), extra), 60), lost(extra))
		}, false},
		{"a group with another member that is not there", func(l []api.Tape) []api.Tape { return parityOf(3, append(clones(l), extra), 60) }, false},
		{"a group of too few rows", func(l []api.Tape) []api.Tape {
			var short []api.Tape
			for _, x := range l {
				short = append(short, begun(x.Label))
			}
			return parityOf(3, short, 60, 61)
		}, false},
		{"a group of other tapes", func(l []api.Tape) []api.Tape { return append(parityOf(3, []api.Tape{extra}, 60, 61), extra) }, false},
	}
}

// sealed answers the tape with the seal of a group of that number, of the extra tape and of those whose labels are named, as parity.
func sealed(number int, parity ...int) api.Tape {
	s := api.Seal{Number: number, Index: 1, Data: 1, Parity: len(parity) + 1, Labels: append([]int{40, 60}, parity...)}
	x := api.Tape{Label: 60, Blocks: [][]byte{raw(api.FLabel, 60, 0, []byte("P"))}}
	for range 30 {
		x = with(x, api.FParity, filled(9, thin))
	}
	return with(x, api.FSeal, sealBytes(s))
}

func labelsOf(l []api.Tape) []int {
	var out []int
	for _, x := range l {
		out = append(out, x.Label)
	}
	return out
}

// settingsOfTwo are those of two groups: the first one that has the tape among its data counts.
func settingsOfTwo() []setting {
	return []setting{
		{"the second one could", func(l []api.Tape) []api.Tape {
			return slices.Concat(dulled(parityOf(3, l, 60)), parityOf(4, l, 70, 71))
		}, false},
		{"the second one could, and stands first", func(l []api.Tape) []api.Tape {
			return slices.Concat(parityOf(4, l, 70, 71), dulled(parityOf(3, l, 60)))
		}, false},
		{"the first one can", func(l []api.Tape) []api.Tape {
			return slices.Concat(parityOf(3, l, 70), dulled(parityOf(4, l, 60)))
		}, true},
		{"the first one can, and stands last", func(l []api.Tape) []api.Tape {
			return slices.Concat(dulled(parityOf(4, l, 60)), parityOf(3, l, 70))
		}, true},
		{"two of one number, the one met last could", func(l []api.Tape) []api.Tape {
			return slices.Concat(dulled(parityOf(3, l, 60)), parityOf(3, l, 70))
		}, false},
		{"two of one number, the one met first can", func(l []api.Tape) []api.Tape {
			return slices.Concat(parityOf(3, l, 70), dulled(parityOf(3, l, 60)))
		}, true},
		{"the first one has it as parity", func(l []api.Tape) []api.Tape {
			return slices.Concat([]api.Tape{sealed(3, labelsOf(l)...)}, parityOf(4, l, 70))
		}, true},
		{"the only one has it as parity", func(l []api.Tape) []api.Tape { return []api.Tape{sealed(3, labelsOf(l)...)} }, false},
		{"the first one is of others", func(l []api.Tape) []api.Tape {
			return slices.Concat(parityOf(3, []api.Tape{begun(40)}, 60), []api.Tape{begun(40)}, parityOf(4, l, 70))
		}, true},
		{"the first one has nothing that tells its rows", func(l []api.Tape) []api.Tape {
			s := api.Seal{Number: 1, Data: len(l) + 1, Parity: 1, Labels: append(append([]int{40}, labelsOf(l)...), 60)}
			return slices.Concat([]api.Tape{with(begun(40), api.FSeal, sealBytes(s))}, parityOf(4, l, 70))
		}, false},
	}
}

func settings() []setting { return append(settingsOfOne(), settingsOfTwo()...) }

// Each harm to each block, in each setting.
func TestEachHarm(t *testing.T) {
	l, f := sample()
	for _, x := range settings() {
		all := append(clones(l), x.more(l)...)
		checkRead(t, x.what+", no harm", all, f)
		for _, h := range harms() {
			for _, s := range spotsOf(f) {
				what := fmt.Sprint(x.what, ", ", h.what, " of ", s)
				hurt := h.do(all, s)
				if x.mends && h.apt {
					checkRead(t, what, hurt, f)
					continue
				}
				at, e := h.spot(f, s)
				checkFails(t, what, hurt, f, at, e)
			}
		}
		if t.Failed() {
			return
		}
	}
}

// The same harms where the tapes' own order, and that of parity, is another one.
func TestEachHarmTheOtherWayRound(t *testing.T) {
	l, f := sample()
	slices.Reverse(l)
	for _, x := range settingsOfOne() {
		all := append(x.more(l), clones(l)...)
		for _, h := range harms() {
			s := spotsOf(f)[4]
			if x.mends && h.apt {
				checkRead(t, x.what+", "+h.what, h.do(all, s), f)
			} else {
				at, e := h.spot(f, s)
				checkFails(t, x.what+", "+h.what, h.do(all, s), f, at, e)
			}
		}
	}
}

// Of one and the same label the tapes behind the first one are nothing, be they what they may.
func TestTheFirstOfALabel(t *testing.T) {
	l, f := sample()
	for i, x := range l {
		for what, y := range map[string]api.Tape{"lost": lost(x), "blank": {Label: x.Label}, "rotted": turned(x, 3, 99), "the same": x} {
			what = fmt.Sprint(what, ", ", x.Label)
			checkRead(t, what+", behind", append(clones(l), y), f)
			checkRead(t, what+", behind it at once", slices.Insert(clones(l), i+1, y), f)
		}
	}
	// None of two is whole, and both together would be.
	s := spotsOf(f)[1]
	i := placeOf(l, s.Label)
	l = append(l, turned(l[i], spotsOf(f)[0].Block, 11))
	l[i] = turned(l[i], s.Block, 90)
	checkFails(t, "a whole block on the second one", l, f, s, api.ErrBad)
	l[i] = lost(l[i])
	checkFails(t, "a whole block on the second one, the first lost", l, f, firstOn(f, s.Label), api.ErrLost)
}

// The first block in the order in which the file is read, whatever the tapes' order.
func TestTheSpotOfSeveral(t *testing.T) {
	l, f := sample()
	spots := spotsOf(f)
	for mask := 1; mask < 1<<len(spots); mask++ {
		hurt := clones(l)
		want := api.Spot{}
		for k, s := range spots {
			if mask>>k&1 == 0 {
				continue
			}
			if want.Label == 0 {
				want = s
			}
			i := placeOf(hurt, s.Label)
			hurt[i] = turned(hurt[i], s.Block, 8*(k+20))
		}
		checkFails(t, fmt.Sprintf("blocks %b", mask), hurt, f, want, api.ErrBad)
		slices.Reverse(hurt)
		checkFails(t, fmt.Sprintf("blocks %b, tapes the other way round", mask), hurt, f, want, api.ErrBad)
	}
	// Parts that don't rise on their tape, nor with the tapes.
	g := f
	g.Parts = []api.Part{f.Parts[4], f.Parts[2], f.Parts[3], f.Parts[0], f.Parts[1]}
	hurt := clones(l)
	for _, s := range spots {
		i := placeOf(hurt, s.Label)
		hurt[i] = turned(hurt[i], s.Block, 300)
	}
	for k := range g.Parts {
		h := g
		h.Parts = g.Parts[k:]
		checkFails(t, fmt.Sprint("other orders, ", k), hurt, h, spotsOf(h)[0], api.ErrBad)
		checkFails(t, fmt.Sprint("other orders, ", k, ", no tapes"), nil, h, spotsOf(h)[0], api.ErrLost)
	}
}

// Of several that are gone in unlike ways the first one's error is told.
func TestTheErrorOfSeveral(t *testing.T) {
	l, f := sample()
	spots := spotsOf(f)
	for _, first := range harms() {
		for _, second := range harms() {
			// The second one's tape has no blocks of the file ahead of these.
			hurt := second.do(first.do(l, spots[2]), spots[7])
			at, e := first.spot(f, spots[2])
			checkFails(t, first.what+", then "+second.what, hurt, f, at, e)
		}
	}
	// What is gone is told ahead of a sum that is not the file's.
	f.Sum++
	for _, h := range harms() {
		at, e := h.spot(f, spots[5])
		checkFails(t, h.what+", and another sum", h.do(l, spots[5]), f, at, e)
	}
}

// firstOfRows are of each row the first block of the file.
func firstOfRows(f api.File) []api.Spot {
	var l []api.Spot
	for _, s := range spotsOf(f) {
		if !slices.ContainsFunc(l, func(x api.Spot) bool { return x.Block == s.Block }) {
			l = append(l, s)
		}
	}
	return l
}

// Some are mended, and the first that is not is told.
func TestSomeAreMended(t *testing.T) {
	l, f := sample()
	spots := spotsOf(f)
	p := parityOf(6, l, 60, 61)
	rotted := append(clones(l), p...)
	for _, s := range firstOfRows(f) {
		i := placeOf(rotted, s.Label)
		rotted[i] = turned(rotted[i], s.Block, 500)
	}
	checkRead(t, "one block of each row rotted", rotted, f)
	for _, s := range firstOfRows(f) {
		hurt := clones(rotted)
		for i := len(l); i < len(hurt); i++ {
			hurt[i] = turned(hurt[i], s.Block+1, 77)
		}
		what := fmt.Sprint("all mended but ", s)
		checkFails(t, what, hurt, f, s, api.ErrBad)
		i := placeOf(hurt, s.Label)
		checkFails(t, what+", the tape lost", swapped(hurt, i, lost(hurt[i])), f, s, api.ErrLost)
		checkFails(t, what+", no tape", without(hurt, s.Label), f, s, api.ErrLost)
	}
	// As many as there are of parity may be gone, and not one more.
	all := append(clones(l), p...)
	two := swapped(swapped(all, 0, lost(all[0])), 2, lost(all[2]))
	checkRead(t, "two lost", two, f)
	checkRead(t, "two not there", slices.Concat(all[1:2], all[3:]), f)
	checkFails(t, "three lost", swapped(two, 4, lost(two[4])), f, spots[0], api.ErrLost)
	checkFails(t, "three not there", all[3:], f, spots[0], api.ErrLost)
	// The one that is not lost is read from its tape, though the group can't mend.
	more, g := lay(l, "g", 44, piece{3, 70})
	checkRead(t, "a file on the tape that is left", append(more[3:], parityOf(6, more, 60, 61)...), g)
}

// checkMeaning holds Bytes against the meaning.
func checkMeaning(t *testing.T, what string, l []api.Tape, f api.File) {
	t.Helper()
	check(t, what, l, f, meaning(l, f))
}

// other is a block that a group may tell, and not the one that is asked for.
type other struct {
	what string
	b    func(s api.Spot, load []byte) []byte
}

func others() []other {
	l := []other{
		{"another tape's", func(s api.Spot, b []byte) []byte { return raw(api.FData, s.Label^4, s.Block, b) }},
		{"no tape's", func(s api.Spot, b []byte) []byte { return raw(api.FData, 0, s.Block, b) }},
		{"a greater number's", func(s api.Spot, b []byte) []byte { return raw(api.FData, s.Label, s.Block+1, b) }},
		{"a smaller number's", func(s api.Spot, b []byte) []byte { return raw(api.FData, s.Label, s.Block-1, b) }},
		{"bytes 0", func(s api.Spot, b []byte) []byte { return make([]byte, thin) }},
		{"some bytes", func(s api.Spot, b []byte) []byte { return filled(3, thin) }},
		{"another sum's", func(s api.Spot, b []byte) []byte {
			x := raw(api.FData, s.Label, s.Block, b)
			x[thin-1] ^= 1
			return x
		}},
		{"another byte behind the data", func(s api.Spot, b []byte) []byte {
			x := raw(api.FData, s.Label, s.Block, b[:len(b)-1])[:thin-4]
			x[thin-5] = 5
			return binary.BigEndian.AppendUint32(x, uint32(sumOf(x)))
		}},
		{"of a byte less", func(s api.Spot, b []byte) []byte { return raw(api.FData, s.Label, s.Block, b[:len(b)-1]) }},
		{"of a byte more, or of none", func(s api.Spot, b []byte) []byte { return raw(api.FData, s.Label, s.Block, filled(1, (len(b)+1)%65)) }},
	}
	for _, kind := range []int{0, api.FLabel, api.FHead, api.FMark, api.FSeal, 7, 255} {
		l = append(l, other{fmt.Sprint("of kind ", kind), func(s api.Spot, b []byte) []byte { return raw(kind, s.Label, s.Block, b) }})
	}
	return l
}

// What the group tells is no frame of data of that tape and number, and of that length: it is not taken.
func TestWhatMendsToAnother(t *testing.T) {
	l, f := sample()
	for _, s := range spotsOf(f) {
		for _, o := range others() {
			i := placeOf(l, s.Label)
			p := parityOf(2, frameInstead(o.b)(l, s), 60, 61)
			what := fmt.Sprint("mends to one ", o.what, ", ", s)
			rotted := append(swapped(l, i, turned(l[i], s.Block, 90)), p...)
			checkFails(t, what, rotted, f, s, api.ErrBad)
			checkFails(t, what+", the tape lost", append(swapped(l, i, lost(l[i])), p...), f, s, api.ErrLost)
			checkFails(t, what+", no tape", append(without(l, s.Label), p...), f, s, api.ErrLost)
			// The tape's own block is asked first.
			checkRead(t, what+", the tape whole", append(clones(l), p...), f)
			// A second group that tells it is not asked.
			checkFails(t, what+", and a second group", append(rotted, parityOf(3, l, 70)...), f, s, api.ErrBad)
			checkRead(t, what+", and a group ahead", append(rotted, parityOf(1, l, 70)...), f)
		}
	}
}

// What the group tells is taken if it is one of data in its place, be its bytes the file's or not.
func TestWhatMendsToOtherData(t *testing.T) {
	l, f := sample()
	for _, s := range spotsOf(f) {
		data := frameInstead(func(s api.Spot, b []byte) []byte { return raw(api.FData, s.Label, s.Block, filled(5, len(b))) })(l, s)
		i := placeOf(l, s.Label)
		hurt := append(swapped(l, i, turned(l[i], s.Block, 90)), parityOf(2, data, 60)...)
		checkFails(t, fmt.Sprint("mends to other data, ", s), hurt, f, headSpot(f), api.ErrBad)
		got := content(f)
		copy(got[offset(f, s):], filled(5, sizeOf(f, s)))
		g := f
		g.Sum = sumOf(got)
		check(t, fmt.Sprint("mends to other data, of another sum, ", s), hurt, g, told{b: got})
	}
}

// sizeOf is how many bytes of the file that block has.
func sizeOf(f api.File, s api.Spot) int {
	for _, p := range f.Parts {
		if i := s.Block - p.Block - 1; p.Label == s.Label && i >= 0 && i*most < p.Head.Len {
			return min(most, p.Head.Len-i*most)
		}
	}
	return 0
}

// offset is where the bytes of that block begin in the file.
func offset(f api.File, s api.Spot) int {
	at := 0
	for _, other := range spotsOf(f) {
		if other == s {
			break
		}
		at += sizeOf(f, other)
	}
	return at
}

// A file whose parts name blocks that no tape of the group ever had.
func TestWhatNoGroupTells(t *testing.T) {
	l, f := sample()
	all := append(clones(l), parityOf(9, l, 60, 61)...)
	rows := stripe.Len(l)
	for _, block := range []int{-5, -2, rows - 2, rows - 1, rows, rows + 1, 500, 1 << 40} {
		for i, x := range l {
			if block == rows-2 && len(x.Blocks) == rows {
				continue
			}
			g := f
			g.Parts = []api.Part{{Head: api.Head{Len: 64}, Label: x.Label, Block: block}}
			s := api.Spot{Label: x.Label, Block: block + 1}
			checkFails(t, fmt.Sprint("block ", block), all, g, s, api.ErrBad)
			checkFails(t, fmt.Sprint("block ", block, ", lost"), swapped(all, i, lost(x)), g, s, api.ErrLost)
		}
	}
	// A member of parity has no data that a group tells.
	g := f
	g.Parts = []api.Part{{Head: api.Head{Len: 64}, Label: 60, Block: 2}}
	checkFails(t, "on a tape of parity", all, g, api.Spot{Label: 60, Block: 3}, api.ErrBad)
	checkFails(t, "on a tape of parity that is lost", swapped(all, 4, lost(all[4])), g, api.Spot{Label: 60, Block: 3}, api.ErrLost)
	checkFails(t, "on a tape of parity that is not there", without(all, 60), g, api.Spot{Label: 60, Block: 3}, api.ErrLost)
}

// All blocks read well, and still they are not those of the file.
func TestOtherSums(t *testing.T) {
	for _, pieces := range [][]piece{{{0, 0}}, {{1, 1}}, {{2, 64}}, {{0, 65}}, {{2, 100}, {0, 70}}, {{1, 64}, {1, 64}, {0, 1}}} {
		l, f := lay(tapesOf(3), "f", 8, pieces...)
		checkRead(t, "the right sum", l, f)
		was := f.Sum
		for _, sum := range []int{was + 1, was - 1, was ^ 1<<31, was + 1<<32, was - 1<<32, was | math.MinInt, -was - 1, ^was, math.MaxInt, math.MinInt, sumOf([]byte("x"))} {
			f.Sum = sum
			checkFails(t, fmt.Sprint(pieces, ", sum ", sum, " for ", was), l, f, headSpot(f), api.ErrBad)
		}
	}
	l, f := sample()
	for _, s := range spotsOf(f) {
		hurt := frameInstead(func(s api.Spot, b []byte) []byte { return raw(api.FData, s.Label, s.Block, filled(6, len(b))) })(l, s)
		checkFails(t, fmt.Sprint("other data in ", s), hurt, f, headSpot(f), api.ErrBad)
		// A block that reads well is not mended.
		checkFails(t, fmt.Sprint("other data in ", s, ", and a group"), append(hurt, parityOf(3, l, 60, 61)...), f, headSpot(f), api.ErrBad)
	}
	// The first part's head, be that part where it may.
	for _, p := range []api.Part{{Label: 99, Block: 7}, {Label: -3, Block: -9}, {}, {Label: math.MinInt, Block: math.MaxInt}, {Head: api.Head{Len: -7}, Label: 1, Block: 4}} {
		g := f
		g.Parts = append([]api.Part{p}, f.Parts...)
		g.Sum--
		checkFails(t, fmt.Sprint("a first part of no bytes, ", p), l, g, api.Spot{Label: p.Label, Block: p.Block}, api.ErrBad)
	}
}

// What the catalog and the groups make goes with it.
func TestFilesOfACatalog(t *testing.T) {
	l, _ := sample()
	l, _ = lay(l, "none", 50, piece{1, 0})
	l, _ = lay(l, "more", 51, piece{3, 999}, piece{0, 500}, piece{1, 65})
	blank := []api.Tape{{Label: 80, Cap: 200}, {Label: 81, Cap: 200}, {Label: 82, Cap: 200}}
	p, e := group.Make(l, blank, 12)
	if e != api.OK {
		t.Fatalf("P1401: Make: error %d", e)
	}
	files := catalog.From(l)
	if len(files) != 5 {
		t.Fatalf("P1701: %d files", len(files))
	}
	all := slices.Concat(l, p)
	for _, f := range files {
		for mask := range 1 << len(all) {
			hurt := clones(all)
			count := 0
			for i := range hurt {
				if mask>>i&1 == 1 {
					hurt[i], count = lost(hurt[i]), count+1
				}
			}
			if count <= len(p) {
				checkRead(t, fmt.Sprintf("%s, lost %b", f.Path, mask), hurt, f)
			} else {
				checkMeaning(t, fmt.Sprintf("%s, lost %b", f.Path, mask), hurt, f)
			}
		}
	}
}

// chance makes numbers.
type chance uint32

func (c *chance) next(most int) int {
	*c = *c*1664525 + 1013904223
	return int(*c>>9) % most
}

// scene is a file on some tapes, with groups or without.
func (c *chance) scene() ([]api.Tape, api.File) {
	l := tapesOf(1 + c.next(6))
	var pieces []piece
	for range c.next(5) {
		pieces = append(pieces, piece{c.next(len(l)), 1 + c.next(200)})
	}
	l, f := lay(l, "f", 1+c.next(200), pieces...)
	data := len(l)
	for number := range c.next(3) {
		labels := []int{60 + 10*number, 61 + 10*number, 62 + 10*number}
		from := c.next(data)
		l = append(l, parityOf(9-number*c.next(9), l[from:data], labels[:1+c.next(3)]...)...)
	}
	return l, f
}

// hurt does some harm, of any kind, to the tapes and the file.
func (c *chance) hurt(l []api.Tape, f api.File) ([]api.Tape, api.File) {
	spots, ways := spotsOf(f), harms()
	for n := c.next(5); n > 0 && len(l) > 0; n-- {
		i := c.next(len(l))
		switch {
		case c.next(2) == 0 && len(spots) > 0:
			s := spots[c.next(len(spots))]
			if k := placeOf(l, s.Label); k >= 0 && s.Block < len(l[k].Blocks) && len(l[k].Blocks[s.Block]) >= thin {
				l = ways[c.next(len(ways))].do(l, s)
			}
		case c.next(3) == 0:
			l = swapped(l, i, lost(l[i]))
		case c.next(5) == 0:
			l = without(l, l[i].Label)
		case len(l[i].Blocks) > 0:
			l = swapped(l, i, instead(l[i], c.next(len(l[i].Blocks)), filled(1, c.next(100))))
		}
	}
	if c.next(10) == 0 {
		f.Sum += c.next(3) - 1
	}
	if c.next(4) == 0 {
		slices.Reverse(l)
	}
	return l, f
}

// Tapes, groups, files and harm of any kind: what is answered is what the words say.
func TestAnything(t *testing.T) {
	c := chance(1901)
	count := make(map[api.Errno]int)
	for round := range 4000 {
		l, f := c.scene()
		l, f = c.hurt(l, f)
		want := meaning(l, f)
		count[want.e]++
		check(t, fmt.Sprint("round ", round), l, f, want)
		if t.Failed() {
			return
		}
	}
	if count[api.OK] < 400 || count[api.ErrBad] < 400 || count[api.ErrLost] < 400 {
		t.Errorf("the tests are of one kind: %v", count)
	}
}

// ask is a call.
type ask struct {
	what string
	l    []api.Tape
	f    api.File
}

func asks() []ask {
	l, f := sample()
	spots := spotsOf(f)
	mended := append(clones(l), parityOf(3, l, 60, 61)...)
	dull := append(clones(l), dulled(parityOf(3, l, 60, 61))...)
	other := f
	other.Sum++
	gone := f
	gone.Gone = true
	out := []ask{
		{"nothing", nil, api.File{}},
		{"no tapes", nil, f},
		{"a file", l, f},
		{"a file, with a group", mended, f},
		{"another sum", l, other},
		{"another sum of no parts", l, api.File{Sum: 4}},
		{"a file that is gone", l, gone},
		{"two lost", append([]api.Tape{lost(l[0]), lost(l[1])}, mended[2:]...), f},
		{"two not there", append(clones(mended[1:2]), mended[3:]...), f},
		{"three lost", append([]api.Tape{lost(l[0]), lost(l[1]), lost(l[2])}, mended[3:]...), f},
	}
	for i, h := range harms() {
		s := spots[i%len(spots)]
		out = append(out, ask{h.what, h.do(l, s), f}, ask{h.what + ", with a group", h.do(mended, s), f}, ask{h.what + ", with one that can't", h.do(dull, s), f})
	}
	return out
}

// guarded is the same ask in memory that has spare room, all of it filled: tapes, blocks, bytes and parts.
func guarded(x ask) ask {
	l := make([]api.Tape, 0, len(x.l)+6)
	for _, y := range x.l {
		blocks := make([][]byte, 0, len(y.Blocks)+2)
		for _, b := range y.Blocks {
			blocks = append(blocks, slices.Concat(b, filled(1, 94))[:len(b)])
		}
		y.Blocks = append(blocks, filled(2, thin), filled(3, thin))[:len(blocks)]
		l = append(l, y)
	}
	for _, label := range labels() {
		l = append(l, begun(label))
	}
	x.l = l[:len(x.l)]
	parts := slices.Concat(x.f.Parts, []api.Part{{Head: api.Head{Len: 5}, Label: 4, Block: 3}, {Label: 7}})
	x.f.Parts = parts[:len(x.f.Parts)]
	return x
}

// whole is all that is handed in, its spare room too, in memory of its own.
func (x ask) whole() ask {
	var l []api.Tape
	for _, y := range x.l[:cap(x.l)] {
		y.Blocks = slices.Clone(y.Blocks[:cap(y.Blocks)])
		for i, b := range y.Blocks {
			y.Blocks[i] = bytes.Clone(b[:cap(b)])
		}
		l = append(l, y)
	}
	x.l = l
	x.f.Parts = slices.Clone(x.f.Parts[:cap(x.f.Parts)])
	return x
}

func (x ask) sameWhole(was ask) bool {
	now := x.whole()
	return slices.EqualFunc(now.l, was.l, sameTape) && slices.Equal(now.f.Parts, was.f.Parts)
}

func turn(b []byte) {
	for i := range b[:cap(b)] {
		b[:cap(b)][i] ^= 0xff
	}
}

func (a told) copied() told {
	a.b = bytes.Clone(a.b)
	return a
}

func TestWhatIsHandedInStays(t *testing.T) {
	for _, x := range asks() {
		y := guarded(x)
		was := y.whole()
		got := tell(y.l, y.f)
		if !y.sameWhole(was) {
			t.Errorf("P1902: %s: what was handed in has changed", x.what)
		}
		// Only now is it asked without spare room: a call that turns what it is handed would else have done so ahead of the copy.
		if !got.same(tell(x.l, x.f)) {
			t.Errorf("P1902: %s: an answer hangs on spare room", x.what)
		}
		turn(got.b)
		if !y.sameWhole(was) {
			t.Errorf("P1902: %s: an answer shares memory with what was handed in", x.what)
		}
	}
}

// Who owns what was handed in turns it: no answer is turned by that, and none comes from what was.
func TestWhatIsHandedInIsNotKept(t *testing.T) {
	for _, x := range asks() {
		y := guarded(x)
		got := tell(y.l, y.f)
		was := got.copied()
		for i := range y.l {
			for _, b := range y.l[i].Blocks {
				turn(b)
			}
			y.l[i] = api.Tape{}
		}
		if again := tell(y.l, y.f); !again.same(meaning(y.l, y.f)) || again.e == api.OK && len(y.f.Parts) > 0 {
			t.Errorf("P1902: %s: of tapes that are none by now something is told: %s", x.what, again.short())
		}
		clear(y.f.Parts)
		if again := tell(y.l, y.f); !again.same(meaning(y.l, y.f)) {
			t.Errorf("P1902: %s: of parts that are none by now something is told: %s", x.what, again.short())
		}
		if !got.same(was) || !tell(x.l, x.f).same(was) {
			t.Errorf("P1902: %s: what was handed in is kept", x.what)
		}
	}
}

func TestAnswersAreNewMemory(t *testing.T) {
	for _, x := range asks() {
		first, second := tell(x.l, x.f), tell(x.l, x.f)
		want := first.copied()
		turn(first.b)
		if !second.same(want) || !tell(x.l, x.f).same(want) {
			t.Errorf("P1902: %s: two answers share memory", x.what)
		}
	}
}

func everything(l []ask) []told {
	var out []told
	for _, x := range l {
		out = append(out, tell(x.l, x.f))
	}
	return out
}

func TestAnswersHangOnArgumentsAlone(t *testing.T) {
	l := asks()
	first := everything(l)
	if !slices.EqualFunc(everything(l), first, told.same) {
		t.Error("P1902: the same calls once more answer otherwise")
	}
	slices.Reverse(l)
	backwards := everything(l)
	slices.Reverse(backwards)
	if !slices.EqualFunc(backwards, first, told.same) {
		t.Error("P1902: the same calls in another order answer otherwise")
	}
}

// All of them ask the same, beside each other.
func TestAnswersBesideOneAnother(t *testing.T) {
	l := asks()
	first := everything(l)
	var alike [4]bool
	var workers sync.WaitGroup
	for i := range alike {
		workers.Go(func() { alike[i] = slices.EqualFunc(everything(l), first, told.same) })
	}
	workers.Wait()
	for i, ok := range alike {
		if !ok {
			t.Errorf("P1902: worker %d was answered otherwise", i)
		}
	}
}
