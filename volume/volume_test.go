package volume_test

import (
	"bytes"
	"encoding/binary"
	"fmt"
	"hash/crc32"
	"math"
	"slices"
	"strings"
	"sync"
	"testing"

	"cartridge/api"
	"cartridge/volume"
)

const (
	label    = 5         // of the tests' tapes, where it does not matter
	greatest = 1<<31 - 1 // that a label or a number may be
)

func TestTheLimits(t *testing.T) {
	if api.Load != 64 || api.Frame != 79 || api.Wide != 94 || api.MaxFile != 4000 {
		t.Error("the numbers of package api are others")
	}
}

// filled makes bytes that hang on seed alone.
func filled(seed, size int) []byte {
	b := make([]byte, size)
	for i := range b {
		b[i] = byte((i*7+seed*31)%255) + 1
	}
	return b
}

// appendNumbers lays the low 4 bytes of each behind b.
func appendNumbers(b []byte, l ...int) []byte {
	for _, n := range l {
		b = binary.BigEndian.AppendUint32(b, uint32(n))
	}
	return b
}

// raw lays a block by the rule of chapter 9, whether frame.Put would or not.
func raw(kind, label, number int, load []byte) []byte {
	room := 64
	if kind == api.FParity {
		room = 79
	}
	b := appendNumbers([]byte{byte(kind)}, label, number)
	b = binary.BigEndian.AppendUint16(b, uint16(len(load)))
	b = append(b, load...)
	b = append(b, make([]byte, max(room-len(load), 0))...)
	return binary.BigEndian.AppendUint32(b, crc32.Checksum(b, crc32.MakeTable(crc32.Castagnoli)))
}

// unitOf reads a block by other means; false: it is none.
func unitOf(b []byte) (api.Unit, bool) {
	if len(b) < 15 {
		return api.Unit{}, false
	}
	size := int(binary.BigEndian.Uint16(b[9:]))
	u := api.Unit{Kind: int(b[0]), Label: int(binary.BigEndian.Uint32(b[1:])), Number: int(binary.BigEndian.Uint32(b[5:])), Load: b[11:min(11+size, len(b)-4)]}
	if u.Kind < api.FLabel || u.Kind > api.FParity || u.Label < 1 || u.Label > greatest || u.Number > greatest || len(u.Load) != size {
		return api.Unit{}, false
	}
	return u, bytes.Equal(raw(u.Kind, u.Label, u.Number, u.Load), b)
}

// headBytes lays a head's bytes by the rule of chapter 10, be it right or not.
func headBytes(h api.Head) []byte {
	b := append([]byte{byte(len(h.Path))}, h.Path...)
	b = appendNumbers(b, h.Version, h.Size, h.From, h.Len, h.Serial, h.Sum)
	if h.Gone {
		return append(b, 1)
	}
	return append(b, 0)
}

// sealBytes lays a seal's bytes by the rule of chapter 10, be it right or not.
func sealBytes(s api.Seal) []byte {
	b := append(appendNumbers(nil, s.Number), byte(s.Index), byte(s.Data), byte(s.Parity))
	return appendNumbers(b, s.Labels...)
}

// whole is the head of a file that is one part of so many bytes.
func whole(path string, size int) api.Head {
	return api.Head{Path: path, Version: 2, Size: size, Len: size, Serial: 3 + size, Sum: 7 * size}
}

// piece is the head of a part of a greater file.
func piece(path string, from, length int) api.Head {
	return api.Head{Path: path, Version: 1, Size: api.MaxFile, From: from, Len: length, Serial: 9, Sum: 1<<32 - 1}
}

func gone(path string) api.Head {
	return api.Head{Path: path, Version: 4, Serial: 5, Gone: true}
}

func seal() api.Seal {
	return api.Seal{Number: 3, Index: 1, Data: 2, Parity: 1, Labels: []int{4, label, 6}}
}

// heads are right: of each Len that chapter 11 cares for.
func heads() []api.Head {
	l := []api.Head{gone("g"), {Path: strings.Repeat("p/q-", 5) + "._z9", Version: 1 << 30, Size: 4000, From: 1, Len: 3999, Serial: 1 << 30, Sum: 1<<32 - 1}}
	for _, n := range []int{0, 1, 2, 63, 64, 65, 127, 128, 129, 200, 3968, 3969, 3999, 4000} {
		l = append(l, whole("w", n))
		if n > 0 {
			l = append(l, piece("a/b", api.MaxFile-n, n), piece("a/c", 0, n))
		}
	}
	return l
}

// wrongHeads have one fault each; a Len that a caller could have bytes for, where it can be.
func wrongHeads() []api.Head {
	var l []api.Head
	add := func(change func(h *api.Head)) {
		h := whole("w", 10)
		change(&h)
		l = append(l, h)
	}
	for _, path := range []string{"", "/", "a//b", ".", "..", "A", strings.Repeat("a", 25)} {
		add(func(h *api.Head) { h.Path = path })
	}
	for _, n := range []int{math.MinInt, -1, 0, 1<<30 + 1, math.MaxInt} {
		add(func(h *api.Head) { h.Version = n })
		add(func(h *api.Head) { h.Serial = n })
	}
	for _, n := range []int{math.MinInt, -1, 0, 9, 4001, 1 << 32, math.MaxInt} {
		add(func(h *api.Head) { h.Size = n })
	}
	for _, n := range []int{math.MinInt, -1, 1, 10, math.MaxInt} {
		add(func(h *api.Head) { h.From = n })
	}
	for _, n := range []int{math.MinInt, -1, 0, 11, 4001, math.MaxInt} {
		add(func(h *api.Head) { h.Len = n })
	}
	for _, n := range []int{math.MinInt, -1, 1 << 32, math.MaxInt} {
		add(func(h *api.Head) { h.Sum = n })
	}
	add(func(h *api.Head) { h.Gone = true })
	add(func(h *api.Head) { *h = gone("g"); h.Sum = 1 })
	add(func(h *api.Head) { h.Size, h.Len = 4001, 4001 })
	return append(l, api.Head{})
}

// bytesOf are such that a part of that head could have them.
func bytesOf(h api.Head) []byte {
	return filled(h.Len, h.Len)
}

// partBlocks lays the blocks of a part by the chapter's rule.
func partBlocks(label, at int, h api.Head, b []byte) [][]byte {
	l := [][]byte{raw(api.FHead, label, at, headBytes(h))}
	for len(b) > 0 {
		n := min(len(b), 64)
		l = append(l, raw(api.FData, label, at+len(l), b[:n]))
		b = b[n:]
	}
	return append(l, raw(api.FMark, label, at+len(l), nil))
}

// begun is a tape with its label alone.
func begun() api.Tape {
	return api.Tape{Label: label, Cap: 64, Blocks: [][]byte{raw(api.FLabel, label, 0, []byte("D"))}}
}

// with answers a tape that has one block more, which is good.
func with(x api.Tape, kind int, load []byte) api.Tape {
	return withRaw(x, raw(kind, x.Label, len(x.Blocks), load))
}

// withRaw answers a tape that has these blocks more, as they are.
func withRaw(x api.Tape, l ...[]byte) api.Tape {
	x = clone(x)
	x.Blocks = append(x.Blocks, l...)
	return x
}

// withPart answers a tape that has a part more.
func withPart(x api.Tape, h api.Head) api.Tape {
	return withRaw(x, partBlocks(x.Label, len(x.Blocks), h, bytesOf(h))...)
}

// instead answers a tape of which block n is another one.
func instead(x api.Tape, n int, b []byte) api.Tape {
	x = clone(x)
	x.Blocks[n] = b
	return x
}

// rotted answers a tape of which block n has rotted.
func rotted(x api.Tape, n int) api.Tape {
	b := bytes.Clone(x.Blocks[n])
	b[len(b)/2] ^= 0x10
	return instead(x, n, b)
}

// cut answers the first n blocks of a tape.
func cut(x api.Tape, n int) api.Tape {
	x = clone(x)
	x.Blocks = x.Blocks[:n]
	return x
}

func lost(x api.Tape) api.Tape {
	x.Lost = true
	return x
}

func clone(x api.Tape) api.Tape {
	l := make([][]byte, len(x.Blocks))
	for i, b := range x.Blocks {
		l[i] = bytes.Clone(b)
	}
	x.Blocks = l
	return x
}

func kinds() []int {
	return []int{api.FLabel, api.FHead, api.FData, api.FMark, api.FSeal, api.FParity}
}

// farNumbers are not those of a block.
func farNumbers() []int {
	return []int{math.MinInt, math.MinInt + 1, -1 << 32, -1 << 31, -64, -2, -1, 1 << 31, 1 << 32, 1<<32 + 1, 1 << 40, math.MaxInt - 1, math.MaxInt}
}

func isNone(u api.Unit) bool {
	return u.Kind == 0 && u.Label == 0 && u.Number == 0 && len(u.Load) == 0
}

func sameSeal(a, b api.Seal) bool {
	return a.Number == b.Number && a.Index == b.Index && a.Data == b.Data && a.Parity == b.Parity && slices.Equal(a.Labels, b.Labels)
}

func sameRows(a, b [][]byte) bool {
	return slices.EqualFunc(a, b, bytes.Equal)
}

func checkGood(t *testing.T, x api.Tape, n, kind int, load []byte, what string) {
	t.Helper()
	if u, ok := volume.Good(x, n); !ok || u.Kind != kind || u.Label != x.Label || u.Number != n || !bytes.Equal(u.Load, load) {
		t.Errorf("P1101: Good(%d) of %s: %v, %v", n, what, u, ok)
	}
}

func checkNotGood(t *testing.T, x api.Tape, n int, what string) {
	t.Helper()
	if u, ok := volume.Good(x, n); ok || !isNone(u) {
		t.Errorf("P1101: Good(%d) of %s: %v, %v", n, what, u, ok)
	}
}

// checkNoBlocks asks for blocks that a tape of so many doesn't have.
func checkNoBlocks(t *testing.T, x api.Tape, what string) {
	t.Helper()
	for _, n := range append(farNumbers(), len(x.Blocks), len(x.Blocks)+1, len(x.Blocks)+64, len(x.Blocks)+1<<8, len(x.Blocks)+1<<32) {
		checkNotGood(t, x, n, what)
	}
}

// ofEachKind is a tape of a block of each kind, and their Loads.
func ofEachKind() (x api.Tape, loads [][]byte) {
	x = api.Tape{Label: label, Cap: 64}
	for i, kind := range kinds() {
		load := filled(i, []int{1, 50, 64, 0, 63, 79}[i])
		loads = append(loads, load)
		x = with(x, kind, load)
	}
	return x, loads
}

func TestGood(t *testing.T) {
	x, loads := ofEachKind()
	for n, kind := range kinds() {
		checkGood(t, x, n, kind, loads[n], "a tape of each kind")
	}
	checkNoBlocks(t, x, "a tape of each kind")
	checkNoBlocks(t, begun(), "a tape with its label")
	checkNoBlocks(t, api.Tape{Label: label, Cap: 64}, "a blank tape")
	checkNoBlocks(t, api.Tape{}, "no tape")
	for _, most := range []int{math.MinInt, -1, 0, 1, 6, 1 << 40, math.MaxInt} {
		x.Cap = most
		checkGood(t, x, 0, api.FLabel, loads[0], fmt.Sprintf("a tape of Cap %d", most))
		checkGood(t, x, 5, api.FParity, loads[5], fmt.Sprintf("a tape of Cap %d", most))
	}
	long := begun()
	for n := 1; n < 300; n++ {
		long.Blocks = append(long.Blocks, raw(api.FData, label, n, filled(n, n%65)))
	}
	for n := 1; n < 300; n++ {
		checkGood(t, long, n, api.FData, filled(n, n%65), "a long tape")
	}
	checkNoBlocks(t, long, "a long tape")
}

func TestGoodOfALostTape(t *testing.T) {
	x, _ := ofEachKind()
	for n := range x.Blocks {
		checkNotGood(t, lost(x), n, "a tape that is Lost")
	}
	checkNoBlocks(t, lost(x), "a tape that is Lost")
	checkNoBlocks(t, api.Tape{Label: label, Lost: true}, "a blank tape that is Lost")
}

// Blocks that frame.Get refuses: the others of their tape are good still.
func TestGoodOfBadBlocks(t *testing.T) {
	x, loads := ofEachKind()
	for n, b := range x.Blocks {
		bad := [][]byte{nil, {}, {byte(n)}, make([]byte, 79), make([]byte, 94), bytes.Repeat([]byte{255}, 79), append(bytes.Clone(b), 0), b[1:], make([]byte, 1<<16)}
		for size := range b {
			bad = append(bad, b[:size])
		}
		for i := range len(b) * 8 {
			turned := bytes.Clone(b)
			turned[i/8] ^= 1 << (i % 8)
			bad = append(bad, turned)
		}
		for _, kind := range []int{0, 7, 8, 255} {
			bad = append(bad, raw(kind, label, n, []byte("x")))
		}
		bad = append(bad, raw(api.FData, label, n, make([]byte, 65)), raw(api.FParity, label, n, make([]byte, 80)), raw(api.FParity, label, n, nil)[:79])
		for i, b := range bad {
			y := instead(x, n, b)
			checkNotGood(t, y, n, fmt.Sprintf("a bad block, %d", i))
			other := (n + 1) % 6
			checkGood(t, y, other, kinds()[other], loads[other], "a tape with a bad block")
		}
	}
}

// Blocks that say another tape, or are on another one.
func TestGoodOfAnotherLabel(t *testing.T) {
	for _, says := range []int{1, 2, 255, 256, 1 << 24, greatest - 1, greatest} {
		x := api.Tape{Label: says, Cap: 9}
		x = with(with(x, api.FLabel, []byte("D")), api.FData, []byte("x"))
		checkGood(t, x, 0, api.FLabel, []byte("D"), "a tape of any label")
		checkGood(t, x, 1, api.FData, []byte("x"), "a tape of any label")
		for _, other := range []int{math.MinInt, -says, -1, 0, says - 1, says + 1, says ^ 256, says + 1<<31, says + 1<<32, says - 1<<32, says + 1<<40, math.MaxInt} {
			x.Label = other
			checkNotGood(t, x, 0, fmt.Sprintf("a tape of label %d, with blocks of %d", other, says))
			checkNotGood(t, x, 1, fmt.Sprintf("a tape of label %d, with blocks of %d", other, says))
		}
	}
	// labels that no block can say: what says them by its bytes is no block
	for _, says := range []int{0, -1, math.MinInt, 1 << 31, 1<<32 - 1, 1 << 32, 1<<32 + 5, math.MaxInt} {
		x := api.Tape{Label: says, Cap: 9}
		checkNotGood(t, with(x, api.FLabel, []byte("D")), 0, fmt.Sprintf("a tape of label %d", says))
	}
}

// Blocks that are not in their place.
func TestGoodOfAnotherNumber(t *testing.T) {
	for n := range 8 {
		for _, number := range []int{0, 1, 2, 3, 4, 5, 6, 7, 8, n + 1, n + 256, n + 1<<16, n + 1<<24, greatest, n + 1<<31, 1<<32 - 1} {
			x := begun()
			for len(x.Blocks) < 8 {
				x = with(x, api.FData, []byte("x"))
			}
			x = instead(x, n, raw(api.FMark, label, number, []byte("y")))
			if number == n {
				checkGood(t, x, n, api.FMark, []byte("y"), "a tape")
			} else {
				checkNotGood(t, x, n, fmt.Sprintf("a block of number %d", number))
			}
		}
	}
}

// partsOf reads the parts of a tape by other means: it looks from the end on which block would be asked next from each.
func partsOf(x api.Tape) []api.Part {
	if x.Lost || len(x.Blocks) == 0 {
		return nil
	}
	next := make([]int, len(x.Blocks))
	found := make(map[int]api.Part)
	for n, b := range x.Blocks {
		next[n] = n + 1
		u, ok := unitOf(b)
		if !ok || u.Label != x.Label || u.Number != n || u.Kind != api.FHead {
			continue
		}
		i := slices.IndexFunc(heads(), func(h api.Head) bool { return bytes.Equal(headBytes(h), u.Load) })
		if i < 0 {
			continue
		}
		h := heads()[i]
		if end := n + len(partBlocks(1, 0, h, bytesOf(h))); end <= len(x.Blocks) {
			next[n] = end
			found[n] = api.Part{Head: h, Label: x.Label, Block: n}
		}
	}
	var l []api.Part
	for n := 1; n < len(x.Blocks); n = next[n] {
		if p, ok := found[n]; ok {
			l = append(l, p)
		}
	}
	return l
}

// keepOf likewise.
func keepOf(x api.Tape) int {
	if l := partsOf(x); len(l) > 0 {
		p := l[len(l)-1]
		return p.Block + len(partBlocks(1, 0, p.Head, bytesOf(p.Head)))
	}
	if len(x.Blocks) == 0 || x.Lost {
		return 0
	}
	if u, ok := unitOf(x.Blocks[0]); !ok || u.Label != x.Label || u.Number != 0 {
		return 0
	}
	return 1
}

// lies is a tape, the parts that lie there, and what Keep tells of it; Keep 0: no part has a block of it, so it hangs on block 0 alone.
type lies struct {
	what  string
	tape  api.Tape
	parts []api.Part
	keep  int
}

func at(n int, h api.Head) api.Part {
	return api.Part{Head: h, Label: label, Block: n}
}

// rightTapes are such as the program writes them.
func rightTapes() []lies {
	a, b, c, d := whole("a", 100), piece("b", 36, 64), whole("c", 0), gone("d")
	l := []lies{
		{"its label alone", begun(), nil, 0},
		{"a part", withPart(begun(), a), []api.Part{at(1, a)}, 5},
		{"parts one behind the other", withPart(withPart(withPart(withPart(begun(), a), b), c), d), []api.Part{at(1, a), at(5, b), at(8, c), at(10, d)}, 12},
		{"the same part twice", withPart(withPart(begun(), b), b), []api.Part{at(1, b), at(4, b)}, 7},
	}
	for _, h := range heads() {
		x := withPart(begun(), h)
		l = append(l, lies{fmt.Sprintf("a part of %d bytes", h.Len), x, []api.Part{at(1, h)}, len(x.Blocks)})
		end := len(x.Blocks)
		l = append(l, lies{fmt.Sprintf("a part behind one of %d bytes", h.Len), withPart(x, b), []api.Part{at(1, h), at(end, b)}, end + 3})
	}
	return l
}

// cutTapes are of parts of which not all is there.
func cutTapes() []lies {
	a, b, c := whole("a", 100), piece("b", 36, 64), whole("c", 4000)
	x := withPart(withPart(begun(), a), b)
	long := with(begun(), api.FHead, headBytes(c))
	l := []lies{
		{"a part whose mark is missing", cut(x, 4), nil, 0},
		{"a part whose mark and last data are missing", cut(x, 3), nil, 0},
		{"a head alone", cut(x, 2), nil, 0},
		{"a head of no bytes alone", with(begun(), api.FHead, headBytes(gone("g"))), nil, 0},
		{"a second part whose mark is missing", cut(x, 7), []api.Part{at(1, a)}, 5},
		{"a second part's head alone", cut(x, 6), []api.Part{at(1, a)}, 5},
		{"a part within one that is not all there", withPart(long, b), []api.Part{at(2, b)}, 5},
		{"a part behind a head whose part takes one block more", withPart(with(begun(), api.FHead, headBytes(whole("e", 65))), piece("f", 0, 1)), []api.Part{at(1, whole("e", 65))}, 5},
		{"a part behind a head whose part is not all there by one block", withPart(with(begun(), api.FHead, headBytes(whole("w", 129))), piece("a/c", 0, 1)), []api.Part{at(2, piece("a/c", 0, 1))}, 5},
	}
	for n := range 64 {
		y := withPart(begun(), c)
		l = append(l, lies{fmt.Sprintf("a part of 4000 bytes, cut to %d blocks", n+1), cut(y, n+1), nil, 0})
	}
	return l
}

// rottedTapes are of blocks that have rotted, or are other ones.
func rottedTapes() []lies {
	a, b := whole("a", 100), piece("b", 36, 64)
	x := withPart(withPart(begun(), a), b)
	both, second := []api.Part{at(1, a), at(5, b)}, []api.Part{at(5, b)}
	l := []lies{
		{"a head that has rotted", rotted(x, 1), second, 8},
		{"a second head that has rotted", rotted(x, 5), []api.Part{at(1, a)}, 5},
		{"heads that have rotted", rotted(rotted(x, 1), 5), nil, 0},
		{"all data and marks rotted", rotted(rotted(rotted(rotted(rotted(x, 2), 3), 4), 6), 7), both, 8},
	}
	for _, n := range []int{2, 3, 4, 6, 7} {
		for i, b := range [][]byte{nil, {}, {1}, make([]byte, 79), x.Blocks[n][:78], raw(api.FData, 6, n, []byte("x")), raw(api.FData, label, n+1, []byte("x")), raw(api.FSeal, label, n, sealBytes(seal())), raw(api.FMark, label, n, nil), raw(api.FHead, label, n, headBytes(gone("g")))} {
			l = append(l, lies{fmt.Sprintf("data or mark %d another one, %d", n, i), instead(x, n, b), both, 8})
		}
		l = append(l, lies{fmt.Sprintf("data or mark %d rotted", n), rotted(x, n), both, 8})
	}
	for i, b := range [][]byte{nil, {}, {1}, x.Blocks[1][:78], append(bytes.Clone(x.Blocks[1]), 0), raw(api.FHead, 6, 1, headBytes(a)), raw(api.FHead, label, 2, headBytes(a)), raw(api.FHead, label, 0, headBytes(a))} {
		l = append(l, lies{fmt.Sprintf("a head that is not good, %d", i), instead(x, 1, b), second, 8})
	}
	for _, kind := range kinds() {
		if kind != api.FHead {
			l = append(l, lies{fmt.Sprintf("a head in a frame of kind %d", kind), instead(x, 1, raw(kind, label, 1, headBytes(a))), second, 8})
		}
	}
	return l
}

// tapesOfNoHeads have FHead frames whose Load is no head.
func tapesOfNoHeads() []lies {
	a, b := whole("a", 100), piece("b", 36, 64)
	right := headBytes(a)
	loads := [][]byte{nil, {0}, []byte("none"), right[:len(right)-1], right[1:], append(bytes.Clone(right), 0), append(bytes.Clone(right[:len(right)-1]), 2), make([]byte, 64), sealBytes(seal()), filled(3, 64)}
	for _, h := range wrongHeads() {
		if fits(h) {
			loads = append(loads, headBytes(h))
		}
	}
	var l []lies
	for i, load := range loads {
		x := with(begun(), api.FHead, load)
		l = append(l, lies{fmt.Sprintf("no head, %d", i), x, nil, 0},
			lies{fmt.Sprintf("no head and 70 blocks, %d", i), many(x, 70), nil, 0},
			lies{fmt.Sprintf("no head, and a part behind it, %d", i), withPart(x, b), []api.Part{at(2, b)}, 5},
			lies{fmt.Sprintf("no head, behind a part, %d", i), with(withPart(begun(), b), api.FHead, load), []api.Part{at(1, b)}, 4})
	}
	return l
}

// fits tells whether all numbers of h can stand in 4 bytes each: the low bytes of greater ones may be those of a head that is right.
func fits(h api.Head) bool {
	return !slices.ContainsFunc([]int{h.Version, h.Size, h.From, h.Len, h.Serial, h.Sum}, func(n int) bool { return n < 0 || n > 1<<32-1 })
}

// many answers a tape that has so many blocks more, of data.
func many(x api.Tape, n int) api.Tape {
	for range n {
		x = with(x, api.FData, []byte("x"))
	}
	return x
}

// strangeTapes have blocks that are of no part, parts behind such, and parts within parts.
func strangeTapes() []lies {
	a, b, g := whole("a", 100), piece("b", 36, 64), gone("g")
	x := withPart(begun(), b)
	parted := with(with(begun(), api.FData, []byte("x")), api.FMark, nil)
	inner := withPart(with(begun(), api.FHead, headBytes(whole("o", 200))), g)
	inner = with(with(with(inner, api.FData, filled(1, 64)), api.FData, filled(1, 8)), api.FMark, nil)
	l := []lies{
		{"a part, and data behind", many(x, 5), []api.Part{at(1, b)}, 4},
		{"a part, and a seal behind", with(x, api.FSeal, sealBytes(seal())), []api.Part{at(1, b)}, 4},
		{"a part, and what is no block behind", withRaw(x, nil, []byte{1}, make([]byte, 79), filled(1, 94)), []api.Part{at(1, b)}, 4},
		{"a part, and a mark behind", with(x, api.FMark, nil), []api.Part{at(1, b)}, 4},
		{"a part, a mark, and a part", withPart(with(x, api.FMark, nil), a), []api.Part{at(1, b), at(5, a)}, 9},
		{"a part behind data and a mark", withPart(parted, a), []api.Part{at(3, a)}, 7},
		{"a part behind what is no block", withPart(withRaw(begun(), nil, []byte{1}, make([]byte, 79)), g), []api.Part{at(4, g)}, 6},
		{"data and marks", many(parted, 3), nil, 0},
		{"parity", with(with(begun(), api.FParity, make([]byte, 79)), api.FParity, raw(api.FHead, label, 2, headBytes(g))), nil, 0},
		{"a part whose blocks are those of another", inner, []api.Part{at(1, whole("o", 200))}, 7},
		{"a part within one whose head has rotted", rotted(inner, 1), []api.Part{at(2, g)}, 4},
		{"a seal alone", with(begun(), api.FSeal, sealBytes(seal())), nil, 0},
		{"many blocks, and a part behind", withPart(many(begun(), 200), a), []api.Part{at(201, a)}, 205},
	}
	for _, most := range []int{math.MinInt, -1, 0, 1, 4, math.MaxInt} {
		y := withPart(withPart(begun(), a), b)
		y.Cap = most
		l = append(l, lies{fmt.Sprintf("parts, Cap %d", most), y, []api.Part{at(1, a), at(5, b)}, 8})
	}
	return l
}

func allTapes() []lies {
	return slices.Concat(rightTapes(), cutTapes(), rottedTapes(), tapesOfNoHeads(), strangeTapes())
}

func checkParts(t *testing.T, what string, x api.Tape, parts []api.Part, keep int) {
	t.Helper()
	if l := volume.Parts(x); !slices.Equal(l, parts) {
		t.Errorf("P1101: Parts of %s: %v, not %v", what, l, parts)
	}
	if n := volume.Keep(x); n != keep {
		t.Errorf("P1101: Keep of %s: %d, not %d", what, n, keep)
	}
}

// What lies on a tape hangs on block 0 nowhere; how much of it is kept, where no part lies.
func TestPartsAndKeep(t *testing.T) {
	for _, x := range allTapes() {
		keep := max(x.keep, 1)
		checkParts(t, x.what, x.tape, x.parts, keep)
		for _, kind := range kinds() {
			checkParts(t, fmt.Sprintf("%s, block 0 of kind %d", x.what, kind), instead(x.tape, 0, raw(kind, label, 0, []byte("P"))), x.parts, keep)
		}
		checkParts(t, x.what+", block 0 a seal", instead(x.tape, 0, raw(api.FSeal, label, 0, sealBytes(seal()))), x.parts, keep)
		for i, b := range [][]byte{nil, {}, {1}, x.tape.Blocks[0][:78], make([]byte, 79), raw(api.FLabel, 6, 0, []byte("D")), raw(api.FLabel, label, 1, []byte("D"))} {
			checkParts(t, fmt.Sprintf("%s, block 0 not good, %d", x.what, i), instead(x.tape, 0, b), x.parts, x.keep)
		}
		checkParts(t, x.what+", block 0 rotted", rotted(x.tape, 0), x.parts, x.keep)
		checkParts(t, x.what+", Lost", lost(x.tape), nil, 0)
	}
}

func TestPartsOfABlankTape(t *testing.T) {
	for _, x := range []api.Tape{{}, {Label: label}, {Label: label, Cap: 64}, {Label: label, Cap: 64, Blocks: [][]byte{}}, {Label: label, Cap: 64, Lost: true}} {
		checkParts(t, "a blank tape", x, nil, 0)
	}
	x := begun()
	x.Label = 6
	checkParts(t, "another tape's label alone", x, nil, 0)
	x = withPart(begun(), whole("a", 100))
	x.Label = 6
	checkParts(t, "another tape's blocks", x, nil, 0)
	x.Label += 1<<32 - 1
	checkParts(t, "another tape's blocks, far", x, nil, 0)
}

// A part that would begin at block 0 is none, but what lies within it is.
func TestPartsAtBlock0(t *testing.T) {
	blank := api.Tape{Label: label, Cap: 64}
	g := gone("g")
	for _, h := range heads() {
		x := withPart(blank, h)
		checkParts(t, "a part at block 0", x, nil, 1)
		checkParts(t, "a part at block 0, and one behind", withPart(x, g), []api.Part{at(len(x.Blocks), g)}, len(x.Blocks)+2)
		if h.Len > 64 {
			y := instead(instead(x, 1, raw(api.FHead, label, 1, headBytes(g))), 2, raw(api.FMark, label, 2, nil))
			checkParts(t, "a part at block 0, and one within", y, []api.Part{at(1, g)}, 3)
		}
		checkParts(t, "a head alone at block 0", cut(x, 1), nil, 1)
		checkParts(t, "a part at block 0 that has rotted", rotted(x, 0), nil, 0)
	}
}

// The label of each part is its tape's.
func TestPartsOfAnyLabel(t *testing.T) {
	for _, n := range []int{1, 2, 24, 255, 256, 1 << 24, greatest} {
		h, g := whole("a", 100), gone("g")
		x := api.Tape{Label: n, Cap: 64}
		x = withPart(withPart(with(x, api.FLabel, []byte("D")), h), g)
		checkParts(t, fmt.Sprintf("a tape of label %d", n), x, []api.Part{{Head: h, Label: n, Block: 1}, {Head: g, Label: n, Block: 5}}, 7)
	}
}

// dice answer numbers that hang on seed alone.
func dice(seed int) func(n int) int {
	next := uint32(seed)*2654435761 + 1
	return func(n int) int {
		next = next*1664525 + 1013904223
		return int(next>>8) % n
	}
}

// anyTape has whatever may be, in whatever order; it hangs on seed alone.
func anyTape(seed int) api.Tape {
	pick := dice(seed)
	x := api.Tape{Label: 1 + pick(3), Cap: 64}
	l := heads()
	for range pick(25) {
		h := l[pick(len(l))]
		switch n := len(x.Blocks); pick(9) {
		case 0, 1, 2:
			x = withPart(x, l[pick(20)])
		case 3, 4:
			x = with(x, api.FHead, headBytes(h))
		case 5:
			x = with(x, 1+pick(6), headBytes(h))
		case 6:
			x = withRaw(x, raw(api.FHead, 1+pick(3), n+pick(2), headBytes(h)))
		case 7:
			x = with(x, 4+pick(2), sealBytes(seal()))
		default:
			x = withRaw(x, filled(n, pick(96)))
		}
		if n := len(x.Blocks); pick(4) == 0 && len(x.Blocks[n-1]) > 0 {
			x = rotted(x, n-1)
		}
	}
	if len(x.Blocks) > 0 {
		x = cut(x, len(x.Blocks)-pick(min(4, len(x.Blocks))))
	}
	return x
}

func TestAnyTapes(t *testing.T) {
	parts, good, sealed := 0, 0, 0
	for seed := range 1500 {
		x := anyTape(seed)
		what := fmt.Sprintf("tape %d", seed)
		want := partsOf(x)
		parts += len(want)
		checkParts(t, what, x, want, keepOf(x))
		for n, b := range x.Blocks {
			if u, ok := unitOf(b); ok && u.Label == x.Label && u.Number == n {
				good++
				checkGood(t, x, n, u.Kind, u.Load, what)
				continue
			}
			checkNotGood(t, x, n, what)
		}
		if checkEitherSealed(t, x, what) {
			sealed++
		}
	}
	if parts < 1000 || good < 1000 || sealed < 20 {
		t.Errorf("%d parts, %d good blocks, %d sealed tapes: too few to tell", parts, good, sealed)
	}
}

func TestNeed(t *testing.T) {
	for size, want := range map[int]int{math.MinInt: 2, math.MinInt + 1: 2, -1 << 32: 2, -65: 2, -64: 2, -63: 2, -1: 2, 0: 2, 1: 3, 63: 3, 64: 3, 65: 4, 128: 4, 129: 5, 3968: 64, 3969: 65, 3999: 65, 4000: 65, 4001: 65, 4032: 65, 4033: 65, 8000: 65, 1 << 31: 65, 1 << 32: 65, math.MaxInt - 63: 65, math.MaxInt - 1: 65, math.MaxInt: 65} {
		if n := volume.Need(size); n != want {
			t.Errorf("P1102: Need(%d): %d, not %d", size, n, want)
		}
	}
	for size := range api.MaxFile + 1 {
		want := 2
		for left := size; left > 0; left -= 64 {
			want++
		}
		if n := volume.Need(size); n != want {
			t.Errorf("P1102: Need(%d): %d, not %d", size, n, want)
		}
	}
}

func checkBlocks(t *testing.T, label, at int, h api.Head, b []byte) {
	t.Helper()
	l, e := volume.Blocks(label, at, h, b)
	if want := partBlocks(label, at, h, b); e != api.OK || !sameRows(l, want) {
		t.Errorf("P1102: Blocks(%d, %d) of %v: error %d, %d blocks, not %d: %x", label, at, h, e, len(l), len(want), l)
	}
	if len(l) != volume.Need(h.Len) {
		t.Errorf("P1102: Blocks of %d bytes: %d, but Need %d", h.Len, len(l), volume.Need(h.Len))
	}
}

func checkNoParts(t *testing.T, label, at int, h api.Head, b []byte) {
	t.Helper()
	if l, e := volume.Blocks(label, at, h, b); e != api.ErrArg || len(l) != 0 {
		t.Errorf("P1102: Blocks(%d, %d) of %v and %d bytes: error %d, %d blocks", label, at, h, len(b), e, len(l))
	}
}

func TestBlocks(t *testing.T) {
	for _, h := range heads() {
		for _, at := range []int{0, 1, 2, 63, 64, 255, 256, 65535, 1 << 24, greatest - 64} {
			for _, label := range []int{1, 2, 24, 256, 1 << 24, greatest} {
				checkBlocks(t, label, at, h, bytesOf(h))
			}
		}
	}
	for size := range 300 {
		checkBlocks(t, 7, size, whole("a", size), filled(size, size))
		checkBlocks(t, 7, 3, whole("a", size), make([]byte, size))
		checkBlocks(t, 7, 3, whole("a", size), bytes.Repeat([]byte{255}, size))
	}
	checkBlocks(t, 7, 3, gone("a"), nil)
	checkBlocks(t, 7, 3, gone("a"), []byte{})
	checkBlocks(t, 7, 3, whole("a", 0), nil)
}

// Of a part of bytes that are written out here.
func TestBlocksFrameByFrame(t *testing.T) {
	b := append(bytes.Repeat([]byte{'x'}, 64), 'y', 'z')
	h := api.Head{Path: "a/b", Version: 0x01020304, Size: 100, From: 10, Len: 66, Serial: 0x05060708, Sum: 0xf1f2f3f4}
	l, e := volume.Blocks(0x11121314, 0x0a0b0cff, h, b)
	if e != api.OK || len(l) != 4 {
		t.Fatalf("P1102: Blocks: error %d, %d blocks", e, len(l))
	}
	head := "\x03a/b" + "\x01\x02\x03\x04" + "\x00\x00\x00\x64" + "\x00\x00\x00\x0a" + "\x00\x00\x00\x42" + "\x05\x06\x07\x08" + "\xf1\xf2\xf3\xf4" + "\x00"
	for i, want := range []string{
		"\x02\x11\x12\x13\x14\x0a\x0b\x0c\xff\x00\x1d" + head + strings.Repeat("\x00", 64-29),
		"\x03\x11\x12\x13\x14\x0a\x0b\x0d\x00\x00\x40" + strings.Repeat("x", 64),
		"\x03\x11\x12\x13\x14\x0a\x0b\x0d\x01\x00\x02" + "yz" + strings.Repeat("\x00", 62),
		"\x04\x11\x12\x13\x14\x0a\x0b\x0d\x02\x00\x00" + strings.Repeat("\x00", 64),
	} {
		if len(l[i]) != 79 || string(l[i][:75]) != want {
			t.Errorf("P1102: block %d: %x, not %x", i, l[i], want)
		}
	}
}

func TestBlocksOfWrongHeads(t *testing.T) {
	for _, h := range wrongHeads() {
		for _, n := range []int{0, 1, 10, 11, h.Len} {
			checkNoParts(t, label, 1, h, filled(1, min(max(n, 0), 5000)))
		}
		checkNoParts(t, label, 1, h, nil)
	}
}

func TestBlocksOfTooFewOrManyBytes(t *testing.T) {
	for _, h := range heads() {
		for _, n := range []int{0, 1, 63, 64, 65, h.Len - 64, h.Len - 1, h.Len + 1, h.Len + 2, h.Len + 64, h.Size, 4000, 4001, 1 << 16, h.Len + 1<<16} {
			if n >= 0 && n != h.Len {
				checkNoParts(t, label, 1, h, filled(1, n))
			}
		}
		// spare room doesn't count
		if h.Len > 0 {
			checkNoParts(t, label, 1, h, bytesOf(h)[:h.Len-1])
		}
		checkBlocks(t, label, 1, h, append(bytesOf(h), 7, 8, 9)[:h.Len])
	}
}

func TestBlocksThatPutRefuses(t *testing.T) {
	for _, h := range heads() {
		b := bytesOf(h)
		for _, n := range append(farNumbers(), 0, -5, 1<<31+1, 1<<32+5, -1<<32+5) {
			checkNoParts(t, n, 1, h, b)
		}
		for _, n := range farNumbers() {
			checkNoParts(t, label, n, h, b)
			checkNoParts(t, 0, n, h, b)
		}
		// the last number that the mark can have, and further ones: of those the first blocks could be made
		last := 1<<31 - len(partBlocks(1, 0, h, b))
		checkBlocks(t, label, last, h, b)
		checkBlocks(t, greatest, last, h, b)
		for n := last + 1; n <= 1<<31; n++ {
			checkNoParts(t, label, n, h, b)
		}
	}
}

// More than one thing is wrong: all of these tell ErrArg.
func TestBlocksOfManyFaults(t *testing.T) {
	for _, h := range append(wrongHeads(), heads()...) {
		b := filled(1, min(max(h.Len, 0), 5000)+1)
		for _, label := range []int{math.MinInt, 0, 1, 1 << 31, math.MaxInt} {
			for _, at := range []int{math.MinInt, -1, 0, greatest, 1 << 31, math.MaxInt - 1, math.MaxInt} {
				checkNoParts(t, label, at, h, b)
			}
		}
	}
}

// What Blocks makes, laid behind what a tape has, is a part there.
func TestBlocksAreAPart(t *testing.T) {
	x := begun()
	var want []api.Part
	for _, h := range heads() {
		l, e := volume.Blocks(label, len(x.Blocks), h, bytesOf(h))
		if e != api.OK {
			t.Fatalf("P1102: Blocks of %v: error %d", h, e)
		}
		want = append(want, at(len(x.Blocks), h))
		x = withRaw(x, l...)
		checkParts(t, "what Blocks makes", x, want, len(x.Blocks))
	}
}

func checkSealed(t *testing.T, x api.Tape, want api.Seal, what string) {
	t.Helper()
	if s, ok := volume.Sealed(x); !ok || !sameSeal(s, want) {
		t.Errorf("P1102: Sealed of %s: %v, %v, not %v", what, s, ok, want)
	}
}

func checkUnsealed(t *testing.T, x api.Tape, what string) {
	t.Helper()
	if s, ok := volume.Sealed(x); ok || !sameSeal(s, api.Seal{}) {
		t.Errorf("P1102: Sealed of %s: %v, %v", what, s, ok)
	}
}

// checkEitherSealed holds Sealed against what is read by other means, and tells whether the tape is.
func checkEitherSealed(t *testing.T, x api.Tape, what string) bool {
	t.Helper()
	if len(x.Blocks) > 0 && !x.Lost {
		n := len(x.Blocks) - 1
		u, ok := unitOf(x.Blocks[n])
		if ok && u.Kind == api.FSeal && u.Label == x.Label && u.Number == n && bytes.Equal(u.Load, sealBytes(seal())) {
			checkSealed(t, x, seal(), what)
			return true
		}
	}
	checkUnsealed(t, x, what)
	return false
}

// seals are right: those at the edges too; which labels they have is asked nowhere here.
func seals() []api.Seal {
	most := api.Seal{Number: 1 << 30, Index: 13, Data: 5, Parity: 9}
	for i := range 14 {
		most.Labels = append(most.Labels, greatest-i)
	}
	return []api.Seal{seal(), most, {Number: 1, Data: 1, Parity: 1, Labels: []int{label, 2}}, {Number: 7, Index: 2, Data: 1, Parity: 2, Labels: []int{7, 8, 9}}}
}

// sealed is a tape of a part, parity and a seal.
func sealed(s api.Seal) api.Tape {
	x := with(withPart(begun(), whole("a", 100)), api.FParity, filled(1, 79))
	return with(x, api.FSeal, sealBytes(s))
}

func TestSealed(t *testing.T) {
	for _, s := range seals() {
		x := sealed(s)
		n := len(x.Blocks) - 1
		checkSealed(t, x, s, "a tape that ends with a seal")
		checkSealed(t, with(begun(), api.FSeal, sealBytes(s)), s, "a label and a seal")
		checkSealed(t, with(api.Tape{Label: label}, api.FSeal, sealBytes(s)), s, "a seal in block 0")
		checkSealed(t, with(many(begun(), 200), api.FSeal, sealBytes(s)), s, "a seal behind many blocks")
		checkSealed(t, with(with(begun(), api.FSeal, sealBytes(seals()[1])), api.FSeal, sealBytes(s)), s, "two seals")
		checkSealed(t, with(with(begun(), api.FHead, headBytes(whole("a", 0))), api.FSeal, sealBytes(s)), s, "a seal where a mark would be")
		for i := range n {
			checkSealed(t, instead(x, i, nil), s, "a tape with another block gone")
			checkSealed(t, rotted(x, i), s, "a tape with another block rotted")
		}
		x.Cap = -1
		checkSealed(t, x, s, "a tape of Cap -1")
	}
}

func TestUnsealed(t *testing.T) {
	for _, x := range []api.Tape{{}, {Label: label, Cap: 64}, {Label: label, Blocks: [][]byte{}}, {Label: label, Lost: true}, {Label: label, Blocks: [][]byte{nil}}} {
		checkUnsealed(t, x, "a blank tape")
	}
	for _, x := range allTapes() {
		checkEitherSealed(t, x.tape, x.what)
		checkUnsealed(t, lost(x.tape), x.what+", Lost")
	}
	for _, s := range seals() {
		x := sealed(s)
		n := len(x.Blocks) - 1
		checkUnsealed(t, lost(x), "a tape that is Lost")
		checkUnsealed(t, cut(x, n), "a tape that is cut ahead of its seal")
		for i, b := range [][]byte{nil, {}, {5}, x.Blocks[n][:78], append(bytes.Clone(x.Blocks[n]), 0), make([]byte, 79), raw(api.FSeal, 6, n, sealBytes(s)), raw(api.FSeal, label, n-1, sealBytes(s)), raw(api.FSeal, label, n+2, sealBytes(s))} {
			checkUnsealed(t, instead(x, n, b), fmt.Sprintf("a last block that is not good, %d", i))
			checkUnsealed(t, withRaw(x, b), fmt.Sprintf("a seal, and a block behind that is not good, %d", i))
		}
		checkUnsealed(t, rotted(x, n), "a seal that has rotted")
		for _, kind := range kinds() {
			if kind != api.FSeal {
				checkUnsealed(t, instead(x, n, raw(kind, label, n, sealBytes(s))), fmt.Sprintf("a last block of kind %d", kind))
				checkUnsealed(t, with(x, kind, sealBytes(s)), fmt.Sprintf("a block of kind %d behind", kind))
			}
		}
		for _, other := range []int{math.MinInt, 0, 4, 6, label + 1<<32, math.MaxInt} {
			y := clone(x)
			y.Label = other
			checkUnsealed(t, y, "another tape's blocks")
		}
	}
}

func TestSealedOfNoSeal(t *testing.T) {
	var loads [][]byte
	b := sealBytes(seal())
	for n := range b {
		loads = append(loads, b[:n])
	}
	loads = append(loads, append(bytes.Clone(b), 0), []byte("none"), make([]byte, 64), filled(2, 64), headBytes(whole("a", 1)))
	for _, change := range []func(s *api.Seal){
		func(s *api.Seal) { s.Number = 0 },
		func(s *api.Seal) { s.Number = 1<<30 + 1 },
		func(s *api.Seal) { s.Index = 3 },
		func(s *api.Seal) { s.Data, s.Parity = 3, 0 },
		func(s *api.Seal) { s.Data, s.Parity = 0, 3 },
		func(s *api.Seal) { s.Data++ },
		func(s *api.Seal) { s.Labels = append(s.Labels, 9) },
		func(s *api.Seal) { s.Labels[2] = s.Labels[0] },
		func(s *api.Seal) { s.Labels[2] = 0 },
		func(s *api.Seal) { s.Labels[2] = 1 << 31 },
	} {
		s := seal()
		change(&s)
		loads = append(loads, sealBytes(s))
	}
	for i, load := range loads {
		checkUnsealed(t, with(begun(), api.FSeal, load), fmt.Sprintf("a Load that is no seal, %d", i))
	}
}

// guarded answers a copy of b with spare room behind, filled, and the whole of that memory.
func guarded(b []byte) (row, whole []byte) {
	whole = append(bytes.Clone(b), bytes.Repeat([]byte{0xee}, 100)...)
	return whole[:len(b)], whole
}

// guardedTape likewise, of the list of blocks and of each of them.
func guardedTape(x api.Tape) (y api.Tape, room [][]byte) {
	for _, b := range x.Blocks {
		_, all := guarded(b)
		room = append(room, all)
	}
	spare := len(room)
	room = append(room, filled(1, 5), filled(2, 79), nil)
	y = x
	rows := make([][]byte, len(room))
	copy(rows, room)
	for i, b := range x.Blocks {
		rows[i] = room[i][:len(b)]
	}
	y.Blocks = rows[:spare]
	return y, room
}

// told is what all calls that take a tape answer of one.
func told(x api.Tape) string {
	b := fmt.Sprint(volume.Parts(x), volume.Keep(x))
	for n := -1; n <= len(x.Blocks); n++ {
		u, ok := volume.Good(x, n)
		b += fmt.Sprint(u, ok)
	}
	s, ok := volume.Sealed(x)
	return b + fmt.Sprint(s, ok)
}

// manyTapes are of all sorts.
func manyTapes() []api.Tape {
	var l []api.Tape
	for _, x := range allTapes() {
		l = append(l, x.tape)
	}
	for _, s := range seals() {
		l = append(l, sealed(s))
	}
	for seed := range 100 {
		l = append(l, anyTape(seed))
	}
	return append(l, lost(sealed(seal())), api.Tape{}, api.Tape{Label: math.MinInt, Cap: -1, Blocks: [][]byte{nil, {}, {1}}})
}

func TestTapesHandedInStay(t *testing.T) {
	for i, x := range manyTapes() {
		y, room := guardedTape(x)
		list := y.Blocks[:cap(y.Blocks)]
		was := make([][]byte, len(room))
		for k, b := range room {
			was[k] = bytes.Clone(b)
		}
		if got, want := told(y), told(x); got != want {
			t.Errorf("P1103: tape %d: what is told hangs on spare room: %s, not %s", i, got, want)
		}
		if !sameRows(room, was) || !sameRows(y.Blocks, x.Blocks) || y.Label != x.Label || y.Cap != x.Cap || y.Lost != x.Lost {
			t.Errorf("P1103: tape %d, or its spare room, has changed", i)
		}
		for k := len(x.Blocks); k < len(room); k++ {
			if !bytes.Equal(list[k], was[k]) {
				t.Errorf("P1103: the spare room of tape %d's blocks has changed", i)
			}
		}
	}
}

func TestBytesHandedInStay(t *testing.T) {
	for _, h := range append(heads(), wrongHeads()...) {
		b, all := guarded(filled(1, min(max(h.Len, 0), 4000)))
		was := bytes.Clone(all)
		for _, at := range []int{-1, 0, 5, greatest} {
			volume.Blocks(label, at, h, b)
			volume.Blocks(0, at, h, b)
		}
		if !bytes.Equal(all, was) {
			t.Errorf("P1103: Blocks of %v: the bytes, or their spare room, have changed", h)
		}
	}
}

// scribble turns all of b, its spare room too.
func scribble(b []byte) {
	b = b[:cap(b)]
	for i := range b {
		b[i] ^= 0x5a
	}
}

func scribbleLabels(l []int) {
	l = l[:cap(l)]
	for i := range l {
		l[i] ^= 0x5a
	}
}

func scribbleTape(x api.Tape) {
	for _, b := range x.Blocks {
		scribble(b)
	}
	clear(x.Blocks[:cap(x.Blocks)])
}

// Who owns what was handed in turns it: no answer is turned by that.
func TestWhatIsHandedInIsNotKept(t *testing.T) {
	for i, x := range manyTapes() {
		want := told(x)
		y := clone(x)
		parts, keep := volume.Parts(y), volume.Keep(y)
		var units []api.Unit
		var good []bool
		for n := -1; n <= len(x.Blocks); n++ {
			u, ok := volume.Good(y, n)
			units, good = append(units, u), append(good, ok)
		}
		s, ok := volume.Sealed(y)
		scribbleTape(y)
		got := fmt.Sprint(parts, keep)
		for k, u := range units {
			got += fmt.Sprint(u, good[k])
		}
		if got += fmt.Sprint(s, ok); got != want {
			t.Errorf("P1103: tape %d is kept: %s, not %s", i, got, want)
		}
		if told(x) != want {
			t.Errorf("P1103: tape %d: what is told hangs on another one", i)
		}
	}
	for _, h := range heads() {
		b := bytesOf(h)
		l, _ := volume.Blocks(label, 3, h, b)
		scribble(b)
		if !sameRows(l, partBlocks(label, 3, h, bytesOf(h))) {
			t.Errorf("P1103: Blocks of %v: the bytes are kept", h)
		}
	}
}

// Who owns an answer turns it: neither another answer is turned by that, nor what was handed in.
func TestAnswersAreNewMemory(t *testing.T) {
	for i, x := range manyTapes() {
		was, want := clone(x), told(x)
		for n := range x.Blocks {
			first, _ := volume.Good(x, n)
			second, _ := volume.Good(x, n)
			load := bytes.Clone(second.Load)
			scribble(first.Load)
			if !bytes.Equal(second.Load, load) {
				t.Errorf("P1103: Good(%d) of tape %d: two answers share memory", n, i)
			}
		}
		first, _ := volume.Sealed(x)
		second, _ := volume.Sealed(x)
		labels := slices.Clone(second.Labels)
		scribbleLabels(first.Labels)
		parts := volume.Parts(x)
		other := volume.Parts(x)
		kept := slices.Clone(other)
		clear(parts[:cap(parts)])
		if !slices.Equal(second.Labels, labels) || !slices.Equal(other, kept) {
			t.Errorf("P1103: tape %d: two answers share memory", i)
		}
		if told(x) != want || !sameRows(x.Blocks, was.Blocks) {
			t.Errorf("P1103: tape %d: an answer shares memory with it", i)
		}
	}
}

func TestBlocksAreNewMemory(t *testing.T) {
	for _, h := range heads() {
		b := bytesOf(h)
		want := partBlocks(label, 3, h, b)
		first, _ := volume.Blocks(label, 3, h, b)
		second, _ := volume.Blocks(label, 3, h, b)
		for n := range first {
			scribble(first[n])
			for k := n + 1; k < len(first); k++ {
				if !bytes.Equal(first[k], want[k]) {
					t.Errorf("P1103: Blocks of %v: blocks %d and %d share memory", h, n, k)
				}
			}
		}
		clear(first[:cap(first)])
		if !sameRows(second, want) {
			t.Errorf("P1103: Blocks of %v: two answers share memory", h)
		}
		if !bytes.Equal(b, bytesOf(h)) {
			t.Errorf("P1103: Blocks of %v: an answer shares memory with the bytes", h)
		}
	}
}

// The same memory, other blocks in it: what is answered is of what is there now.
func TestTheSameMemoryAnew(t *testing.T) {
	room := make([][]byte, 300)
	for i := range room {
		room[i] = make([]byte, 94)
	}
	rows := make([][]byte, len(room))
	for _, x := range allTapes() {
		for n, b := range x.tape.Blocks {
			rows[n] = room[n][:copy(room[n], b)]
		}
		y := x.tape
		y.Blocks = rows[:len(x.tape.Blocks)]
		checkParts(t, x.what+", in the same memory", y, x.parts, max(x.keep, 1))
	}
}

// all makes every call, in the order of the places, and answers what was told at each of them.
func all(l []api.Tape, places []int) []string {
	hs := append(heads(), wrongHeads()...)
	out := make([]string, len(l))
	for _, i := range places {
		h := hs[i%len(hs)]
		blocks, e := volume.Blocks(1+i%3, i, h, filled(i, min(max(h.Len, 0), 4000)))
		out[i] = told(l[i]) + fmt.Sprint(volume.Need(i*17-100), blocks, e)
		for _, b := range blocks {
			scribble(b)
		}
	}
	return out
}

func upTo(n int) []int {
	l := make([]int, n)
	for i := range l {
		l[i] = i
	}
	return l
}

func TestAnswersHangOnArgumentsAlone(t *testing.T) {
	l := manyTapes()
	first := all(l, upTo(len(l)))
	if !slices.Equal(all(l, upTo(len(l))), first) {
		t.Error("P1103: the same calls once more answer otherwise")
	}
	backwards := upTo(len(l))
	slices.Reverse(backwards)
	if !slices.Equal(all(l, backwards), first) {
		t.Error("P1103: the same calls in another order answer otherwise")
	}
}

// All of them ask the same, beside each other.
func TestAnswersBesideOneAnother(t *testing.T) {
	l := manyTapes()
	first := all(l, upTo(len(l)))
	var alike [4]bool
	var workers sync.WaitGroup
	for i := range alike {
		workers.Go(func() {
			alike[i] = slices.Equal(all(l, upTo(len(l))), first)
		})
	}
	workers.Wait()
	for i, ok := range alike {
		if !ok {
			t.Errorf("P1103: worker %d was answered otherwise", i)
		}
	}
}
