package group_test

import (
	"bytes"
	"encoding/binary"
	"fmt"
	"hash/crc32"
	"math"
	"slices"
	"sync"
	"testing"

	"cartridge/api"
	"cartridge/gf"
	"cartridge/group"
)

const (
	greatest = 1<<31 - 1 // that a label may be
	highest  = 1 << 30   // that a group's number may be
	members  = 14        // that a group may have
)

func TestTheLimits(t *testing.T) {
	if api.MaxParts != members || api.Load != 64 || api.Frame != 79 || api.Wide != 94 {
		t.Error("the numbers of package api are others")
	}
	if api.ErrArg != 1 || api.ErrFull != 6 || api.ErrState != 11 {
		t.Error("the errors of package api are others")
	}
}

// filled makes bytes, none of them 0, that hang on seed alone.
func filled(seed, size int) []byte {
	b := make([]byte, size)
	for i := range b {
		b[i] = byte((i*7+seed*31)%255) + 1
	}
	return b
}

// appendNumbers lays the low 4 bytes of each behind b.
func appendNumbers(b []byte, l ...int) []byte {
	for _, n := range l {
		b = binary.BigEndian.AppendUint32(b, uint32(n))
	}
	return b
}

// raw lays a block by the rule of chapter 9, whether frame.Put would or not.
func raw(kind, label, number int, load []byte) []byte {
	room := 64
	if kind == api.FParity {
		room = 79
	}
	b := appendNumbers([]byte{byte(kind)}, label, number)
	b = binary.BigEndian.AppendUint16(b, uint16(len(load)))
	b = append(b, load...)
	b = append(b, make([]byte, max(room-len(load), 0))...)
	return binary.BigEndian.AppendUint32(b, crc32.Checksum(b, crc32.MakeTable(crc32.Castagnoli)))
}

// isGood tells by other means whether b is a good block of that label and number.
func isGood(b []byte, label, number int) bool {
	if len(b) != 79 && len(b) != 94 || label < 1 || label > greatest {
		return false
	}
	size := int(binary.BigEndian.Uint16(b[9:]))
	return b[0] >= 1 && b[0] <= 6 && size <= len(b)-15 && bytes.Equal(b, raw(int(b[0]), label, number, b[11:11+size]))
}

// sealBytes lays a seal's bytes by the rule of chapter 10, be it right or not.
func sealBytes(s api.Seal) []byte {
	b := append(appendNumbers(nil, s.Number), byte(s.Index), byte(s.Data), byte(s.Parity))
	return appendNumbers(b, s.Labels...)
}

// rightLabels holds labels against the rule by other means.
func rightLabels(l []int) bool {
	l = slices.Sorted(slices.Values(l))
	return len(slices.Compact(slices.Clone(l))) == len(l) && l[0] >= 1 && l[len(l)-1] <= greatest
}

// sealAt reads the seal that a tape ends with by other means; false: there is none.
func sealAt(x api.Tape) (api.Seal, bool) {
	n := len(x.Blocks) - 1
	if x.Lost || n < 0 || !isGood(x.Blocks[n], x.Label, n) || x.Blocks[n][0] != api.FSeal {
		return api.Seal{}, false
	}
	b := x.Blocks[n][11:][:x.Blocks[n][10]]
	if len(b) < 7 || len(b)%4 != 3 {
		return api.Seal{}, false
	}
	s := api.Seal{Number: int(binary.BigEndian.Uint32(b)), Index: int(b[4]), Data: int(b[5]), Parity: int(b[6])}
	for at := 7; at < len(b); at += 4 {
		s.Labels = append(s.Labels, int(binary.BigEndian.Uint32(b[at:])))
	}
	all := len(s.Labels)
	return s, s.Number >= 1 && s.Number <= highest && s.Data > 0 && s.Parity > 0 && s.Data+s.Parity == all && all <= members && s.Index < all && rightLabels(s.Labels)
}

// blank is a tape of which nothing was written.
func blank(label, room int) api.Tape { return api.Tape{Label: label, Cap: room} }

// with answers a tape that has one block more, which is good.
func with(x api.Tape, kind int, load []byte) api.Tape {
	x = clone(x)
	x.Blocks = append(x.Blocks, raw(kind, x.Label, len(x.Blocks), load))
	return x
}

// instead answers a tape of which block n is another one.
func instead(x api.Tape, n int, b []byte) api.Tape {
	x = clone(x)
	x.Blocks[n] = b
	return x
}

// tape is one of so many good blocks, of all kinds but parity's.
func tape(label, blocks int) api.Tape {
	x := blank(label, 64)
	for n := range blocks {
		x = with(x, 1+n%5, filled(label+n, (n*13+label)%65))
	}
	return x
}

// tapes are some of so many blocks; their labels fall.
func tapes(lengths ...int) []api.Tape {
	var l []api.Tape
	for i, n := range lengths {
		l = append(l, tape(200-7*i, n))
	}
	return l
}

// blanks are so many blank tapes in which so many blocks fit; their labels neither rise nor fall.
func blanks(count, room int) []api.Tape {
	var l []api.Tape
	for i := range count {
		l = append(l, blank(i*5%members+1, room))
	}
	return l
}

func lost(x api.Tape) api.Tape {
	x.Lost = true
	return x
}

func clone(x api.Tape) api.Tape {
	l := make([][]byte, len(x.Blocks))
	for i, b := range x.Blocks {
		l[i] = bytes.Clone(b)
	}
	x.Blocks = l
	return x
}

func clones(l []api.Tape) []api.Tape {
	var out []api.Tape
	for _, x := range l {
		out = append(out, clone(x))
	}
	return out
}

func cloneSeals(l []api.Seal) []api.Seal {
	var out []api.Seal
	for _, s := range l {
		s.Labels = slices.Clone(s.Labels)
		out = append(out, s)
	}
	return out
}

func sameTape(a, b api.Tape) bool {
	return a.Label == b.Label && a.Cap == b.Cap && a.Lost == b.Lost && slices.EqualFunc(a.Blocks, b.Blocks, bytes.Equal)
}

func sameTapes(a, b []api.Tape) bool { return slices.EqualFunc(a, b, sameTape) }

func sameSeal(a, b api.Seal) bool {
	return a.Number == b.Number && a.Index == b.Index && a.Data == b.Data && a.Parity == b.Parity && slices.Equal(a.Labels, b.Labels)
}

func sameSeals(a, b []api.Seal) bool { return slices.EqualFunc(a, b, sameSeal) }

func isNone(s api.Seal) bool { return sameSeal(s, api.Seal{}) }

func labelsOf(l ...[]api.Tape) []int {
	var out []int
	for _, x := range slices.Concat(l...) {
		out = append(out, x.Label)
	}
	return out
}

func longest(l []api.Tape) int {
	n := 0
	for _, x := range l {
		n = max(n, len(x.Blocks))
	}
	return n
}

// isBadData tells whether a block of a tape of data is not good.
func isBadData(x api.Tape) bool {
	for n, b := range x.Blocks {
		if !isGood(b, x.Label, n) {
			return true
		}
	}
	return false
}

// errorOf is what Make is to tell, by the chapter's sentence.
func errorOf(data, more []api.Tape, number int) api.Errno {
	all := slices.Concat(data, more)
	isLost := func(x api.Tape) bool { return x.Lost }
	isWide := func(b []byte) bool { return len(b) != 79 }
	switch {
	case number < 1 || number > highest || len(data) == 0 || len(more) == 0 || len(all) > members || !rightLabels(labelsOf(all)):
		return api.ErrArg
	case slices.ContainsFunc(all, isLost), longest(data) == 0, slices.ContainsFunc(data, isBadData):
		return api.ErrArg
	case longest(more) > 0:
		return api.ErrState
	case slices.ContainsFunc(more, func(x api.Tape) bool { return x.Cap < longest(data)+2 }):
		return api.ErrFull
	case slices.ContainsFunc(data, func(x api.Tape) bool { return slices.ContainsFunc(x.Blocks, isWide) }):
		return api.ErrArg
	}
	return api.OK
}

// parityOf is block n of tape i of so many of parity, by the rule of Cauchy's rows.
func parityOf(data []api.Tape, n, i, parity int) []byte {
	sum := make([]byte, 79)
	for j, x := range data {
		if n >= len(x.Blocks) {
			continue
		}
		factor := gf.Inv(byte(i) ^ byte(parity+j))
		for at, c := range x.Blocks[n] {
			sum[at] ^= gf.Mul(factor, c)
		}
	}
	return sum
}

// makeOf is what Make is to answer, if it tells no error.
func makeOf(data, more []api.Tape, number int) []api.Tape {
	var out []api.Tape
	for i, x := range more {
		y := with(blank(x.Label, x.Cap), api.FLabel, []byte("P"))
		for n := range longest(data) {
			y = with(y, api.FParity, parityOf(data, n, i, len(more)))
		}
		s := api.Seal{Number: number, Index: len(data) + i, Data: len(data), Parity: len(more), Labels: labelsOf(data, more)}
		out = append(out, with(y, api.FSeal, sealBytes(s)))
	}
	return out
}

// findOf is what Find is to answer: for each number the first tape that tells it.
func findOf(l []api.Tape) []api.Seal {
	first := make(map[int]api.Seal)
	var numbers []int
	for _, x := range slices.Backward(l) {
		if s, ok := sealAt(x); ok && s.Labels[s.Index] == x.Label {
			first[s.Number] = s
			numbers = append(numbers, s.Number)
		}
	}
	var out []api.Seal
	for _, n := range slices.Compact(slices.Sorted(slices.Values(numbers))) {
		out = append(out, first[n])
	}
	return out
}

// checkMake holds Make against its meaning; it tells whether tapes are made.
func checkMake(t *testing.T, what string, data, more []api.Tape, number int) bool {
	t.Helper()
	want := errorOf(data, more, number)
	got, e := group.Make(data, more, number)
	if e != want {
		t.Errorf("P1401: Make of %s: error %d, not %d", what, e, want)
	}
	if want != api.OK {
		if len(got) != 0 {
			t.Errorf("P1401: Make of %s: an answer beside an error", what)
		}
		return false
	}
	if !sameTapes(got, makeOf(data, more, number)) {
		t.Errorf("P1401: Make of %s: other tapes", what)
	}
	return true
}

func checkMade(t *testing.T, what string, data, more []api.Tape, number int) {
	t.Helper()
	if !checkMake(t, what, data, more, number) {
		t.Errorf("the tests refuse %s", what)
	}
}

func checkRefused(t *testing.T, what string, data, more []api.Tape, number int, want api.Errno) {
	t.Helper()
	if e := errorOf(data, more, number); e != want {
		t.Errorf("the tests are of two minds of %s: %d, %d", what, e, want)
	}
	checkMake(t, what, data, more, number)
}

// One of data and one of parity: its parity is the data's own blocks.
func TestMakeByHand(t *testing.T) {
	load := []byte{1, 2, 3}
	first, second := raw(api.FLabel, 3, 0, []byte("D")), raw(api.FData, 3, 1, load)
	data := []api.Tape{{Label: 3, Cap: 20, Blocks: [][]byte{first, second}}}
	got, e := group.Make(data, []api.Tape{blank(9, 4)}, 7)
	want := []api.Tape{{Label: 9, Cap: 4, Blocks: [][]byte{
		raw(1, 9, 0, []byte{'P'}),
		raw(6, 9, 1, first),
		raw(6, 9, 2, second),
		raw(5, 9, 3, []byte{0, 0, 0, 7, 1, 1, 1, 0, 0, 0, 3, 0, 0, 0, 9}),
	}}}
	if e != api.OK || !sameTapes(got, want) {
		t.Errorf("P1401: Make of one and one: %v, error %d, not %v", got, e, want)
	}
}

func TestMake(t *testing.T) {
	for _, lengths := range [][]int{{1}, {3}, {2, 2}, {1, 4}, {4, 1}, {3, 0}, {0, 3}, {2, 5, 1}, {0, 0, 1}, {0, 6, 0}, {5, 5, 5}, {1, 2, 3, 4, 5, 6}} {
		for parity := 1; parity < 6; parity++ {
			checkMade(t, fmt.Sprint("tapes of ", lengths, ", ", parity, " of parity"), tapes(lengths...), blanks(parity, 64), 4)
		}
	}
	checkMade(t, "whole tapes", tapes(64, 63, 64), blanks(3, 66), 4)
	checkMade(t, "longer tapes than there may be", tapes(3, 200), blanks(2, 202), 4)
}

func TestMakeOfTheMost(t *testing.T) {
	for count := range 17 {
		for parity := range 17 {
			lengths := make([]int, count)
			for i := range lengths {
				lengths[i] = 1 + i%3
			}
			what := fmt.Sprint(count, " of data, ", parity, " of parity")
			if count > 0 && parity > 0 && count+parity <= members {
				checkMade(t, what, tapes(lengths...), blanks(parity, 5), 4)
				continue
			}
			more := blanks(parity, 5)
			for i := range more {
				more[i].Label = 300 + i
			}
			checkRefused(t, what, tapes(lengths...), more, 4, api.ErrArg)
		}
	}
	// As many as a byte may not tell, or just tells anew.
	for _, n := range []int{255, 256, 257, 300} {
		many := make([]api.Tape, n)
		for i := range many {
			many[i] = blank(1000+i, 64)
		}
		checkRefused(t, fmt.Sprint(n, " of data"), slices.Concat(tapes(2), many), blanks(1, 64), 4, api.ErrArg)
		checkRefused(t, fmt.Sprint(n, " of parity"), tapes(2), many, 4, api.ErrArg)
	}
}

func TestMakeByNumber(t *testing.T) {
	for _, number := range []int{1, 2, 255, 256, 65536, 1 << 24, highest - 1, highest} {
		checkMade(t, fmt.Sprint("number ", number), tapes(2, 1), blanks(2, 9), number)
	}
	for _, number := range []int{0, -1, -2, -highest, -1 << 31, -1 << 32, 1 - 1<<32, math.MinInt, math.MinInt + 1, highest + 1, 1<<31 - 1, 1 << 31, 1<<32 - 1, 1 << 32, 1<<32 + 1, math.MaxInt - 1, math.MaxInt} {
		checkRefused(t, fmt.Sprint("number ", number), tapes(2, 1), blanks(2, 9), number, api.ErrArg)
	}
}

func TestMakeByLabel(t *testing.T) {
	for _, label := range []int{1, 2, 255, 256, 1 << 24, highest, highest + 1, greatest - 1, greatest} {
		for place := range 4 {
			data, more := []api.Tape{tape(50, 2), tape(51, 3)}, []api.Tape{blank(60, 5), blank(61, 5)}
			if place < 2 {
				data[place] = tape(label, 3)
			} else {
				more[place-2].Label = label
			}
			checkMade(t, fmt.Sprint("label ", label, " in place ", place), data, more, 4)
		}
	}
	for _, label := range []int{0, -1, -50, -greatest, -1 << 31, -1 << 32, math.MinInt, greatest + 1, 1<<32 - 1, 1 << 32, 1<<32 + 70, math.MaxInt} {
		for _, place := range []int{0, 1, 3, 4} {
			all := []api.Tape{blank(50, 64), blank(51, 64), tape(52, 3), blank(60, 5), blank(61, 5)}
			all[place].Label = label
			checkRefused(t, fmt.Sprint("label ", label, " in place ", place), all[:3], all[3:], 4, api.ErrArg)
		}
	}
	for a := range 5 {
		for b := range a {
			labels := []int{50, 51, 52, 60, 61}
			labels[a] = labels[b]
			data := []api.Tape{tape(labels[0], 3), tape(labels[1], 0), tape(labels[2], 2)}
			more := []api.Tape{blank(labels[3], 5), blank(labels[4], 5)}
			checkRefused(t, fmt.Sprint("one label in places ", b, " and ", a), data, more, 4, api.ErrArg)
		}
	}
}

func TestMakeOfLostTapes(t *testing.T) {
	for place := range 5 {
		all := slices.Concat(tapes(2, 3, 2), blanks(2, 9))
		all[place].Lost = true
		checkRefused(t, fmt.Sprint("a lost tape in place ", place), all[:3], all[3:], 4, api.ErrArg)
		all[place].Blocks = nil
		checkRefused(t, fmt.Sprint("a lost tape without blocks in place ", place), all[:3], all[3:], 4, api.ErrArg)
	}
	checkRefused(t, "the only one of data lost", []api.Tape{lost(tape(50, 2))}, blanks(1, 9), 4, api.ErrArg)
	checkRefused(t, "the only blank one lost", tapes(2), []api.Tape{lost(blank(1, 9))}, 4, api.ErrArg)
	checkRefused(t, "a lost one that is not good", []api.Tape{tape(50, 2), lost(api.Tape{Label: 51, Blocks: [][]byte{{1}}})}, blanks(1, 9), 4, api.ErrArg)
}

func TestMakeOfDataWithoutBlocks(t *testing.T) {
	for _, lengths := range [][]int{{0}, {0, 0}, {0, 0, 0, 0}} {
		checkRefused(t, fmt.Sprint("tapes of ", lengths), tapes(lengths...), blanks(2, 9), 4, api.ErrArg)
		checkRefused(t, fmt.Sprint("tapes of ", lengths, ", no room"), tapes(lengths...), blanks(2, 0), 4, api.ErrArg)
	}
	empty := []api.Tape{{Label: 50, Cap: 64, Blocks: [][]byte{}}}
	checkRefused(t, "an empty list of blocks", empty, blanks(2, 9), 4, api.ErrArg)
	checkMade(t, "an empty list of blocks, and another tape", append(empty, tape(51, 1)), blanks(2, 9), 4)
	checkMade(t, "empty lists of blocks of the blank ones", tapes(2), []api.Tape{{Label: 3, Cap: 9, Blocks: [][]byte{}}}, 4)
}

// badBlocks are instead of good block n of a tape.
func badBlocks(x api.Tape, n int) map[string][]byte {
	b := x.Blocks[n]
	turned := func(i int, by byte) []byte {
		b := bytes.Clone(b)
		b[i] ^= by
		return b
	}
	kind, load := int(b[0]), b[11:][:b[10]]
	return map[string][]byte{
		"nil": nil, "empty": {}, "one byte": {5}, "bytes 0": make([]byte, 79),
		"one byte short": b[:78], "without its first byte": b[1:], "one byte more": append(bytes.Clone(b), 0),
		"its kind's byte": turned(0, 1), "its label's last byte": turned(4, 1), "its number's last byte": turned(8, 1), "its length": turned(10, 1),
		"its load": turned(30, 16), "its last byte of load": turned(74, 128), "its sum": turned(75, 128), "its sum's last bit": turned(78, 1),
		"kind 0": raw(0, x.Label, n, load), "kind 7": raw(7, x.Label, n, load),
		"another label": raw(kind, x.Label+1, n, load), "another number": raw(kind, x.Label, n+1, load), "a number far off": raw(kind, x.Label, n+256, load), "the number below": raw(kind, x.Label, n-1, load),
	}
}

func TestMakeOfBlocksThatAreNotGood(t *testing.T) {
	for place := range 3 {
		for n := range 4 {
			data := tapes(4, 4, 4)
			x := data[place]
			checkMade(t, "good tapes", data, blanks(2, 9), 4)
			for what, b := range badBlocks(x, n) {
				data[place] = instead(x, n, b)
				checkRefused(t, fmt.Sprint(what, ", block ", n, " of tape ", place), data, blanks(2, 9), 4, api.ErrArg)
			}
			for bit := range 79 * 8 {
				b := bytes.Clone(x.Blocks[n])
				b[bit/8] ^= 1 << (bit % 8)
				data[place] = instead(x, n, b)
				checkRefused(t, fmt.Sprint("bit ", bit, " of block ", n, " of tape ", place), data, blanks(2, 9), 4, api.ErrArg)
			}
		}
	}
	// Those behind the end of all others count too, and where no other tape has any.
	checkRefused(t, "the last block of the longest", []api.Tape{tape(50, 1), instead(tape(51, 5), 4, make([]byte, 79))}, blanks(2, 9), 4, api.ErrArg)
	checkRefused(t, "the only block", []api.Tape{tape(50, 0), instead(tape(51, 1), 0, nil)}, blanks(2, 9), 4, api.ErrArg)
}

// Good blocks of whatever kind may be there, whatever they carry; only one of parity is too wide for parity itself.
func TestMakeOfAllKinds(t *testing.T) {
	for kind := 1; kind <= 5; kind++ {
		for _, size := range []int{0, 1, 63, 64} {
			data := []api.Tape{with(tape(50, 1), kind, filled(kind, size)), with(tape(51, 0), kind, make([]byte, size))}
			checkMade(t, fmt.Sprint("kind ", kind, " of ", size, " bytes"), data, blanks(2, 4), 4)
		}
	}
	for _, size := range []int{0, 1, 64, 79} {
		for place := range 2 {
			data := tapes(2, 3)
			data[place] = with(data[place], api.FParity, filled(1, size))
			what := fmt.Sprint("parity of ", size, " bytes in tape ", place)
			checkRefused(t, what, data, blanks(2, 9), 4, api.ErrArg)
			checkRefused(t, what+", room that suffices", data, blanks(2, longest(data)+2), 4, api.ErrArg)
			checkRefused(t, what+", no room", data, blanks(2, longest(data)+1), 4, api.ErrFull)
		}
	}
	sealed, _ := group.Make(tapes(2), blanks(1, 9), 4)
	checkRefused(t, "a parity tape as data", sealed, []api.Tape{blank(70, 9)}, 4, api.ErrArg)
}

func TestMakeOfBlankOnesThatAreNone(t *testing.T) {
	for place := range 3 {
		for what, l := range map[string][][]byte{"a nil block": {nil}, "an empty block": {{}}, "a byte": {{1}}, "bytes 0": {make([]byte, 79)}, "a label": tape(1, 1).Blocks, "many": tape(1, 20).Blocks, "more than fit": tape(1, 70).Blocks} {
			more := blanks(3, 64)
			more[place].Blocks = l
			checkRefused(t, fmt.Sprint(what, " in blank tape ", place), tapes(2, 1), more, 4, api.ErrState)
		}
	}
	again := blanks(1, 9)
	made, e := group.Make(tapes(2), again, 4)
	if e != api.OK || len(made) != 1 {
		t.Fatalf("P1401: Make: error %d", e)
	}
	checkRefused(t, "what was made", tapes(2), made, 4, api.ErrState)
}

func TestMakeByRoom(t *testing.T) {
	for _, lengths := range [][]int{{1}, {2, 1}, {1, 5, 3}, {62}, {64, 2}} {
		need := slices.Max(lengths) + 2
		for place := range 3 {
			for _, room := range []int{need, need + 1, 1 << 40, math.MaxInt} {
				more := blanks(3, need)
				more[place].Cap = room
				checkMade(t, fmt.Sprint("tapes of ", lengths, ", room ", room), tapes(lengths...), more, 4)
			}
			for _, room := range []int{need - 1, need - 2, 1, 0, -1, -1 << 31, -1 << 32, 1 - 1<<32, math.MinInt, math.MinInt + 1, math.MinInt + 2} {
				more := blanks(3, need)
				more[place].Cap = room
				checkRefused(t, fmt.Sprint("tapes of ", lengths, ", room ", room), tapes(lengths...), more, 4, api.ErrFull)
			}
		}
	}
	// How many blocks fit onto a tape of data is not asked.
	for _, room := range []int{math.MinInt, -1, 0, 1, 2, 65, math.MaxInt} {
		data := tapes(3, 2)
		data[0].Cap, data[1].Cap = room, room
		checkMade(t, fmt.Sprint("data of Cap ", room), data, blanks(2, 5), 4)
	}
}

// order is what Make is handed.
type order struct {
	data, more []api.Tape
	number     int
}

// flaw is one thing that is wrong, and what is told of it alone.
type flaw struct {
	what string
	make func(x *order)
	want api.Errno
}

// flaws are such, in the order in which they are looked for.
func flaws() []flaw {
	return []flaw{
		{"number 0", func(x *order) { x.number = 0 }, api.ErrArg},
		{"no data", func(x *order) { x.data = nil }, api.ErrArg},
		{"no blank ones", func(x *order) { x.more = nil }, api.ErrArg},
		{"too many", func(x *order) {
			for i := range 12 {
				x.more = append(x.more, blank(300+i, 64))
			}
		}, api.ErrArg},
		{"a label twice", func(x *order) { x.more = append(x.more, blank(200, 64)) }, api.ErrArg},
		{"a label that can't be", func(x *order) { x.more = append(x.more, blank(0, 64)) }, api.ErrArg},
		{"data lost", func(x *order) { x.data = append(x.data, lost(blank(70, 64))) }, api.ErrArg},
		{"a blank one lost", func(x *order) { x.more = append(x.more, lost(blank(71, 64))) }, api.ErrArg},
		{"no blocks", func(x *order) { x.data = tapes(0, 0) }, api.ErrArg},
		{"a block that is not good", func(x *order) { x.data = append(x.data, instead(tape(72, 1), 0, make([]byte, 79))) }, api.ErrArg},
		{"the last blank one has blocks", func(x *order) { x.more = append(x.more, tape(73, 1)) }, api.ErrState},
		{"the first blank one has no room", func(x *order) { x.more = slices.Concat([]api.Tape{blank(74, 2)}, x.more) }, api.ErrFull},
		{"the last blank one has no room", func(x *order) { x.more = append(x.more, blank(75, 2)) }, api.ErrFull},
		{"a block of parity", func(x *order) { x.data = slices.Concat([]api.Tape{with(tape(76, 0), api.FParity, nil)}, x.data) }, api.ErrArg},
	}
}

// Of two things that are wrong at once the first one is told.
func TestWhichErrorComes(t *testing.T) {
	right := func() order { return order{tapes(2, 3), blanks(2, 64), 4} }
	x := right()
	checkMade(t, "a right group", x.data, x.more, x.number)
	for i, first := range flaws() {
		x := right()
		first.make(&x)
		checkRefused(t, first.what, x.data, x.more, x.number, first.want)
		for _, second := range flaws()[i+1:] {
			x := right()
			second.make(&x)
			first.make(&x)
			checkRefused(t, first.what+", and "+second.what, x.data, x.more, x.number, first.want)
			// The other way round the second may make right what was wrong.
			y := right()
			first.make(&y)
			second.make(&y)
			checkMake(t, second.what+", and "+first.what, y.data, y.more, y.number)
		}
	}
	for _, last := range []string{"state", "full", "parity"} {
		x := right()
		want := api.ErrArg
		x.data[1] = with(x.data[1], api.FParity, []byte("x"))
		if last != "parity" {
			x.more[0].Cap, want = 1, api.ErrFull
		}
		if last == "state" {
			x.more[1].Blocks, want = [][]byte{{1}}, api.ErrState
		}
		checkRefused(t, "errors up to "+last, x.data, x.more, x.number, want)
		x.data[0].Blocks[0][78] ^= 1
		checkRefused(t, "a block that is not good, and errors up to "+last, x.data, x.more, x.number, api.ErrArg)
	}
}

func checkFind(t *testing.T, what string, l []api.Tape, want ...api.Seal) {
	t.Helper()
	if got := group.Find(l); !sameSeals(got, want) {
		t.Errorf("P1401: Find of %s: %v, not %v", what, got, want)
	}
	if !sameSeals(findOf(l), want) {
		t.Errorf("the tests are of two minds of %s", what)
	}
}

func checkOf(t *testing.T, what string, l []api.Seal, label int, want api.Seal, wantOk bool) {
	t.Helper()
	if got, ok := group.Of(l, label); ok != wantOk || !sameSeal(got, want) {
		t.Errorf("P1401: Of %d of %s: %v, %v, not %v, %v", label, what, got, ok, want, wantOk)
	}
}

// What was made is found again, by each of its tapes.
func TestMadeAndFound(t *testing.T) {
	for _, x := range []order{{tapes(2), blanks(1, 9), 1}, {tapes(3, 1, 0), blanks(2, 9), 7}, {tapes(1), blanks(13, 9), 8}, {tapes(slices.Repeat([]int{2}, 13)...), blanks(1, 9), highest}, {tapes(1, 2, 3, 4, 5, 6, 7), blanks(7, 9), 9}} {
		made, e := group.Make(x.data, x.more, x.number)
		if e != api.OK || len(made) != len(x.more) {
			t.Fatalf("P1401: Make: %d tapes, error %d", len(made), e)
		}
		s := api.Seal{Number: x.number, Data: len(x.data), Parity: len(x.more), Labels: labelsOf(x.data, x.more)}
		for i, y := range made {
			s.Index = len(x.data) + i
			checkFind(t, "a tape that was made", []api.Tape{y}, s)
			checkFind(t, "data, and a tape that was made", append(clones(x.data), y), s)
			checkFind(t, "tapes that were made, from one on", made[i:], s)
			checkFind(t, "a tape that was made, and the blank ones", append([]api.Tape{y}, x.more...), s)
			for _, label := range s.Labels {
				checkOf(t, "what was found", group.Find(made[i:]), label, s, true)
			}
			for _, label := range []int{0, -1, 500, math.MinInt, math.MaxInt, s.Labels[0] + 1<<32, -s.Labels[0]} {
				checkOf(t, "what was found", group.Find(made[i:]), label, api.Seal{}, false)
			}
		}
		checkFind(t, "data alone", x.data)
		checkFind(t, "the blank ones alone", x.more)
	}
}

// sealed is a tape that ends with a seal.
func sealed(label int, s api.Seal) api.Tape {
	return with(with(blank(label, 64), api.FLabel, []byte("P")), api.FSeal, sealBytes(s))
}

// pair is the seal of member index of a group of two.
func pair(number, index, first, second int) api.Seal {
	return api.Seal{Number: number, Index: index, Data: 1, Parity: 1, Labels: []int{first, second}}
}

func TestFindOfNoSeals(t *testing.T) {
	s := pair(4, 1, 50, 51)
	x := sealed(51, s)
	checkFind(t, "one with a seal", []api.Tape{x}, s)
	load := sealBytes(s)
	for what, l := range map[string][]api.Tape{
		"nothing":                             nil, // the chapter's example
		"an empty list":                       {},
		"a blank tape":                        {blank(51, 64)},
		"no tape":                             {{}},
		"tapes without seals":                 {tape(51, 1), tape(52, 2), tape(53, 0), tape(54, 9)},
		"a lost one":                          {lost(x)},
		"a lost one, and a blank one":         {lost(x), blank(51, 64)},
		"one of which the last block is gone": {{Label: 51, Blocks: x.Blocks[:1]}},
		"one with a block behind the seal":    {with(x, api.FMark, nil)},
		"one with a bad block behind":         {{Label: 51, Blocks: append(clone(x).Blocks, nil)}},
		"another tape's label at its place":   {sealed(50, s), sealed(52, s)},
		"its label at the other place":        {sealed(51, pair(4, 0, 50, 51)), sealed(50, pair(5, 1, 50, 51))},
		"another tape's frame":                {instead(x, 1, raw(api.FSeal, 50, 1, load))},
		"another label of the tape":           {{Label: 50, Blocks: x.Blocks}, {Label: 51 + 1<<32, Blocks: x.Blocks}},
		"another number of the frame":         {instead(x, 1, raw(api.FSeal, 51, 2, load))},
		"another place of the frame":          {{Label: 51, Blocks: x.Blocks[1:]}},
		"a seal of one byte less":             {instead(x, 1, raw(api.FSeal, 51, 1, load[:len(load)-1]))},
		"a seal of one byte more":             {instead(x, 1, raw(api.FSeal, 51, 1, append(bytes.Clone(load), 0)))},
		"an empty seal":                       {instead(x, 1, raw(api.FSeal, 51, 1, nil))},
		"kinds that are no seal's":            {instead(x, 1, raw(1, 51, 1, load)), instead(x, 1, raw(2, 51, 1, load)), instead(x, 1, raw(3, 51, 1, load)), instead(x, 1, raw(4, 51, 1, load)), instead(x, 1, raw(6, 51, 1, load))},
		"seals that are not right":            {sealed(51, pair(0, 1, 50, 51)), sealed(51, pair(highest+1, 1, 50, 51)), sealed(51, pair(4, 1, 51, 51)), sealed(51, pair(4, 1, 0, 51)), sealed(51, pair(4, 2, 50, 51)), sealed(51, pair(4, 255, 50, 51)), sealed(51, api.Seal{Number: 4, Data: 1, Labels: []int{51}}), sealed(51, api.Seal{Number: 4, Parity: 1, Labels: []int{51}})},
	} {
		checkFind(t, what, l)
		checkFind(t, what+", and one with a seal", append(clones(l), x), s)
		checkFind(t, "one with a seal, and "+what, append([]api.Tape{x}, l...), s)
	}
}

func TestFindOfSealsThatRotted(t *testing.T) {
	made, e := group.Make(tapes(2, 3), blanks(2, 9), 4)
	if e != api.OK || len(made) != 2 {
		t.Fatalf("P1401: Make: %d tapes, error %d", len(made), e)
	}
	x := made[0]
	last := len(x.Blocks) - 1
	second := api.Seal{Number: 4, Index: 3, Data: 2, Parity: 2, Labels: []int{200, 193, 1, 6}}
	for size := range 79 {
		y := instead(x, last, x.Blocks[last][:size])
		checkFind(t, fmt.Sprint("one whose last block was cut to ", size), []api.Tape{y})
		checkFind(t, fmt.Sprint("one whose last block was cut to ", size, ", and another"), []api.Tape{y, made[1]}, second)
	}
	for bit := range 79 * 8 {
		b := bytes.Clone(x.Blocks[last])
		b[bit/8] ^= 1 << (bit % 8)
		checkFind(t, fmt.Sprint("one whose last block was turned, bit ", bit), []api.Tape{instead(x, last, b)})
	}
	// Of the other blocks none is asked.
	first := second
	first.Index = 2
	for n := range last {
		checkFind(t, fmt.Sprint("one of which block ", n, " has rotted"), []api.Tape{instead(x, n, []byte{1})}, first)
	}
}

func TestFindRisingAndOnce(t *testing.T) {
	a, b, c := pair(3, 1, 10, 11), pair(2, 1, 12, 13), pair(1, 1, 14, 15)
	checkFind(t, "falling numbers", []api.Tape{sealed(11, a), sealed(13, b), sealed(15, c)}, c, b, a)
	checkFind(t, "rising numbers", []api.Tape{sealed(15, c), sealed(13, b), sealed(11, a)}, c, b, a)
	checkFind(t, "the least and the greatest", []api.Tape{sealed(21, pair(highest, 1, 20, 21)), sealed(23, pair(1, 1, 22, 23))}, pair(1, 1, 22, 23), pair(highest, 1, 20, 21))
	checkFind(t, "numbers that rise by another byte", []api.Tape{sealed(21, pair(256, 1, 20, 21)), sealed(23, pair(255, 1, 22, 23)), sealed(25, pair(9, 1, 24, 25)), sealed(27, pair(10, 1, 26, 27))}, pair(9, 1, 24, 25), pair(10, 1, 26, 27), pair(255, 1, 22, 23), pair(256, 1, 20, 21))
	// One number with unlike seals: the first that is met, whatever it is.
	d, e := pair(3, 0, 16, 17), api.Seal{Number: 3, Index: 2, Data: 1, Parity: 2, Labels: []int{5, 6, 7}}
	checkFind(t, "one number, first a", []api.Tape{sealed(11, a), sealed(16, d), sealed(7, e)}, a)
	checkFind(t, "one number, first d", []api.Tape{sealed(16, d), sealed(7, e), sealed(11, a)}, d)
	checkFind(t, "one number, first e", []api.Tape{sealed(7, e), sealed(11, a), sealed(16, d)}, e)
	checkFind(t, "one number, others between", []api.Tape{sealed(13, b), sealed(7, e), sealed(15, c), sealed(11, a), sealed(13, b)}, c, b, e)
	checkFind(t, "one number, the first lost", []api.Tape{lost(sealed(7, e)), sealed(11, a), sealed(16, d)}, a)
	checkFind(t, "one number, the first with another label", []api.Tape{sealed(6, e), sealed(16, d), sealed(11, a)}, d)
	checkFind(t, "one tape twice", []api.Tape{sealed(11, a), sealed(11, a)}, a)
	checkFind(t, "one label, two numbers", []api.Tape{sealed(11, a), sealed(11, pair(2, 1, 10, 11))}, pair(2, 1, 10, 11), a)
	// Several parity tapes of one group, in whatever order.
	made, _ := group.Make(tapes(2, 3), blanks(4, 9), 6)
	all := append(clones(made), sealed(11, a))
	for range all {
		if got := group.Find(all); len(got) != 2 || !sameSeals(got, findOf(all)) {
			t.Errorf("P1401: Find of several parity tapes: %v, not %v", got, findOf(all))
		}
		all = append(all[1:], all[0])
	}
	// A tape of a data member that ends with its seal counts as well.
	checkFind(t, "a data member", []api.Tape{sealed(16, d)}, d)
}

// Of many tapes of one number it is still the first that is told.
func TestFindOfManyTapes(t *testing.T) {
	for _, numbers := range []int{1, 2, 3, 7, 40, 200} {
		var l []api.Tape
		for i := range 200 {
			x := sealed(1000+i, pair(1+i*37%numbers, 1, 5000+i, 1000+i))
			if x.Lost = i%11 == 0; i%7 == 0 {
				x.Label = 1
			}
			l = append(l, x)
		}
		for range 5 {
			if got := group.Find(l); len(got) == 0 || !sameSeals(got, findOf(l)) {
				t.Errorf("P1401: Find of %d numbers on 200 tapes: %v, not %v", numbers, got, findOf(l))
			}
			slices.Reverse(l)
			l = append(l[60:], l[:60]...)
		}
	}
}

func TestOf(t *testing.T) {
	a := api.Seal{Number: 9, Index: 3, Data: 2, Parity: 3, Labels: []int{40, 30, 20, 10, greatest}}
	b := api.Seal{Number: 5, Index: 1, Data: 1, Parity: 1, Labels: []int{20, 1}}
	c := api.Seal{Number: 7, Index: 0, Data: 1, Parity: 1, Labels: []int{8, 40}}
	l := []api.Seal{a, b, c}
	for _, label := range a.Labels {
		checkOf(t, "the first of all, which has it", l, label, a, true)
	}
	checkOf(t, "one between", l, 1, b, true)
	checkOf(t, "the last", l, 8, c, true)
	for _, label := range []int{0, -1, 2, 3, 5, 7, 9, -40, 41, greatest + 1, -greatest - 1, 1 << 32, 8 + 1<<32, 40 - 1<<32, math.MinInt, math.MaxInt} {
		checkOf(t, "none", l, label, api.Seal{}, false)
		checkOf(t, "nothing", nil, label, api.Seal{}, false)
		checkOf(t, "an empty list", []api.Seal{}, label, api.Seal{}, false)
		checkOf(t, "seals without labels", []api.Seal{{}, {Number: label, Index: label, Data: label, Parity: label}}, label, api.Seal{}, false)
	}
	// Two have it: the first in the list, not the one of the lower number, nor the one whose own label it is.
	checkOf(t, "two, a and b", []api.Seal{a, b}, 20, a, true)
	checkOf(t, "two, b and a", []api.Seal{b, a}, 20, b, true)
	checkOf(t, "two, c and a", []api.Seal{b, c, a}, 40, c, true)
	// Seals that are not right are asked as others are.
	odd := api.Seal{Number: -3, Index: 99, Data: -1, Parity: math.MaxInt, Labels: []int{0, -7, 0, math.MinInt, math.MaxInt}}
	for _, label := range odd.Labels {
		checkOf(t, "one that is not right", []api.Seal{a, odd, b}, label, odd, true)
	}
	long := api.Seal{Number: 2, Labels: make([]int, 1000)}
	long.Labels[999] = 12
	checkOf(t, "one of many labels", []api.Seal{a, long}, 12, long, true)
}

// ask is a call of each kind.
type ask struct {
	what       string
	data, more []api.Tape
	number     int
	l          []api.Tape
	seals      []api.Seal
	label      int
}

func asks() []ask {
	made := slices.Concat(makeOf(tapes(2, 3), blanks(3, 9), 8), makeOf(tapes(4), blanks(2, 9), 3), makeOf(tapes(1, 1, 1), blanks(1, 9), 8))
	seals := []api.Seal{pair(4, 1, 50, 51), pair(3, 0, 51, 52), {}, {Number: -1, Index: 7, Labels: []int{0, 51}}}
	rotted := instead(made[0], 4, filled(1, 79))
	out := []ask{
		{"nothing", nil, nil, 0, nil, nil, 0},
		{"one and one", tapes(1), blanks(1, 3), 1, made[:1], seals, 50},
		{"several", tapes(2, 0, 3), blanks(2, 9), 7, made, seals, 51},
		{"as many as there may be", tapes(slices.Repeat([]int{2}, 10)...), blanks(4, 9), highest, made[3:], seals[1:], 51},
		{"no label", tapes(2), blanks(1, 4), 5, []api.Tape{blank(1, 2), lost(made[0]), rotted}, seals, 99},
		{"too many", tapes(slices.Repeat([]int{2}, 10)...), blanks(5, 9), 2, slices.Concat(made, made), seals[2:], 0},
		{"a lost one", []api.Tape{tape(100, 2), lost(tape(90, 2))}, blanks(2, 9), 2, tapes(1, 2, 3), seals[3:], 0},
		{"a label twice", tapes(2, 2), []api.Tape{blank(193, 9)}, 2, []api.Tape{made[3], made[0]}, seals[:1], 51},
		{"no blocks", tapes(0, 0), blanks(2, 9), 2, made[5:], seals[:2], 52},
		{"a block that is not good", []api.Tape{instead(tape(100, 2), 1, filled(3, 79))}, blanks(2, 9), 2, made[2:4], seals[:2], -1},
		{"blank ones that are none", tapes(2), tapes(0, 2), 2, made[4:], seals[:3], 51},
		{"no room", tapes(2, 3), blanks(2, 4), 2, made[1:], seals, math.MaxInt},
		{"a block of parity", []api.Tape{with(tape(100, 2), api.FParity, filled(3, 79))}, blanks(2, 9), 2, made[4:5], seals, math.MinInt},
	}
	for i := range 20 {
		out = append(out, ask{fmt.Sprint("some, ", i), tapes(i%4, i*5%6, i%3), blanks(1+i%4, 6+i%3), i, made[i%5:], seals[i%4:], 50 + i%4})
	}
	return out
}

// told is all that the calls answer of one ask.
type told struct {
	made  []api.Tape
	e     api.Errno
	found []api.Seal
	of    api.Seal
	ok    bool
}

func tell(x ask) told {
	var a told
	a.made, a.e = group.Make(x.data, x.more, x.number)
	a.found = group.Find(x.l)
	a.of, a.ok = group.Of(x.seals, x.label)
	return a
}

func (a told) copied() told {
	a.made, a.found = clones(a.made), cloneSeals(a.found)
	a.of.Labels = slices.Clone(a.of.Labels)
	return a
}

func (a told) same(b told) bool {
	return a.e == b.e && a.ok == b.ok && sameTapes(a.made, b.made) && sameSeals(a.found, b.found) && sameSeal(a.of, b.of)
}

// scribble writes over all that an answer's memory holds, its spare room too.
func (a told) scribble() {
	turnTapes(a.made)
	turnSeals(a.found)
	turnNumbers(a.of.Labels)
}

func turn(b []byte) {
	for i := range b[:cap(b)] {
		b[:cap(b)][i] ^= 0xff
	}
}

func turnNumbers(l []int) {
	for i := range l[:cap(l)] {
		l[:cap(l)][i] ^= -1
	}
}

func turnTapes(l []api.Tape) {
	for _, x := range l[:cap(l)] {
		for _, b := range x.Blocks[:cap(x.Blocks)] {
			turn(b)
		}
		clear(x.Blocks[:cap(x.Blocks)])
	}
	clear(l[:cap(l)])
}

func turnSeals(l []api.Seal) {
	for _, s := range l[:cap(l)] {
		turnNumbers(s.Labels)
	}
	clear(l[:cap(l)])
}

// guarded lays tapes into memory that has spare room, all of it filled: tapes, blocks and bytes.
func guarded(l []api.Tape) []api.Tape {
	out := make([]api.Tape, 0, len(l)+20)
	for _, x := range l {
		wide := make([][]byte, 0, len(x.Blocks)+2)
		for _, b := range x.Blocks {
			wide = append(wide, slices.Concat(b, filled(1, 94))[:len(b)])
		}
		x.Blocks = append(wide, filled(2, 79), filled(3, 79))[:len(wide)]
		out = append(out, x)
	}
	for i := range 20 {
		out = append(out, tape(400+i, 2))
	}
	return out[:len(l)]
}

// guardedSeals does so with seals.
func guardedSeals(l []api.Seal) []api.Seal {
	out := make([]api.Seal, 0, len(l)+2)
	for _, s := range l {
		s.Labels = slices.Concat(s.Labels, []int{51, 52, 53, 54})[:len(s.Labels)]
		out = append(out, s)
	}
	return append(out, pair(6, 1, 51, 52), pair(7, 0, 99, 0))[:len(l)]
}

// guardedAsk is the same ask in such memory.
func guardedAsk(x ask) ask {
	x.data, x.more, x.l, x.seals = guarded(x.data), guarded(x.more), guarded(x.l), guardedSeals(x.seals)
	return x
}

// wholeTapes is all that the memory of tapes holds, its spare room too, in memory of its own.
func wholeTapes(l []api.Tape) []api.Tape {
	var out []api.Tape
	for _, x := range l[:cap(l)] {
		x.Blocks = slices.Clone(x.Blocks[:cap(x.Blocks)])
		for i, b := range x.Blocks {
			x.Blocks[i] = bytes.Clone(b[:cap(b)])
		}
		out = append(out, x)
	}
	return out
}

func wholeSeals(l []api.Seal) []api.Seal {
	var out []api.Seal
	for _, s := range l[:cap(l)] {
		s.Labels = slices.Clone(s.Labels[:cap(s.Labels)])
		out = append(out, s)
	}
	return out
}

// whole is all that is handed in, its spare room too.
func (x ask) whole() ask {
	x.data, x.more, x.l, x.seals = wholeTapes(x.data), wholeTapes(x.more), wholeTapes(x.l), wholeSeals(x.seals)
	return x
}

func (x ask) sameWhole(was ask) bool {
	now := x.whole()
	return sameTapes(now.data, was.data) && sameTapes(now.more, was.more) && sameTapes(now.l, was.l) && sameSeals(now.seals, was.seals)
}

func TestWhatIsHandedInStays(t *testing.T) {
	for _, x := range asks() {
		y := guardedAsk(x)
		was := y.whole()
		got := tell(y)
		if !y.sameWhole(was) {
			t.Errorf("P1402: %s: what was handed in has changed", x.what)
		}
		// Only now is it asked without spare room: a call that turns what it is handed would else have done so ahead of the copy.
		if !got.same(tell(x)) {
			t.Errorf("P1402: %s: an answer hangs on spare room", x.what)
		}
		got.scribble()
		if !y.sameWhole(was) {
			t.Errorf("P1402: %s: an answer shares memory with what was handed in", x.what)
		}
	}
}

// Who owns what was handed in turns it: no answer is turned by that, and none comes from what was.
func TestWhatIsHandedInIsNotKept(t *testing.T) {
	for _, x := range asks() {
		y := guardedAsk(x)
		got := tell(y)
		was := got.copied()
		turnTapes(y.data)
		turnTapes(y.more)
		turnTapes(y.l)
		turnSeals(y.seals)
		if again := tell(y); again.e != api.ErrArg || len(again.made) != 0 || len(again.found) != 0 || again.ok || !isNone(again.of) {
			t.Errorf("P1402: %s: of what is blank by now something is told", x.what)
		}
		if !got.same(was) || !tell(x).same(was) {
			t.Errorf("P1402: %s: what was handed in is kept", x.what)
		}
	}
}

func TestAnswersAreNewMemory(t *testing.T) {
	for _, x := range asks() {
		first, second := tell(x), tell(x)
		want := first.copied()
		first.scribble()
		if !second.same(want) || !tell(x).same(want) {
			t.Errorf("P1402: %s: two answers share memory", x.what)
		}
	}
}

// Each list of an answer is written over, and something laid behind it: no other one sees that.
func TestListsOfAnAnswerAreTheirOwn(t *testing.T) {
	for _, x := range asks() {
		a := tell(x)
		for i := range a.made {
			for n := range a.made[i].Blocks {
				was := a.copied()
				turn(a.made[i].Blocks[n])
				turn(was.made[i].Blocks[n])
				if !a.same(was) {
					t.Fatalf("P1402: %s: two blocks of an answer share memory", x.what)
				}
			}
			was := a.copied()
			_ = append(a.made[i].Blocks, filled(1, 79), filled(2, 79), filled(3, 79))
			if !a.same(was) {
				t.Fatalf("P1402: %s: two tapes of an answer share memory", x.what)
			}
		}
		for i := range a.found {
			was := a.copied()
			turnNumbers(a.found[i].Labels)
			turnNumbers(was.found[i].Labels)
			if !a.same(was) {
				t.Fatalf("P1402: %s: two seals of an answer share memory", x.what)
			}
		}
	}
}

// The same memory, others in it: what is answered is of what is there now.
func TestTheSameMemoryAnew(t *testing.T) {
	data, more, l, seals := make([]api.Tape, 30), make([]api.Tape, 30), make([]api.Tape, 30), make([]api.Seal, 30)
	for _, x := range asks() {
		y := x
		y.data, y.more, y.l, y.seals = data[:copy(data, x.data)], more[:copy(more, x.more)], l[:copy(l, x.l)], seals[:copy(seals, x.seals)]
		if !tell(y).same(tell(x)) {
			t.Errorf("P1402: %s: in the same memory it is answered otherwise", x.what)
		}
	}
}

// Data and blank ones may be pieces of one list, one right behind the other.
func TestPiecesOfOneList(t *testing.T) {
	l := tapes(3, 0, 2)
	checkMade(t, "data and blank ones in one list", l[:1], []api.Tape{l[1]}, 4)
	wide := slices.Concat(tapes(3, 2), blanks(2, 9), blanks(3, 9))
	was := clones(wide)
	checkMade(t, "blank ones right behind data", wide[:2], wide[2:4], 4)
	if !sameTapes(wide, was) {
		t.Error("P1402: what stands behind was changed")
	}
}

func everything(l []ask) []told {
	var out []told
	for _, x := range l {
		out = append(out, tell(x))
	}
	return out
}

func TestAnswersHangOnArgumentsAlone(t *testing.T) {
	l := asks()
	first := everything(l)
	if !slices.EqualFunc(everything(l), first, told.same) {
		t.Error("P1402: the same calls once more answer otherwise")
	}
	slices.Reverse(l)
	backwards := everything(l)
	slices.Reverse(backwards)
	if !slices.EqualFunc(backwards, first, told.same) {
		t.Error("P1402: the same calls in another order answer otherwise")
	}
}

// All of them ask the same, beside each other.
func TestAnswersBesideOneAnother(t *testing.T) {
	l := asks()
	first := everything(l)
	var alike [4]bool
	var workers sync.WaitGroup
	for i := range alike {
		workers.Go(func() { alike[i] = slices.EqualFunc(everything(l), first, told.same) })
	}
	workers.Wait()
	for i, ok := range alike {
		if !ok {
			t.Errorf("P1402: worker %d was answered otherwise", i)
		}
	}
}
