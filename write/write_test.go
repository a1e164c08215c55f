package write_test

import (
	"bytes"
	"encoding/binary"
	"fmt"
	"hash/crc32"
	"math"
	"slices"
	"strings"
	"sync"
	"testing"

	"cartridge/api"
	"cartridge/catalog"
	"cartridge/group"
	"cartridge/restore"
	"cartridge/write"
)

const (
	thin  = 79 // bytes of a block of all kinds but parity's
	wide  = 94 // bytes of one of parity's, the most that a block has
	most  = 64 // bytes of data in one
	ahead = 11 // bytes of a block that stand ahead of its data

	longest  = 4000      // bytes of a file
	deepest  = 64        // blocks of a tape
	greatest = 1<<31 - 1 // that a frame's label may be
	topmost  = 1 << 30   // version, and serial
)

func TestTheLimits(t *testing.T) {
	if api.Load != most || api.Frame != thin || api.Wide != wide || api.MaxFile != longest || api.MaxBlocks != deepest {
		t.Error("the numbers of package api are others")
	}
	if api.FLabel != 1 || api.FHead != 2 || api.FData != 3 || api.FMark != 4 || api.FSeal != 5 || api.FParity != 6 || api.ErrArg != 1 || api.ErrSpace != 7 {
		t.Error("the kinds and errors of package api are others")
	}
}

// filled makes bytes, none of them 0, that hang on seed alone.
func filled(seed, size int) []byte {
	b := make([]byte, size)
	for i := range b {
		b[i] = byte((i*7+seed*31)%255) + 1
	}
	return b
}

func sumOf(b []byte) int {
	return int(crc32.Checksum(b, crc32.MakeTable(crc32.Castagnoli)))
}

// raw lays a block by the rule of chapter 9, whether frame.Put would or not.
func raw(kind, label, number int, load []byte) []byte {
	room := most
	if kind == api.FParity {
		room = thin
	}
	b := binary.BigEndian.AppendUint32([]byte{byte(kind)}, uint32(label))
	b = binary.BigEndian.AppendUint32(b, uint32(number))
	b = binary.BigEndian.AppendUint16(b, uint16(len(load)))
	b = append(b, load...)
	b = append(b, make([]byte, max(room-len(load), 0))...)
	return binary.BigEndian.AppendUint32(b, uint32(sumOf(b)))
}

// headBytes lays a head's bytes by the rule of chapter 10.
func headBytes(h api.Head) []byte {
	b := append([]byte{byte(len(h.Path))}, h.Path...)
	for _, n := range []int{h.Version, h.Size, h.From, h.Len, h.Serial, h.Sum} {
		b = binary.BigEndian.AppendUint32(b, uint32(n))
	}
	if h.Gone {
		return append(b, 1)
	}
	return append(b, 0)
}

// blank is a tape of which nothing was written.
func blank(label, deep int) api.Tape { return api.Tape{Label: label, Cap: deep} }

// holding is a tape that has so many good blocks, none of them a part's.
func holding(label, deep, blocks int) api.Tape {
	x := blank(label, deep)
	for n := range blocks {
		x = with(x, api.FMark, filled(n, n%(most+1)))
	}
	return x
}

// with answers a tape that has one block more.
func with(x api.Tape, kind int, load []byte) api.Tape {
	x = clone(x)
	x.Blocks = append(x.Blocks, raw(kind, x.Label, len(x.Blocks), load))
	return x
}

// instead answers a tape of which block n is another one.
func instead(x api.Tape, n int, b []byte) api.Tape {
	x = clone(x)
	x.Blocks[n] = b
	return x
}

func lost(x api.Tape) api.Tape {
	x.Lost = true
	return x
}

func clone(x api.Tape) api.Tape {
	l := make([][]byte, len(x.Blocks))
	for i, b := range x.Blocks {
		l[i] = bytes.Clone(b)
	}
	x.Blocks = l
	return x
}

func clones(l []api.Tape) []api.Tape {
	var out []api.Tape
	for _, x := range l {
		out = append(out, clone(x))
	}
	return out
}

func sameTape(a, b api.Tape) bool {
	return a.Label == b.Label && a.Cap == b.Cap && a.Lost == b.Lost && slices.EqualFunc(a.Blocks, b.Blocks, bytes.Equal)
}

func sameTapes(a, b []api.Tape) bool { return slices.EqualFunc(a, b, sameTape) }

func sameStep(a, b api.Step) bool { return a.Tape == b.Tape && bytes.Equal(a.Block, b.Block) }

func sameSteps(a, b []api.Step) bool { return slices.EqualFunc(a, b, sameStep) }

// isGood tells by other means whether b is block n of the tape of that label.
func isGood(b []byte, label, n int) bool {
	if label < 1 || label > greatest || len(b) < thin || b[0] < api.FLabel || b[0] > api.FParity {
		return false
	}
	load := int(binary.BigEndian.Uint16(b[9:]))
	if load > most && b[0] != api.FParity || load > thin || len(b) < ahead+load {
		return false
	}
	return bytes.Equal(b, raw(int(b[0]), label, n, b[ahead:ahead+load]))
}

// roomOf is what Rooms is to answer of a tape.
func roomOf(x api.Tape, seals []api.Seal) int {
	for _, s := range seals {
		if slices.Contains(s.Labels, x.Label) {
			return 0
		}
	}
	used := len(x.Blocks)
	switch {
	case x.Lost:
		return 0
	case used == 0:
		used = 1
	case !isGood(x.Blocks[used-1], x.Label, used-1):
		return 0
	}
	if x.Cap <= used {
		return 0
	}
	return x.Cap - used
}

func roomsOf(l []api.Tape, seals []api.Seal) []int {
	var out []int
	for _, x := range l {
		out = append(out, roomOf(x, seals))
	}
	return out
}

// wrongPaths are some that are none.
func wrongPaths() []string {
	return []string{"", "A", "/a", "a/", "a//b", "a/../b", ".", strings.Repeat("a", 25), "a b", "a\x00"}
}

// canBe tells whether heads of h, of a file of so many bytes, are right.
func canBe(h api.Head, size int) bool {
	return !slices.Contains(wrongPaths(), h.Path) && h.Version >= 1 && h.Version <= topmost && h.Serial >= 1 && h.Serial <= topmost && h.Size == size && (!h.Gone || size == 0)
}

// partOn are the steps that lay a part on the tape x of that place.
func partOn(place int, x api.Tape, h api.Head, b []byte) []api.Step {
	var l []api.Step
	at := len(x.Blocks)
	put := func(kind int, load []byte) {
		l = append(l, api.Step{Tape: place, Block: raw(kind, x.Label, at, load)})
		at++
	}
	if at == 0 {
		put(api.FLabel, []byte{'D'})
	}
	put(api.FHead, headBytes(h))
	for data := range slices.Chunk(b, most) {
		put(api.FData, data)
	}
	put(api.FMark, nil)
	return l
}

// meaning is what File is to answer.
func meaning(l []api.Tape, seals []api.Seal, h api.Head, b []byte) ([]api.Step, api.Errno) {
	if len(b) > longest {
		return nil, api.ErrArg
	}
	wrong := !canBe(h, len(b))
	h.Sum = sumOf(b)
	var steps []api.Step
	from, placed := 0, false
	for i, x := range l {
		room := roomOf(x, seals)
		size := min(len(b)-from, most*min(max(room-2, 0), 63))
		if size == 0 && (len(b) > 0 || placed || room < 2) {
			continue
		}
		h.From, h.Len = from, size
		steps = append(steps, partOn(i, x, h, b[from:from+size])...)
		wrong = wrong || x.Label < 1 || x.Label > greatest
		from, placed = from+size, true
	}
	switch {
	case from < len(b) || !placed:
		return nil, api.ErrSpace
	case wrong:
		return nil, api.ErrArg
	}
	return steps, api.OK
}

// canTake tells whether b can be Appended to x.
func canTake(x api.Tape, b []byte) bool {
	for _, block := range append([][]byte{b}, x.Blocks...) {
		if len(block) < 1 || len(block) > wide {
			return false
		}
	}
	return !x.Lost && x.Label >= 1 && x.Cap <= deepest && len(x.Blocks) < x.Cap
}

// doneOf is what Do is to answer.
func doneOf(l []api.Tape, steps []api.Step, stop, size int) ([]api.Tape, bool) {
	out := clones(l)
	for i, s := range steps {
		b := s.Block
		if i == stop {
			b = b[:max(0, min(size, len(b)))]
		}
		if s.Tape >= 0 && s.Tape < len(out) && canTake(out[s.Tape], b) {
			out[s.Tape].Blocks = append(out[s.Tape].Blocks, bytes.Clone(b))
		}
		if i == stop {
			return out, true
		}
	}
	return out, false
}

// version is a head of one of so many bytes.
func version(path string, n, size int) api.Head {
	return api.Head{Path: path, Version: n, Size: size, Serial: 10 + n}
}

func sealOf(labels ...int) api.Seal {
	return api.Seal{Number: 1, Data: 1, Parity: len(labels) - 1, Labels: labels}
}

// short is what is told of steps, be they ever so many.
func short(steps []api.Step, e api.Errno) string {
	var tapes []int
	var all []byte
	for _, s := range steps {
		tapes = append(tapes, s.Tape)
		all = append(all, s.Block...)
	}
	return fmt.Sprintf("steps on %v, sum %x, error %d", tapes, sumOf(all), e)
}

func checkRooms(t *testing.T, what string, l []api.Tape, seals []api.Seal, want ...int) {
	t.Helper()
	if m := roomsOf(l, seals); !slices.Equal(m, want) {
		t.Errorf("the tests are of two minds of %s: %v, and %v", what, m, want)
	}
	if got := write.Rooms(l, seals); !slices.Equal(got, want) {
		t.Errorf("P2001: Rooms of %s: %v, not %v", what, got, want)
	}
}

// checkFile holds File against its meaning, and answers the steps.
func checkFile(t *testing.T, what string, l []api.Tape, seals []api.Seal, h api.Head, b []byte) []api.Step {
	t.Helper()
	want, wantE := meaning(l, seals, h, b)
	got, e := write.File(l, seals, h, b)
	if e != wantE || !sameSteps(got, want) {
		t.Errorf("P2001: File of %s: %s, not %s", what, short(got, e), short(want, wantE))
	}
	return got
}

// checkSteps holds File against the steps, told as the place and the kind of each, and against its meaning.
func checkSteps(t *testing.T, what string, l []api.Tape, seals []api.Seal, h api.Head, b []byte, want ...[2]int) {
	t.Helper()
	var got [][2]int
	for _, s := range checkFile(t, what, l, seals, h, b) {
		got = append(got, [2]int{s.Tape, int(s.Block[0])})
	}
	if !slices.Equal(got, want) {
		t.Errorf("P2001: File of %s: places and kinds %v, not %v", what, got, want)
	}
}

func checkFails(t *testing.T, what string, l []api.Tape, seals []api.Seal, h api.Head, b []byte, want api.Errno) {
	t.Helper()
	if _, e := meaning(l, seals, h, b); e != want {
		t.Errorf("the tests are of two minds of %s: error %d, and %d", what, e, want)
	}
	if got, e := write.File(l, seals, h, b); e != want || len(got) != 0 {
		t.Errorf("P2001: File of %s: %s, not error %d", what, short(got, e), want)
	}
}

// checkDo holds Do against its meaning.
func checkDo(t *testing.T, what string, l []api.Tape, steps []api.Step, stop, size int) []api.Tape {
	t.Helper()
	want, wantCut := doneOf(l, steps, stop, size)
	got, cut := write.Do(l, steps, stop, size)
	if cut != wantCut || !sameTapes(got, want) {
		t.Errorf("P2001: Do of %s, stop %d, bytes %d: %v, cut %v, not %v, cut %v", what, stop, size, got, cut, want, wantCut)
	}
	return got
}

func TestTheExample(t *testing.T) {
	checkRooms(t, "nothing", nil, nil)
	checkRooms(t, "nothing that is a list", []api.Tape{}, []api.Seal{})
	checkRooms(t, "nothing beside a seal", nil, []api.Seal{sealOf(1, 2)})
}

func TestRoomsOfBlankTapes(t *testing.T) {
	for _, x := range []struct{ deep, want int }{
		{math.MinInt, 0}, {-1, 0}, {0, 0}, {1, 0}, {2, 1}, {3, 2}, {63, 62}, {64, 63}, {65, 64}, {1 << 41, 1<<41 - 1}, {math.MaxInt, math.MaxInt - 1},
	} {
		checkRooms(t, fmt.Sprint("a blank tape of Cap ", x.deep), []api.Tape{blank(5, x.deep)}, nil, x.want)
	}
	// A blank tape's label is no block of it, so that it is not looked at.
	for _, label := range []int{math.MinInt, -1, 0, greatest, greatest + 1, math.MaxInt} {
		checkRooms(t, fmt.Sprint("a blank tape of label ", label), []api.Tape{blank(label, 9)}, nil, 8)
	}
}

func TestRoomsOfTapesThatHoldSomething(t *testing.T) {
	for _, x := range []struct{ deep, blocks, want int }{
		{math.MinInt, 1, 0}, {-1, 1, 0}, {0, 1, 0}, {1, 1, 0}, {2, 1, 1}, {3, 1, 2}, {64, 1, 63}, {64, 2, 62}, {64, 62, 2}, {64, 63, 1}, {64, 64, 0}, {64, 65, 0}, {9, 64, 0}, {70, 66, 4}, {math.MaxInt, 2, math.MaxInt - 2},
	} {
		checkRooms(t, fmt.Sprintf("a tape of Cap %d with %d blocks", x.deep, x.blocks), []api.Tape{holding(5, x.deep, x.blocks)}, nil, x.want)
	}
}

func TestRoomsOfLostTapes(t *testing.T) {
	l := []api.Tape{lost(blank(1, 64)), lost(holding(2, 64, 1)), lost(holding(3, 64, 5)), blank(4, 64), lost(blank(5, 0)), lost(instead(holding(6, 64, 5), 4, nil))}
	checkRooms(t, "lost tapes", l, nil, 0, 0, 0, 63, 0, 0)
	checkRooms(t, "lost tapes, members or not", l, []api.Seal{sealOf(2, 9)}, 0, 0, 0, 63, 0, 0)
}

func TestRoomsOfMembers(t *testing.T) {
	l := []api.Tape{blank(1, 10), holding(2, 10, 3), blank(3, 10), holding(4, 10, 4), blank(5, 10)}
	for _, x := range []struct {
		what  string
		seals []api.Seal
		want  []int
	}{
		{"no seal", nil, []int{9, 7, 9, 6, 9}},
		{"the first label", []api.Seal{sealOf(1, 8)}, []int{0, 7, 9, 6, 9}},
		{"the last label", []api.Seal{sealOf(8, 7, 4)}, []int{9, 7, 9, 0, 9}},
		{"a label between", []api.Seal{sealOf(8, 2, 7)}, []int{9, 0, 9, 6, 9}},
		{"several labels", []api.Seal{sealOf(5, 4, 1)}, []int{0, 7, 9, 0, 0}},
		{"a second seal", []api.Seal{sealOf(8, 1), sealOf(7, 2)}, []int{0, 0, 9, 6, 9}},
		{"the same in two seals", []api.Seal{sealOf(8, 1), sealOf(1, 8)}, []int{0, 7, 9, 6, 9}},
		{"other labels", []api.Seal{sealOf(8, 9), sealOf(6, 0, -1)}, []int{9, 7, 9, 6, 9}},
		{"a seal of no labels", []api.Seal{{Number: 1, Index: 2, Data: 3, Parity: 4}}, []int{9, 7, 9, 6, 9}},
		{"labels alone", []api.Seal{{Labels: []int{3}}}, []int{9, 7, 0, 6, 9}},
		{"a label twice", []api.Seal{{Number: -4, Index: 9, Labels: []int{3, 3, 2}}}, []int{9, 0, 0, 6, 9}},
		{"all", []api.Seal{sealOf(1, 2), {}, sealOf(3, 4, 5)}, []int{0, 0, 0, 0, 0}},
	} {
		checkRooms(t, "members of "+x.what, l, x.seals, x.want...)
	}
}

// The last block tells whether there is room, no other one does.
func TestRoomsByTheLastBlock(t *testing.T) {
	x := holding(5, 64, 4)
	last := x.Blocks[3]
	for bit := range 8 * thin {
		b := bytes.Clone(last)
		b[bit/8] ^= 1 << (bit % 8)
		checkRooms(t, fmt.Sprint("a last block with another bit ", bit), []api.Tape{instead(x, 3, b)}, nil, 0)
	}
	for _, b := range [][]byte{nil, {}, {1}, last[:thin-1], append(bytes.Clone(last), 0), raw(api.FMark, 5, 2, nil), raw(api.FMark, 5, 4, nil), raw(api.FMark, 4, 3, nil), raw(0, 5, 3, nil), raw(7, 5, 3, nil), make([]byte, thin), make([]byte, 300), filled(1, thin)} {
		checkRooms(t, fmt.Sprintf("a last block %v", b), []api.Tape{instead(x, 3, b)}, nil, 0)
	}
	for kind := api.FLabel; kind <= api.FParity; kind++ {
		checkRooms(t, fmt.Sprint("a last block of kind ", kind), []api.Tape{with(x, kind, []byte("P"))}, nil, 59)
	}
	for n := range 3 {
		checkRooms(t, fmt.Sprint("another block that is not good ", n), []api.Tape{instead(x, n, []byte{1})}, nil, 60)
		checkRooms(t, fmt.Sprint("another block of no bytes ", n), []api.Tape{instead(x, n, nil)}, nil, 60)
	}
	for _, label := range []int{0, -5, greatest + 1} {
		checkRooms(t, fmt.Sprint("blocks of label ", label), []api.Tape{holding(label, 64, 3)}, nil, 0)
	}
	checkRooms(t, "blocks of the greatest label", []api.Tape{holding(greatest, 64, 3)}, nil, 61)
	checkRooms(t, "a full tape", []api.Tape{holding(5, 4, 4)}, nil, 0)
}

func TestTwoTapesOfOneLabel(t *testing.T) {
	l := []api.Tape{holding(3, 5, 2), blank(3, 4), holding(3, 64, 1), lost(blank(3, 9)), blank(4, 3)}
	checkRooms(t, "tapes of one label", l, nil, 3, 3, 63, 0, 2)
	checkRooms(t, "tapes of one label, all members", l, []api.Seal{sealOf(8, 3)}, 0, 0, 0, 0, 2)
	checkSteps(t, "tapes of one label", l, nil, version("a", 1, 130), filled(1, 130),
		[2]int{0, 2}, [2]int{0, 3}, [2]int{0, 4}, [2]int{1, 1}, [2]int{1, 2}, [2]int{1, 3}, [2]int{1, 4}, [2]int{2, 2}, [2]int{2, 3}, [2]int{2, 4})
	steps := []api.Step{{Tape: 1, Block: []byte{1}}, {Tape: 2, Block: []byte{2}}, {Tape: 0, Block: []byte{3}}}
	got := checkDo(t, "tapes of one label", l, steps, -1, 0)
	if len(got[0].Blocks) != 3 || len(got[1].Blocks) != 1 || len(got[2].Blocks) != 2 {
		t.Errorf("P2001: Do of tapes of one label: %v", got)
	}
}

// A part's block count is told here by its own words, so that the places and kinds are seen one by one.
func TestFilesOfFewBlocks(t *testing.T) {
	fresh, used := []api.Tape{blank(7, 64)}, []api.Tape{holding(7, 64, 3)}
	for _, x := range []struct{ size, data int }{{0, 0}, {1, 1}, {63, 1}, {64, 1}, {65, 2}, {127, 2}, {128, 2}, {129, 3}} {
		want := [][2]int{{0, 2}}
		for range x.data {
			want = append(want, [2]int{0, 3})
		}
		want = append(want, [2]int{0, 4})
		what := fmt.Sprintf("%d bytes on ", x.size)
		h, b := version("a/b", 2, x.size), filled(3, x.size)
		checkSteps(t, what+"a blank tape", fresh, nil, h, b, append([][2]int{{0, 1}}, want...)...)
		checkSteps(t, what+"a tape that holds something", used, nil, h, b, want...)
	}
}

// The blocks of one file, byte by byte.
func TestTheBlocksOfAFile(t *testing.T) {
	b := filled(4, 70)
	h := api.Head{Path: "a/b", Version: 3, Size: 70, Len: 70, Serial: 9, Sum: sumOf(b)}
	for _, at := range []int{0, 1, 2, 40} {
		l := []api.Tape{lost(blank(1, 64)), holding(8, 64, at)}
		n := max(at, 1)
		want := []api.Step{{Tape: 1, Block: raw(2, 8, n, headBytes(h))}, {Tape: 1, Block: raw(3, 8, n+1, b[:64])}, {Tape: 1, Block: raw(3, 8, n+2, b[64:])}, {Tape: 1, Block: raw(4, 8, n+3, nil)}}
		if at == 0 {
			want = append([]api.Step{{Tape: 1, Block: raw(1, 8, 0, []byte("D"))}}, want...)
		}
		if got, e := write.File(l, nil, h, b); e != api.OK || !sameSteps(got, want) {
			t.Errorf("P2001: File behind %d blocks: %s, not %s", at, short(got, e), short(want, 0))
		}
	}
}

func TestFilesOfAnySize(t *testing.T) {
	rows := []struct {
		what string
		l    []api.Tape
	}{
		{"one tape", []api.Tape{blank(1, 66)}},
		{"one tape that is just enough for a file of a block", []api.Tape{blank(1, 4)}},
		{"one tape that holds something", []api.Tape{holding(1, 70, 5)}},
		{"tapes of a block each", []api.Tape{blank(9, 4), holding(8, 6, 3), blank(7, 4), holding(6, 40, 37)}},
		{"tapes with none between", []api.Tape{blank(9, 3), holding(8, 6, 4), blank(7, 5), lost(blank(6, 64)), holding(5, 9, 9), holding(4, 64, 60), instead(holding(3, 9, 2), 1, nil), blank(2, 64)}},
		{"tapes of room 1 and 2", []api.Tape{blank(1, 2), blank(2, 3), holding(3, 5, 3), blank(4, 64)}},
		{"tapes of room 0 and 1", []api.Tape{blank(1, 1), blank(2, 2), holding(3, 5, 5), holding(4, 5, 4)}},
		{"several great tapes", []api.Tape{holding(1, 64, 30), blank(2, 64), blank(3, 64)}},
		{"a tape of the greatest label", []api.Tape{blank(greatest, 4), holding(greatest, 64, 1)}},
		{"a tape that is greater than tapes are", []api.Tape{blank(1, math.MaxInt), blank(2, 64)}},
	}
	for _, x := range rows {
		for _, size := range []int{0, 1, 63, 64, 65, 127, 128, 129, 191, 192, 193, 1000, 3840, 3968, 3969, 3999, 4000} {
			checkFile(t, fmt.Sprintf("%d bytes, %s", size, x.what), x.l, nil, version("a", 1, size), filled(size, size))
		}
	}
}

// Which tapes are taken, and that each is begun but once, is told place by place.
func TestFilesOverSeveralTapes(t *testing.T) {
	l := []api.Tape{blank(4, 3), blank(9, 4), lost(blank(2, 64)), holding(7, 9, 5), blank(1, 64)}
	checkSteps(t, "no bytes", l, nil, version("a", 1, 0), nil, [2]int{0, 1}, [2]int{0, 2}, [2]int{0, 4})
	checkSteps(t, "no bytes, the first one a member", l, []api.Seal{sealOf(4, 9)}, version("a", 1, 0), nil, [2]int{3, 2}, [2]int{3, 4})
	checkSteps(t, "64 bytes", l, nil, version("a", 1, 64), filled(1, 64), [2]int{1, 1}, [2]int{1, 2}, [2]int{1, 3}, [2]int{1, 4})
	checkSteps(t, "193 bytes", l, nil, version("a", 1, 193), filled(1, 193),
		[2]int{1, 1}, [2]int{1, 2}, [2]int{1, 3}, [2]int{1, 4}, [2]int{3, 2}, [2]int{3, 3}, [2]int{3, 3}, [2]int{3, 4}, [2]int{4, 1}, [2]int{4, 2}, [2]int{4, 3}, [2]int{4, 4})
	checkSteps(t, "193 bytes, one of the tapes a member", l, []api.Seal{sealOf(8, 5), sealOf(6, 9)}, version("a", 1, 193), filled(1, 193),
		[2]int{3, 2}, [2]int{3, 3}, [2]int{3, 3}, [2]int{3, 4}, [2]int{4, 1}, [2]int{4, 2}, [2]int{4, 3}, [2]int{4, 3}, [2]int{4, 4})
	checkFails(t, "193 bytes, too many of the tapes members", l, []api.Seal{sealOf(1, 9)}, version("a", 1, 193), filled(1, 193), api.ErrSpace)
}

func TestFromLenAndSumAreNotLookedAt(t *testing.T) {
	l := []api.Tape{blank(3, 5), holding(2, 64, 4)}
	for _, size := range []int{0, 1, 200} {
		h, b := version("a", 1, size), filled(5, size)
		want, _ := write.File(l, nil, h, b)
		for _, n := range []int{math.MinInt, -1, 0, 1, 77, 200, longest + 1, 1 << 32, math.MaxInt} {
			for _, other := range []api.Head{{From: n}, {Len: n}, {Sum: n}, {From: n, Len: n, Sum: n}} {
				h.From, h.Len, h.Sum = other.From, other.Len, other.Sum
				if got := checkFile(t, fmt.Sprintf("%d bytes, and %+v", size, other), l, nil, h, b); len(got) == 0 || !sameSteps(got, want) {
					t.Errorf("P2001: File of %d bytes hangs on %+v", size, other)
				}
			}
		}
	}
}

func TestVersionsThatAreGone(t *testing.T) {
	l := []api.Tape{blank(3, 3), holding(2, 64, 4)}
	h := api.Head{Path: "a", Version: 2, Serial: 3, Gone: true}
	checkSteps(t, "a version that is gone", l, nil, h, nil, [2]int{0, 1}, [2]int{0, 2}, [2]int{0, 4})
	h.From, h.Len, h.Sum = 5, 6, 7
	checkSteps(t, "a version that is gone, of a Sum", l[1:], nil, h, []byte{}, [2]int{0, 2}, [2]int{0, 4})
	h.Size = 4
	checkFails(t, "a version that is gone, of a Size", l, nil, h, nil, api.ErrArg)
	checkFails(t, "a version that is gone, of bytes", l, nil, h, filled(1, 4), api.ErrArg)
	h.Size = 0
	checkFails(t, "a version that is gone, of bytes and no Size", l, nil, h, filled(1, 4), api.ErrArg)
}

func TestSizesThatAreOthers(t *testing.T) {
	l := []api.Tape{blank(3, 64)}
	for _, size := range []int{0, 1, 64, 100} {
		for _, other := range []int{math.MinInt, -1, size - 1, size + 1, longest, longest + 1, math.MaxInt} {
			checkFails(t, fmt.Sprintf("%d bytes of Size %d", size, other), l, nil, version("a", 1, other), filled(1, size), api.ErrArg)
		}
	}
	checkFails(t, "bytes of Size 0", l, nil, version("a", 1, 0), filled(1, 5), api.ErrArg)
}

func TestHeadsThatCanNotBe(t *testing.T) {
	l := []api.Tape{blank(3, 4), holding(2, 64, 1)}
	for _, size := range []int{0, 5, 100} {
		b := filled(2, size)
		for _, n := range []int{math.MinInt, -1, 0, topmost + 1, 1<<32 + 1, math.MaxInt} {
			h := version("a", 1, size)
			h.Version = n
			checkFails(t, fmt.Sprint("version ", n), l, nil, h, b, api.ErrArg)
			h = version("a", 1, size)
			h.Serial = n
			checkFails(t, fmt.Sprint("serial ", n), l, nil, h, b, api.ErrArg)
		}
		for _, path := range wrongPaths() {
			checkFails(t, fmt.Sprintf("path %q", path), l, nil, version(path, 1, size), b, api.ErrArg)
		}
		for _, n := range []int{1, 2, topmost} {
			h := version(strings.Repeat("a", 24), n, size)
			h.Serial = topmost + 1 - n
			if len(checkFile(t, fmt.Sprint("version and serial ", n), l, nil, h, b)) == 0 {
				t.Errorf("P2001: File of version %d: no steps", n)
			}
		}
	}
}

func TestNoRoom(t *testing.T) {
	for _, x := range []struct {
		what string
		l    []api.Tape
		size int
	}{
		{"no tapes, no bytes", nil, 0}, {"no tapes", nil, 1},
		{"no bytes and room 1", []api.Tape{blank(1, 2), holding(2, 5, 4)}, 0},
		{"a byte and room 2", []api.Tape{blank(1, 3), holding(2, 5, 3)}, 1},
		{"a byte too many for a tape", []api.Tape{blank(1, 4)}, 65},
		{"a byte too many for two", []api.Tape{blank(1, 4), holding(2, 9, 5)}, 193},
		{"a lost tape", []api.Tape{lost(blank(1, 64))}, 1},
		{"a tape whose last block is not good", []api.Tape{instead(holding(1, 64, 2), 1, []byte{5})}, 1},
		{"the longest file on the deepest tape", []api.Tape{blank(1, 64)}, longest},
	} {
		checkFails(t, x.what, x.l, nil, version("a", 1, x.size), filled(1, x.size), api.ErrSpace)
	}
	checkFails(t, "members alone", []api.Tape{blank(1, 64), holding(2, 64, 1)}, []api.Seal{sealOf(2, 1)}, version("a", 1, 1), filled(1, 1), api.ErrSpace)
}

// Where two errors could be told it is the one that the chapter names first: span.Plan's, then those of the version, then a frame's.
func TestWhichErrorIsToldFirst(t *testing.T) {
	room, none := []api.Tape{blank(3, 64), blank(2, 64)}, []api.Tape{blank(3, 2)}
	odd := []api.Tape{blank(0, 64), blank(-1, 64)}
	long, some := filled(1, longest+1), filled(1, 9)
	for _, x := range []struct {
		what string
		l    []api.Tape
		h    api.Head
		b    []byte
		want api.Errno
	}{
		{"too many bytes", room, version("a", 1, longest+1), long, api.ErrArg},
		{"too many bytes, their Size no file's", room, version("a", 1, 9), long, api.ErrArg},
		{"too many bytes, and no room", none, version("a", 1, longest+1), long, api.ErrArg},
		{"too many bytes, and no tapes", nil, api.Head{}, long, api.ErrArg},
		{"no room, and another Size", none, version("a", 1, 8), some, api.ErrSpace},
		{"no room, and a path that is none", none, version("A", 1, 9), some, api.ErrSpace},
		{"no room, and a head of nothing", none, api.Head{}, some, api.ErrSpace},
		{"no tapes, and a head of nothing", nil, api.Head{}, nil, api.ErrSpace},
		{"no room, and bytes of a version that is gone", none, api.Head{Path: "a", Version: 1, Serial: 1, Gone: true}, some, api.ErrSpace},
		{"no room on labels that can't be", odd[:1], version("a", 1, longest), filled(1, longest), api.ErrSpace},
		{"another Size, on labels that can't be", odd, version("a", 1, 8), some, api.ErrArg},
		{"labels that can't be", odd, version("a", 1, 9), some, api.ErrArg},
	} {
		checkFails(t, x.what, x.l, nil, x.h, x.b, x.want)
	}
}

func TestLabelsThatNoFrameCanHave(t *testing.T) {
	for _, label := range []int{math.MinInt, -1, 0, greatest + 1, 1<<32 + 1, math.MaxInt} {
		what := fmt.Sprint(" on label ", label)
		for _, size := range []int{0, 1, 100} {
			checkFails(t, fmt.Sprint(size, " bytes", what), []api.Tape{blank(label, 64)}, nil, version("a", 1, size), filled(1, size), api.ErrArg)
		}
		behind := []api.Tape{blank(1, 4), blank(label, 64)}
		checkFails(t, "a second part"+what, behind, nil, version("a", 1, 65), filled(1, 65), api.ErrArg)
		// A tape that is not needed, or has no room, is no error.
		if len(checkFile(t, "no second part"+what, behind, nil, version("a", 1, 64), filled(1, 64))) != 4 {
			t.Errorf("P2001: File hangs on a tape that takes nothing%s", what)
		}
		if len(checkFile(t, "a part behind one"+what, []api.Tape{holding(label, 64, 2), blank(label, 2), blank(1, 4)}, nil, version("a", 1, 64), filled(1, 64))) != 4 {
			t.Errorf("P2001: File hangs on a tape without room%s", what)
		}
	}
	if len(checkFile(t, "the greatest label", []api.Tape{blank(greatest, 64)}, nil, version("a", 1, 9), filled(1, 9))) != 4 {
		t.Error("P2001: File on the greatest label")
	}
}

func step(place int, b ...byte) api.Step { return api.Step{Tape: place, Block: b} }

// someSteps go to and fro between tapes; some of them can't be done.
func someSteps() ([]api.Tape, []api.Step) {
	l := []api.Tape{{Label: 1, Cap: 3, Blocks: [][]byte{{9}}}, blank(2, 64), lost(holding(3, 64, 1)), blank(4, 0), holding(5, 8, 2)}
	steps := []api.Step{
		step(1, 1, 2, 3), step(0, 4), step(1, 5, 6), step(2, 7), step(3, 8), step(4, filled(1, thin)...), step(-1, 9), step(5, 9), step(0),
		step(0, filled(2, wide+1)...), step(0, filled(3, wide)...), step(0, 10), step(1, 11), step(math.MaxInt, 12), step(math.MinInt, 13), step(4, 14, 15, 16, 17),
	}
	return l, steps
}

func TestDoOfAllSteps(t *testing.T) {
	l, steps := someSteps()
	want := [][][]byte{
		{{9}, {4}, filled(3, wide)},
		{{1, 2, 3}, {5, 6}, {11}},
		l[2].Blocks,
		nil,
		append(clone(l[4]).Blocks, filled(1, thin), []byte{14, 15, 16, 17}),
	}
	for _, stop := range []int{math.MinInt, -2, -1, len(steps), len(steps) + 1, math.MaxInt} {
		got, cut := write.Do(l, steps, stop, 2)
		if cut || len(got) != len(l) {
			t.Fatalf("P2001: Do of all steps, stop %d: %d tapes, cut %v", stop, len(got), cut)
		}
		for i, x := range got {
			if y := l[i]; !slices.EqualFunc(x.Blocks, want[i], bytes.Equal) || x.Label != y.Label || x.Cap != y.Cap || x.Lost != y.Lost {
				t.Errorf("P2001: Do of all steps, stop %d: tape %d: %v", stop, i, x)
			}
		}
	}
}

func TestDoOfAnyCut(t *testing.T) {
	l, steps := someSteps()
	for stop := -2; stop < len(steps)+3; stop++ {
		for _, size := range []int{math.MinInt, -1, 0, 1, 2, 3, 4, 5, thin - 1, thin, wide - 1, wide, wide + 1, wide + 2, math.MaxInt} {
			checkDo(t, "some steps", l, steps, stop, size)
		}
	}
}

// Each cut's last block, told by its own words.
func TestTheLastBlockOfACut(t *testing.T) {
	l := []api.Tape{blank(1, 64), blank(2, 64)}
	steps := []api.Step{step(0, 1), step(1, 5, 6, 7, 8), step(1, 9)}
	for _, x := range []struct {
		size int
		want [][]byte
	}{
		{math.MinInt, nil}, {-1, nil}, {0, nil}, {1, [][]byte{{5}}}, {3, [][]byte{{5, 6, 7}}}, {4, [][]byte{{5, 6, 7, 8}}}, {5, [][]byte{{5, 6, 7, 8}}}, {math.MaxInt, [][]byte{{5, 6, 7, 8}}},
	} {
		got, cut := write.Do(l, steps, 1, x.size)
		if !cut || len(got) != 2 || !slices.EqualFunc(got[0].Blocks, [][]byte{{1}}, bytes.Equal) || !slices.EqualFunc(got[1].Blocks, x.want, bytes.Equal) {
			t.Errorf("P2001: Do cut at %d bytes: %v, %v", x.size, got, cut)
		}
	}
	// Of a block that is too long its first bytes can be Appended, all of it can't.
	steps[1].Block = filled(6, wide+5)
	for size, want := range map[int]int{1: 1, wide: wide, wide + 1: 0, wide + 5: 0, wide + 6: 0} {
		got := checkDo(t, "a block that is too long", l, steps, 1, size)
		if n := len(slices.Concat(got[1].Blocks...)); n != want {
			t.Errorf("P2001: Do of a block that is too long, %d bytes of it: %d, not %d", size, n, want)
		}
	}
	// The last step is cut, too, and is told as one, be there anything of it or not.
	for _, size := range []int{-1, 1, 99} {
		if _, cut := write.Do(l, steps, 2, size); !cut {
			t.Errorf("P2001: Do cut in its last step, at %d bytes: not told", size)
		}
	}
}

func TestStepsThatCanNotBe(t *testing.T) {
	tapes := []struct {
		what string
		x    api.Tape
		can  bool
	}{
		{"blank", blank(1, 3), true}, {"deepest", blank(1, deepest), true}, {"of the greatest int", blank(math.MaxInt, 3), true}, {"bytes that are no block's", api.Tape{Label: 1, Cap: 3, Blocks: [][]byte{{1}, filled(1, wide)}}, true},
		{"lost", lost(blank(1, 3)), false}, {"of Cap 0", blank(1, 0), false}, {"full", holding(1, 2, 2), false},
		{"of Label 0", blank(0, 3), false}, {"of Label below 0", blank(math.MinInt, 3), false}, {"too deep", blank(1, deepest+1), false}, {"of Cap below 0", blank(1, -1), false}, {"of more than Cap", holding(1, 2, 3), false},
		{"with a block of no bytes", instead(holding(1, 5, 3), 1, nil), false}, {"with a block that is too long", instead(holding(1, 5, 3), 1, filled(1, wide+1)), false},
	}
	for _, x := range tapes {
		l := []api.Tape{blank(8, 9), x.x, blank(9, 9)}
		steps := []api.Step{step(0, 1), step(1, 2, 2), step(2, 3), step(1), step(1, filled(4, wide+1)...), step(0, 4)}
		for stop := -1; stop <= len(steps); stop++ {
			checkDo(t, "a tape "+x.what, l, steps, stop, 1)
		}
		got, _ := write.Do(l, steps, -1, 0)
		if len(got) != 3 || len(got[0].Blocks) != 2 || len(got[2].Blocks) != 1 || (len(got[1].Blocks) == len(x.x.Blocks)+1) != x.can || !x.can && !sameTape(got[1], x.x) {
			t.Errorf("P2001: Do of steps on a tape %s: %v", x.what, got)
		}
	}
	for _, place := range []int{math.MinInt, -1, 2, 3, math.MaxInt} {
		l := []api.Tape{blank(1, 3), blank(2, 3)}
		got := checkDo(t, fmt.Sprint("no tape ", place), l, []api.Step{step(place, 1), step(1, 2), step(place, 3)}, -1, 0)
		if len(got) != 2 || len(got[0].Blocks) != 0 || len(got[1].Blocks) != 1 {
			t.Errorf("P2001: Do of steps on no tape %d: %v", place, got)
		}
	}
}

func TestDoOfNothing(t *testing.T) {
	l, steps := someSteps()
	for _, stop := range []int{math.MinInt, -1, 0, 1, math.MaxInt} {
		if got := checkDo(t, "no steps", l, nil, stop, 5); !sameTapes(got, l) {
			t.Errorf("P2001: Do of no steps: %v", got)
		}
		if got := checkDo(t, "no tapes", nil, steps, stop, 5); len(got) != 0 {
			t.Errorf("P2001: Do of no tapes: %v", got)
		}
		checkDo(t, "nothing", nil, nil, stop, 5)
	}
}

// shelfful are some tapes with files on them, as File and Do lay them: one of two versions, one on two tapes.
func shelfful(t *testing.T) []api.Tape {
	t.Helper()
	l := []api.Tape{blank(4, 9), blank(2, 5), blank(7, 10), blank(3, 64)}
	for i, size := range []int{200, 0, 64, 130, 500} {
		h := version([]string{"a", "b", "a/b", "a", "c"}[i], []int{1, 1, 1, 2, 1}[i], size)
		h.Serial = i + 1
		steps := checkFile(t, h.Path, l, nil, h, filled(i+1, size))
		l = checkDo(t, h.Path, l, steps, -1, 0)
	}
	return l
}

// What is laid comes back, of all versions, and all blocks are good.
func TestWhatIsLaidIsRestored(t *testing.T) {
	l := shelfful(t)
	files := catalog.From(l)
	if len(files) != 5 {
		t.Fatalf("P2001: %d files were laid, not 5", len(files))
	}
	for _, f := range files {
		if b, _, e := restore.Bytes(l, f); e != api.OK || !bytes.Equal(b, filled(f.Serial, f.Size)) {
			t.Errorf("P2001: %s, version %d, comes back as others: error %d", f.Path, f.Version, e)
		}
	}
	for _, x := range l {
		for n, b := range x.Blocks {
			if !isGood(b, x.Label, n) {
				t.Errorf("P2001: block %d of tape %d is not good", n, x.Label)
			}
		}
	}
}

// Cut wherever it may be: what was there is there, and what was laid is there whole, or not at all.
func TestCutsOfAFile(t *testing.T) {
	l := append([]api.Tape{blank(30, 6), blank(31, 5)}, shelfful(t)...)
	was := catalog.From(l)
	b := filled(9, 700)
	h := version("a", 3, len(b))
	h.Serial = 9
	steps := checkFile(t, "another version", l, nil, h, b)
	for stop := range len(steps) + 1 {
		for _, size := range []int{0, 1, 40, thin - 1, thin, thin + 1} {
			then := checkDo(t, "another version", l, steps, stop, size)
			files := catalog.From(then)
			more := len(files) - len(was)
			// Only the mark of the last part ends it, and is there though it be cut.
			if want := stop == len(steps) || stop == len(steps)-1 && size > 0; more < 0 || more > 1 || (more == 1) != want {
				t.Fatalf("P2001: cut behind %d steps and %d bytes: %d files more", stop, size, more)
			}
			for _, f := range files {
				if got, _, e := restore.Bytes(then, f); e != api.OK || !bytes.Equal(got, filled(f.Serial, f.Size)) {
					t.Errorf("P2001: cut behind %d steps and %d bytes: %s is others: error %d", stop, size, f.Path, e)
				}
			}
			if stop < len(steps) && size > 0 && size < thin && write.Rooms(then, nil)[steps[stop].Tape] != 0 {
				t.Errorf("P2001: a tape cut behind %d steps and %d bytes has room", stop, size)
			}
		}
	}
}

// Tapes of a group that was made have no room by its seal, others have.
func TestRoomsBesideAGroup(t *testing.T) {
	l := append(shelfful(t), blank(20, 64), blank(21, 64))
	parity, e := group.Make(l[:2], []api.Tape{l[4]}, 1)
	if e != api.OK {
		t.Fatalf("P1401: Make: error %d", e)
	}
	l[4] = parity[0]
	seals := group.Find(l)
	got := write.Rooms(l, seals)
	if !slices.Equal(got, roomsOf(l, seals)) || got[0] != 0 || got[1] != 0 || got[4] != 0 || got[2] != 0 || got[3] != 64-len(l[3].Blocks) || got[5] != 63 {
		t.Errorf("P2001: Rooms beside a group: %v", got)
	}
	for _, s := range checkFile(t, "tapes beside a group", l, seals, version("z", 1, 900), filled(1, 900)) {
		if s.Tape != 3 {
			t.Errorf("P2001: File lays a block on tape %d, of a group or full", s.Tape)
		}
	}
}

// chance makes numbers.
type chance uint32

func (c *chance) next(most int) int {
	*c = *c*1664525 + 1013904223
	return int(*c>>9) % most
}

// tape is one of any kind.
func (c *chance) tape() api.Tape {
	x := holding(1+c.next(12), c.next(20), 0)
	if c.next(3) > 0 {
		x = holding(x.Label, x.Cap, c.next(x.Cap+2))
	}
	if n := len(x.Blocks); n > 0 && c.next(5) == 0 {
		x = instead(x, c.next(n), filled(c.next(9), c.next(100)))
	}
	switch c.next(25) {
	case 0:
		x.Label = -c.next(2)
	case 1:
		x.Label = greatest + c.next(2)
	case 2, 3:
		x.Lost = true
	case 4:
		x.Cap = 60 + c.next(10)
	case 5:
		x.Cap = -1
	}
	return x
}

// ask is a call of each kind.
type ask struct {
	what       string
	l          []api.Tape
	seals      []api.Seal
	h          api.Head
	b          []byte
	steps      []api.Step
	stop, size int
}

// ask is one of any kind; its steps are those of its file, and some more.
func (c *chance) ask(what string) ask {
	x := ask{what: what, stop: c.next(40) - 5, size: c.next(100) - 5}
	for range c.next(7) {
		x.l = append(x.l, c.tape())
	}
	for range c.next(3) {
		x.seals = append(x.seals, sealOf(1+c.next(12), 1+c.next(12)))
	}
	size := c.next(2) * c.next(2) * c.next(1200)
	if c.next(40) == 0 {
		size = longest - 1 + c.next(3)
	}
	x.h, x.b = version("a", 1, size), filled(c.next(99), size)
	switch c.next(25) {
	case 0:
		x.h.Size += c.next(3) - 1
	case 1:
		x.h.Path = wrongPaths()[c.next(len(wrongPaths()))]
	case 2:
		x.h.Version = c.next(2) * (topmost + c.next(2))
	case 3:
		x.h.Serial = c.next(2) * (topmost + c.next(2))
	case 4, 5:
		x.h.Gone = true
	}
	x.h.From, x.h.Len, x.h.Sum = c.next(9)-2, c.next(9)-2, c.next(9)-2
	x.steps, _ = meaning(x.l, x.seals, x.h, x.b)
	for range c.next(9) {
		more := step(c.next(9)-1, filled(c.next(9), c.next(wide+9))...)
		x.steps = slices.Insert(x.steps, c.next(len(x.steps)+1), more)
	}
	return x
}

// Tapes, seals, versions and steps of any kind: what is answered is what the words say.
func TestAnything(t *testing.T) {
	c := chance(2001)
	count := make(map[api.Errno]int)
	cuts := 0
	for round := range 6000 {
		x := c.ask(fmt.Sprint("round ", round))
		checkRooms(t, x.what, x.l, x.seals, roomsOf(x.l, x.seals)...)
		checkFile(t, x.what, x.l, x.seals, x.h, x.b)
		checkDo(t, x.what, x.l, x.steps, x.stop, x.size)
		_, e := meaning(x.l, x.seals, x.h, x.b)
		count[e]++
		if x.stop >= 0 && x.stop < len(x.steps) {
			cuts++
		}
		if t.Failed() {
			return
		}
	}
	if count[api.OK] < 400 || count[api.ErrArg] < 400 || count[api.ErrSpace] < 400 || cuts < 400 {
		t.Errorf("the tests are of one kind: %v, and %d cuts", count, cuts)
	}
}

// told is all that is answered.
type told struct {
	rooms []int
	steps []api.Step
	e     api.Errno
	tapes []api.Tape
	cut   bool
}

func tell(x ask) told {
	var a told
	a.rooms = write.Rooms(x.l, x.seals)
	a.steps, a.e = write.File(x.l, x.seals, x.h, x.b)
	a.tapes, a.cut = write.Do(x.l, x.steps, x.stop, x.size)
	return a
}

func (a told) same(b told) bool {
	return slices.Equal(a.rooms, b.rooms) && sameSteps(a.steps, b.steps) && a.e == b.e && sameTapes(a.tapes, b.tapes) && a.cut == b.cut
}

func (a told) copied() told {
	a.rooms, a.steps, a.tapes = slices.Clone(a.rooms), slices.Clone(a.steps), clones(a.tapes)
	for i, s := range a.steps {
		a.steps[i].Block = bytes.Clone(s.Block)
	}
	return a
}

func turn(b []byte) {
	for i := range b[:cap(b)] {
		b[:cap(b)][i] ^= 0xff
	}
}

// spoil turns all of an answer, its spare room too.
func (a told) spoil() {
	for i := range a.rooms[:cap(a.rooms)] {
		a.rooms[:cap(a.rooms)][i] = -7
	}
	for _, s := range a.steps[:cap(a.steps)] {
		turn(s.Block)
	}
	clear(a.steps[:cap(a.steps)])
	for _, x := range a.tapes[:cap(a.tapes)] {
		for _, b := range x.Blocks[:cap(x.Blocks)] {
			turn(b)
		}
		clear(x.Blocks[:cap(x.Blocks)])
	}
	clear(a.tapes[:cap(a.tapes)])
}

// asks are such that each call answers something, and each error, and some of any kind.
func asks() []ask {
	l, steps := someSteps()
	tapes := []api.Tape{holding(3, 6, 2), blank(2, 5), lost(holding(6, 9, 2)), holding(8, 64, 3), blank(0, 64), instead(holding(9, 9, 3), 1, nil)}
	out := []ask{
		{what: "nothing"},
		{what: "some steps", l: l, steps: steps, stop: -1},
		{what: "some steps, cut", l: l, steps: steps, stop: 5, size: 9},
		{what: "a file", l: tapes, seals: []api.Seal{sealOf(7, 5)}, h: version("a", 1, 300), b: filled(1, 300), steps: []api.Step{step(3, 1), step(5, 4)}, stop: 1, size: 1},
		{what: "a file on one tape", l: tapes, seals: []api.Seal{sealOf(2, 3)}, h: version("a/b", 1, 300), b: filled(1, 300)},
		{what: "a file of no bytes", l: tapes, h: version("a", 1, 0)},
		{what: "another Size", l: tapes, h: version("a", 1, 9), b: filled(1, 10)},
		{what: "no room", l: tapes[:2], h: version("a", 1, 900), b: filled(1, 900)},
		{what: "a label that can't be", l: tapes, seals: []api.Seal{sealOf(3, 2, 8)}, h: version("a", 1, 9), b: filled(1, 9)},
	}
	c := chance(2002)
	for i := range 300 {
		out = append(out, c.ask(fmt.Sprint("any ", i)))
	}
	return out
}

// roomy is a copy of b with spare room that is filled.
func roomy(b []byte) []byte { return slices.Concat(b, filled(1, wide))[:len(b)] }

// guarded is the same ask in memory that has spare room, all of it filled.
func guarded(x ask) ask {
	l := make([]api.Tape, 0, len(x.l)+3)
	for _, y := range x.l {
		blocks := make([][]byte, 0, len(y.Blocks)+2)
		for _, b := range y.Blocks {
			blocks = append(blocks, roomy(b))
		}
		y.Blocks = append(blocks, filled(2, thin), filled(3, thin))[:len(y.Blocks)]
		l = append(l, y)
	}
	x.l = append(l, blank(1, 64), blank(2, 64), holding(3, 64, 1))[:len(x.l)]
	var seals []api.Seal
	for _, s := range x.seals {
		s.Labels = slices.Concat(s.Labels, []int{1, 2, 3})[:len(s.Labels)]
		seals = append(seals, s)
	}
	x.seals = append(seals, sealOf(1, 2), sealOf(3, 4))[:len(x.seals)]
	var steps []api.Step
	for _, s := range x.steps {
		steps = append(steps, api.Step{Tape: s.Tape, Block: roomy(s.Block)})
	}
	x.steps = append(steps, step(0, 1), step(1, 2))[:len(x.steps)]
	x.b = roomy(x.b)
	return x
}

// whole is all that is handed in, its spare room too, in memory of its own.
func (x ask) whole() ask {
	var l []api.Tape
	for _, y := range x.l[:cap(x.l)] {
		y.Blocks = slices.Clone(y.Blocks[:cap(y.Blocks)])
		for i, b := range y.Blocks {
			y.Blocks[i] = bytes.Clone(b[:cap(b)])
		}
		l = append(l, y)
	}
	x.l = l
	x.seals = slices.Clone(x.seals[:cap(x.seals)])
	for i, s := range x.seals {
		x.seals[i].Labels = slices.Clone(s.Labels[:cap(s.Labels)])
	}
	x.steps = slices.Clone(x.steps[:cap(x.steps)])
	for i, s := range x.steps {
		x.steps[i].Block = bytes.Clone(s.Block[:cap(s.Block)])
	}
	x.b = bytes.Clone(x.b[:cap(x.b)])
	return x
}

func sameSeal(a, b api.Seal) bool {
	return a.Number == b.Number && a.Index == b.Index && a.Data == b.Data && a.Parity == b.Parity && slices.Equal(a.Labels, b.Labels)
}

func (x ask) sameWhole(was ask) bool {
	now := x.whole()
	return sameTapes(now.l, was.l) && slices.EqualFunc(now.seals, was.seals, sameSeal) && sameSteps(now.steps, was.steps) && bytes.Equal(now.b, was.b)
}

func TestWhatIsHandedInStays(t *testing.T) {
	for _, x := range asks() {
		y := guarded(x)
		was := y.whole()
		got := tell(y)
		if !y.sameWhole(was) {
			t.Errorf("P2002: %s: what was handed in has changed", x.what)
		}
		// Only now is it asked without spare room: a call that turns what it is handed would else have done so ahead of the copy.
		if !got.same(tell(x)) {
			t.Errorf("P2002: %s: an answer hangs on spare room", x.what)
		}
		got.spoil()
		if !y.sameWhole(was) {
			t.Errorf("P2002: %s: an answer shares memory with what was handed in", x.what)
		}
	}
}

// Who owns what was handed in turns it: no answer is turned by that, and none comes from what was.
func TestWhatIsHandedInIsNotKept(t *testing.T) {
	for _, x := range asks() {
		y := guarded(x)
		got := tell(y)
		was := got.copied()
		turn(y.b)
		for _, s := range y.steps {
			turn(s.Block)
		}
		for _, s := range y.seals {
			clear(s.Labels)
		}
		for _, z := range y.l {
			for _, b := range z.Blocks {
				turn(b)
			}
		}
		var want told
		want.rooms = roomsOf(y.l, y.seals)
		want.steps, want.e = meaning(y.l, y.seals, y.h, y.b)
		want.tapes, want.cut = doneOf(y.l, y.steps, y.stop, y.size)
		if !tell(y).same(want) {
			t.Errorf("P2002: %s: what is another by now is told as it was", x.what)
		}
		clear(y.l)
		clear(y.steps)
		clear(y.seals)
		if !got.same(was) || !tell(x).same(was) {
			t.Errorf("P2002: %s: what was handed in is kept", x.what)
		}
	}
}

func TestAnswersAreNewMemory(t *testing.T) {
	for _, x := range asks() {
		first, second := tell(x), tell(x)
		want := first.copied()
		first.spoil()
		if !second.same(want) || !tell(x).same(want) {
			t.Errorf("P2002: %s: two answers share memory", x.what)
		}
	}
}

// No two lists of one answer share memory: each block, and each tape's list of them, is turned and lengthened by itself.
func TestListsOfOneAnswer(t *testing.T) {
	for _, x := range asks() {
		a := tell(x)
		var blocks [][]byte
		for _, s := range a.steps {
			blocks = append(blocks, s.Block)
		}
		for i, y := range a.tapes {
			was := clones(a.tapes)
			_ = append(y.Blocks, []byte{1})
			if !sameTapes(a.tapes, was) {
				t.Errorf("P2002: %s: the list of tape %d has another one's memory behind", x.what, i)
			}
			blocks = append(blocks, y.Blocks...)
		}
		for i, b := range blocks {
			for k := range b[:cap(b)] {
				b[:cap(b)][k] = byte(i)
			}
		}
		for i, b := range blocks {
			for _, c := range b[:cap(b)] {
				if c != byte(i) {
					t.Fatalf("P2002: %s: two blocks of one answer share memory", x.what)
				}
			}
		}
	}
}

func everything(l []ask) []told {
	var out []told
	for _, x := range l {
		out = append(out, tell(x))
	}
	return out
}

func TestAnswersHangOnArgumentsAlone(t *testing.T) {
	l := asks()
	first := everything(l)
	if !slices.EqualFunc(everything(l), first, told.same) {
		t.Error("P2002: the same calls once more answer otherwise")
	}
	slices.Reverse(l)
	backwards := everything(l)
	slices.Reverse(backwards)
	if !slices.EqualFunc(backwards, first, told.same) {
		t.Error("P2002: the same calls in another order answer otherwise")
	}
}

// All of them ask the same, beside each other.
func TestAnswersBesideOneAnother(t *testing.T) {
	l := asks()
	first := everything(l)
	var alike [4]bool
	var workers sync.WaitGroup
	for i := range alike {
		workers.Go(func() { alike[i] = slices.EqualFunc(everything(l), first, told.same) })
	}
	workers.Wait()
	for i, ok := range alike {
		if !ok {
			t.Errorf("P2002: worker %d was answered otherwise", i)
		}
	}
}
