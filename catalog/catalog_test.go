package catalog_test

import (
	"bytes"
	"encoding/binary"
	"fmt"
	"hash/crc32"
	"math"
	"slices"
	"strings"
	"sync"
	"testing"
	"unsafe"

	"cartridge/api"
	"cartridge/catalog"
)

const thin = 79 // bytes of a block of all kinds but parity's

func TestTheLimits(t *testing.T) {
	if api.Load != 64 || api.Frame != thin || api.MaxFile != 4000 || api.MaxBlocks != 64 || api.MaxTapes != 24 || api.FHead != 2 {
		t.Error("the numbers of package api are others")
	}
}

// filled makes bytes, none of them 0, that hang on seed alone.
func filled(seed, size int) []byte {
	b := make([]byte, size)
	for i := range b {
		b[i] = byte((i*7+seed*31)%255) + 1
	}
	return b
}

// raw lays a block by the rule of chapter 9, whether frame.Put would or not.
func raw(kind, label, number int, load []byte) []byte {
	room := 64
	if kind == api.FParity {
		room = thin
	}
	b := binary.BigEndian.AppendUint32([]byte{byte(kind)}, uint32(label))
	b = binary.BigEndian.AppendUint32(b, uint32(number))
	b = binary.BigEndian.AppendUint16(b, uint16(len(load)))
	b = append(b, load...)
	b = append(b, make([]byte, max(room-len(load), 0))...)
	return binary.BigEndian.AppendUint32(b, crc32.Checksum(b, crc32.MakeTable(crc32.Castagnoli)))
}

// headBytes lays a head's bytes by the rule of chapter 10, be it right or not.
func headBytes(h api.Head) []byte {
	b := append([]byte{byte(len(h.Path))}, h.Path...)
	for _, n := range []int{h.Version, h.Size, h.From, h.Len, h.Serial, h.Sum} {
		b = binary.BigEndian.AppendUint32(b, uint32(n))
	}
	if h.Gone {
		return append(b, 1)
	}
	return append(b, 0)
}

// begun is a tape with its label alone.
func begun(label int) api.Tape {
	return api.Tape{Label: label, Cap: 64, Blocks: [][]byte{raw(api.FLabel, label, 0, []byte("D"))}}
}

// with answers a tape that has one block more.
func with(x api.Tape, kind int, load []byte) api.Tape {
	x = clone(x)
	x.Blocks = append(x.Blocks, raw(kind, x.Label, len(x.Blocks), load))
	return x
}

// lay answers a tape that has a part more, and that part.
func lay(x api.Tape, h api.Head) (api.Tape, api.Part) {
	p := api.Part{Head: h, Label: x.Label, Block: len(x.Blocks)}
	x = with(x, api.FHead, headBytes(h))
	for piece := range slices.Chunk(filled(h.From, h.Len), 64) {
		x = with(x, api.FData, piece)
	}
	return with(x, api.FMark, nil), p
}

// tapeOf is a tape of the parts of these heads, and those parts.
func tapeOf(label int, heads ...api.Head) (api.Tape, []api.Part) {
	x := begun(label)
	var parts []api.Part
	for _, h := range heads {
		var p api.Part
		x, p = lay(x, h)
		parts = append(parts, p)
	}
	return x, parts
}

// tapesOf are tapes of the labels 1, 2, .., each of the parts of its heads, and all those parts in order.
func tapesOf(heads ...[]api.Head) ([]api.Tape, []api.Part) {
	var l []api.Tape
	var parts []api.Part
	for i, on := range heads {
		x, its := tapeOf(i+1, on...)
		l, parts = append(l, x), append(parts, its...)
	}
	return l, parts
}

// rotten answers a tape of which in these blocks a bit is turned.
func rotten(x api.Tape, blocks ...int) api.Tape {
	x = clone(x)
	for _, n := range blocks {
		x.Blocks[n][(n*7+x.Label)%thin] ^= 1 << (n % 8)
	}
	return x
}

// cut answers a tape that has its first blocks alone.
func cut(x api.Tape, blocks int) api.Tape {
	x = clone(x)
	x.Blocks = x.Blocks[:blocks]
	return x
}

func lost(x api.Tape) api.Tape {
	x.Lost = true
	return x
}

func clone(x api.Tape) api.Tape {
	l := make([][]byte, len(x.Blocks))
	for i, b := range x.Blocks {
		l[i] = bytes.Clone(b)
	}
	x.Blocks = l
	return x
}

func clones(l []api.Tape) []api.Tape {
	var out []api.Tape
	for _, x := range l {
		out = append(out, clone(x))
	}
	return out
}

func sameTape(a, b api.Tape) bool {
	return a.Label == b.Label && a.Cap == b.Cap && a.Lost == b.Lost && slices.EqualFunc(a.Blocks, b.Blocks, bytes.Equal)
}

func sameTapes(a, b []api.Tape) bool { return slices.EqualFunc(a, b, sameTape) }

func sameFile(a, b api.File) bool {
	return a.Path == b.Path && a.Version == b.Version && a.Size == b.Size && a.Sum == b.Sum && a.Serial == b.Serial && a.Gone == b.Gone && slices.Equal(a.Parts, b.Parts)
}

func sameFiles(a, b []api.File) bool { return slices.EqualFunc(a, b, sameFile) }

// short is what is told of an answer, be it ever so long.
func short(answer any) string {
	const most = 600
	s := fmt.Sprint(answer)
	if len(s) > most {
		return s[:most] + " .."
	}
	return s
}

func isNoFile(f api.File) bool { return sameFile(f, api.File{}) && f.Parts == nil }

// theHead is that of all the parts that the tests of Whole ask with, where it does not matter.
func theHead(size int) api.Head {
	return api.Head{Path: "d/e", Version: 2, Size: size, Serial: 5, Sum: 77}
}

// goneHead is one of a version from which on there is no file.
func goneHead(path string, version, serial int) api.Head {
	return api.Head{Path: path, Version: version, Serial: serial, Gone: true}
}

// piece is a head of a part of what h tells of.
func piece(h api.Head, from, n int) api.Head {
	h.From, h.Len = from, n
	return h
}

// all is a head of a file in one part.
func all(path string, version, size, serial int) api.Head {
	return api.Head{Path: path, Version: version, Size: size, Len: size, Serial: serial, Sum: version%1000*5000 + size}
}

// run is From and Len of a part.
type run struct{ from, n int }

// partsOf are parts of one in all, each on a tape of its own.
func partsOf(h api.Head, runs ...run) []api.Part {
	var l []api.Part
	for i, r := range runs {
		l = append(l, api.Part{Head: piece(h, r.from, r.n), Label: 10 + i, Block: 3 * i})
	}
	return l
}

// pick answers those of the list that stand at these places, in that order.
func pick[T any](l []T, places ...int) []T {
	var out []T
	for _, i := range places {
		out = append(out, l[i])
	}
	return out
}

// orders are all orders of the numbers from 0 to below n.
func orders(n int) [][]int {
	if n == 0 {
		return [][]int{nil}
	}
	var out [][]int
	for _, order := range orders(n - 1) {
		for at := range n {
			out = append(out, slices.Insert(slices.Clone(order), at, n-1))
		}
	}
	return out
}

// fileOf is the file that these parts make up.
func fileOf(parts ...api.Part) api.File {
	h := parts[0].Head
	return api.File{Path: h.Path, Version: h.Version, Size: h.Size, Sum: h.Sum, Serial: h.Serial, Gone: h.Gone, Parts: parts}
}

// alike tells whether two heads are of one in all.
func alike(a, b api.Head) bool {
	return a.Path == b.Path && a.Version == b.Version && a.Size == b.Size && a.Sum == b.Sum && a.Serial == b.Serial && a.Gone == b.Gone
}

// wholeOf is what Whole is to answer, part by part; no number is so great that it would wrap round.
func wholeOf(parts []api.Part) (api.File, bool) {
	if len(parts) == 0 || parts[0].Head.Size < 0 {
		return api.File{}, false
	}
	for _, p := range parts {
		if !alike(p.Head, parts[0].Head) {
			return api.File{}, false
		}
	}
	size, came := parts[0].Head.Size, 0
	var row []api.Part
	used := make([]bool, len(parts))
	for {
		i := slices.IndexFunc(parts, func(p api.Part) bool { return p.Head.From == came && (size == 0 || p.Head.Len > 0) })
		if i < 0 || used[i] {
			return api.File{}, false
		}
		used[i] = true
		row = append(row, parts[i])
		came += parts[i].Head.Len
		if came == size {
			return fileOf(row...), true
		}
		if came > size {
			return api.File{}, false
		}
	}
}

// fromOf is what From is to answer of these parts, in the order in which they lie on the tapes.
func fromOf(parts []api.Part) []api.File {
	var out []api.File
	for i, p := range parts {
		if slices.ContainsFunc(parts[:i], func(q api.Part) bool { return alike(q.Head, p.Head) }) {
			continue
		}
		var like []api.Part
		for _, q := range parts {
			if alike(q.Head, p.Head) {
				like = append(like, q)
			}
		}
		f, ok := wholeOf(like)
		if !ok {
			continue
		}
		at := slices.IndexFunc(out, func(g api.File) bool { return g.Path == f.Path && g.Version == f.Version })
		if at < 0 {
			at = len(out)
			out = append(out, f)
		}
		if f.Serial > out[at].Serial {
			out[at] = f
		}
	}
	slices.SortFunc(out, func(a, b api.File) int {
		if a.Path == b.Path {
			return a.Version - b.Version
		}
		return bytes.Compare([]byte(a.Path), []byte(b.Path))
	})
	return out
}

// checkWhole holds Whole against what is written out, and that against its meaning.
func checkWhole(t *testing.T, what string, parts []api.Part, want ...api.Part) {
	t.Helper()
	file := api.File{}
	if len(want) > 0 {
		file = fileOf(want...)
	}
	was := slices.Clone(parts)
	got, ok := catalog.Whole(parts)
	if !slices.Equal(parts, was) {
		t.Errorf("P1702: %s: Whole turned what was handed in", what)
	}
	if ok != (len(want) > 0) || !sameFile(got, file) || !ok && !isNoFile(got) {
		t.Errorf("P1701: %s: Whole: %s, %v, not %s", what, short(got), ok, short(file))
	}
	if f, is := wholeOf(parts); is != (len(want) > 0) || !sameFile(f, file) {
		t.Errorf("the tests are of two minds of %s: %s, %v", what, short(f), is)
	}
}

// checkRuns does so with parts of one in all; the want are places of those that make up the file.
func checkRuns(t *testing.T, what string, size int, runs []run, want ...int) {
	t.Helper()
	parts := partsOf(theHead(size), runs...)
	checkWhole(t, fmt.Sprint(what, ": of ", size, " bytes, ", runs), parts, pick(parts, want...)...)
}

// checkFrom holds From against what is written out.
func checkFrom(t *testing.T, what string, l []api.Tape, want ...api.File) {
	t.Helper()
	if got := catalog.From(l); !sameFiles(got, want) {
		t.Errorf("P1701: %s: From: %s, not %s", what, short(got), short(want))
	}
}

// checkParts does so of tapes without damage, and holds what is written out against its meaning.
func checkParts(t *testing.T, what string, l []api.Tape, parts []api.Part, want ...api.File) {
	t.Helper()
	checkFrom(t, what, l, want...)
	if other := fromOf(parts); !sameFiles(other, want) {
		t.Errorf("the tests are of two minds of %s: %s", what, short(other))
	}
}

// From nothing: nothing.
func TestTheExample(t *testing.T) {
	checkFrom(t, "nothing", nil)
	checkFrom(t, "an empty list", []api.Tape{})
}

func TestWholeOfNothing(t *testing.T) {
	checkWhole(t, "nothing", nil)
	checkWhole(t, "an empty list", []api.Part{})
	checkWhole(t, "spare room", make([]api.Part, 0, 4))
}

func TestWholeOfOnePart(t *testing.T) {
	for _, size := range []int{1, 2, 63, 64, 65, 100, 3999, 4000, 4001, 1 << 30, 1<<31 - 1, 1 << 31, 1 << 40, math.MaxInt - 1, math.MaxInt} {
		checkRuns(t, "one part", size, []run{{0, size}}, 0)
		checkRuns(t, "one part that is short", size, []run{{0, size - 1}})
		checkRuns(t, "one part that begins late", size, []run{{1, size - 1}})
		checkRuns(t, "one part of none", size, []run{{0, 0}})
		checkRuns(t, "one part of none at the end", size, []run{{size, 0}})
		checkRuns(t, "one part that lies elsewhere", size, []run{{-1, size}})
		checkRuns(t, "one part of less than none", size, []run{{0, -size}})
		if size < math.MaxInt {
			checkRuns(t, "one part that is long", size, []run{{0, size + 1}})
			checkRuns(t, "one part that begins early", size, []run{{-1, size + 1}})
		}
	}
}

// All that a head may say, and more, comes into the file, and what a part says stays.
func TestWhatTheFileSays(t *testing.T) {
	numbers := []int{0, 1, 2, 77, 1 << 30, 1<<32 - 1, 1 << 32, -1, math.MinInt, math.MaxInt}
	for _, path := range []string{"", "a", "a/b", "../x", "/", "A b", "\x00\xff", strings.Repeat("long/", 60)} {
		for i, n := range numbers {
			h := api.Head{Path: path, Version: n, Size: 9, Serial: numbers[(i+3)%len(numbers)], Sum: numbers[(i+5)%len(numbers)], Gone: i%2 == 0}
			one := api.Part{Head: piece(h, 0, 4), Label: n, Block: numbers[(i+7)%len(numbers)]}
			two := api.Part{Head: piece(h, 4, 5), Label: -n, Block: n}
			checkWhole(t, fmt.Sprint("a file of path ", path, " and number ", n), []api.Part{two, one}, one, two)
		}
	}
}

func TestWholeInAnyOrder(t *testing.T) {
	runs := []run{{0, 10}, {10, 1}, {11, 64}, {75, 5}, {80, 20}}
	parts := partsOf(theHead(100), runs...)
	for _, order := range orders(len(runs)) {
		checkWhole(t, fmt.Sprint("order ", order), pick(parts, order...), parts...)
		// Without any one of them it is not whole.
		for gap := range order {
			rest := slices.Delete(slices.Clone(order), gap, gap+1)
			checkWhole(t, fmt.Sprint("a gap, order ", rest), pick(parts, rest...))
		}
	}
}

func TestFilesOfNoBytes(t *testing.T) {
	checkRuns(t, "one part", 0, []run{{0, 0}}, 0)
	checkRuns(t, "two parts", 0, []run{{0, 0}, {0, 0}}, 0)
	checkRuns(t, "a part from another byte on", 0, []run{{1, 0}})
	checkRuns(t, "a part from below 0 on", 0, []run{{-1, 0}})
	checkRuns(t, "other parts beside it", 0, []run{{1, 0}, {-1, 1}, {0, 0}, {0, 1}, {0, -1}}, 2)
	checkRuns(t, "a part that goes beyond it", 0, []run{{0, 1}})
	checkRuns(t, "such a part ahead of the right one", 0, []run{{0, 1}, {0, 0}})
	checkRuns(t, "such a part behind the right one", 0, []run{{0, 0}, {0, 1}}, 0)
	checkRuns(t, "a part of less than none", 0, []run{{0, -1}})
	checkRuns(t, "such a part ahead of the right one", 0, []run{{0, -1}, {0, 0}})
	checkRuns(t, "such a part behind the right one", 0, []run{{0, 0}, {0, -1}}, 0)
	checkRuns(t, "a part from below 0 on, up to 0", 0, []run{{-1, 1}})
	gone := goneHead("a", 3, 9)
	parts := partsOf(gone, run{0, 0}, run{0, 0})
	checkWhole(t, "a file that is gone", parts[:1], parts[0])
	checkWhole(t, "a file that is gone, twice", parts, parts[0])
	checkWhole(t, "a file that is gone, from another byte on", partsOf(gone, run{1, 0}))
	gone.Size = 7
	parts = partsOf(gone, run{3, 4}, run{0, 3})
	checkWhole(t, "a file that is gone and has bytes", parts, parts[1], parts[0])
}

// Parts of less than none lead a file of no bytes below 0, where it may go on, back to 0, or round without end.
func TestBelowByteZero(t *testing.T) {
	checkRuns(t, "there and back", 0, []run{{0, -3}, {-3, 3}}, 0, 1)
	checkRuns(t, "there and back in steps", 0, []run{{-1, 1}, {-3, 2}, {0, -3}}, 2, 1, 0)
	checkRuns(t, "there and beyond", 0, []run{{0, -3}, {-3, 4}})
	checkRuns(t, "there and no further", 0, []run{{0, -3}, {-3, 0}})
	checkRuns(t, "there and round", 0, []run{{0, -3}, {-3, 1}, {-2, -1}})
	checkRuns(t, "there and round, with the way back behind", 0, []run{{0, -3}, {-3, 1}, {-2, -1}, {-3, 3}})
	for _, size := range []int{1, 3} {
		checkRuns(t, "parts of less than none", size, []run{{0, -3}, {-3, 3 + size}})
		checkRuns(t, "parts of less than none beside others", size, []run{{0, -3}, {0, size}, {-3, 3}}, 1)
	}
}

func TestSizesBelowZero(t *testing.T) {
	for _, size := range []int{-1, -2, -64, -1 << 31, -1 << 32, math.MinInt + 1, math.MinInt} {
		for _, r := range []run{{0, 0}, {0, size}, {size, 0}, {size, 1}, {0, -1}, {0, 1}, {-1, size + 1}} {
			checkRuns(t, "a size below 0", size, []run{r})
			checkRuns(t, "a size below 0, more parts", size, []run{r, {0, -1}, {-1, size + 1}, {-1, -1}})
		}
	}
}

func TestGaps(t *testing.T) {
	for _, runs := range [][]run{
		{{1, 99}}, {{10, 90}}, {{1, 9}, {10, 90}}, {{99, 1}},
		{{0, 10}, {11, 89}}, {{0, 10}, {20, 80}}, {{0, 1}, {99, 1}}, {{0, 10}, {10, 10}, {21, 79}}, {{0, 10}, {9, 91}}, {{0, 50}, {40, 60}},
		{{0, 99}}, {{0, 10}, {10, 89}}, {{0, 1}}, {{0, 50}, {50, 49}, {100, 0}},
		{{1, 98}}, {{-1, 101}}, {{-1, 1}, {1, 99}}, {{100, 100}}, {{100, 0}}, {{-100, 100}},
	} {
		checkRuns(t, "a gap", 100, runs)
		slices.Reverse(runs)
		checkRuns(t, "a gap, backwards", 100, runs)
	}
}

func TestPartsThatGoBeyond(t *testing.T) {
	for _, runs := range [][]run{
		{{0, 101}}, {{0, 50}, {50, 51}}, {{0, 99}, {99, 2}}, {{0, 200}}, {{0, 1}, {1, 100}}, {{0, 101}, {0, 100}}, {{0, 50}, {50, 51}, {50, 50}},
		{{0, math.MaxInt}}, {{0, 1}, {1, math.MaxInt}}, {{0, 99}, {99, math.MaxInt - 98}}, {{0, 50}, {50, math.MaxInt - 49}, {50, 50}},
	} {
		parts := partsOf(theHead(100), runs...)
		if got, ok := catalog.Whole(parts); ok || !isNoFile(got) {
			t.Errorf("P1701: parts that go beyond it, %v: Whole: %v, %v", runs, got, ok)
		}
	}
	checkRuns(t, "such a part behind the right one", 100, []run{{0, 100}, {0, 101}}, 0)
	checkRuns(t, "such a part where it does not come", 100, []run{{0, 50}, {49, 99}, {50, 50}}, 0, 2)
	checkRuns(t, "a part behind its end", 100, []run{{100, 5}, {0, 100}, {101, 5}}, 1)
}

// Of the same part, and of those from one byte on, the first is taken, come of it what may.
func TestTheFirstOfThem(t *testing.T) {
	checkRuns(t, "the same part twice", 100, []run{{0, 100}, {0, 100}}, 0)
	checkRuns(t, "the same parts twice", 100, []run{{0, 40}, {40, 60}, {0, 40}, {40, 60}}, 0, 1)
	checkRuns(t, "the same parts twice, mixed", 100, []run{{40, 60}, {0, 40}, {0, 40}, {40, 60}}, 1, 0)
	checkRuns(t, "the short one first", 100, []run{{0, 40}, {0, 100}, {40, 60}}, 0, 2)
	checkRuns(t, "the long one first", 100, []run{{0, 100}, {0, 40}, {40, 60}}, 0)
	checkRuns(t, "the short one first, which comes to nothing", 100, []run{{0, 40}, {0, 100}})
	checkRuns(t, "the long one first, which comes to nothing", 100, []run{{0, 70}, {0, 40}, {40, 60}})
	checkRuns(t, "the short one first, in the middle", 100, []run{{0, 40}, {40, 10}, {40, 60}})
	checkRuns(t, "the short one first, at the end", 100, []run{{40, 59}, {40, 60}, {0, 40}})
	checkRuns(t, "other ways from the middle on", 100, []run{{70, 30}, {0, 40}, {40, 30}, {40, 60}, {70, 20}}, 1, 2, 0)
	for _, order := range orders(4) {
		runs := pick([]run{{0, 40}, {0, 100}, {40, 30}, {70, 30}}, order...)
		if slices.Index(order, 1) < slices.Index(order, 0) {
			checkRuns(t, "the long one first", 100, runs, slices.Index(order, 1))
			continue
		}
		checkRuns(t, "the short one first", 100, runs, slices.Index(order, 0), slices.Index(order, 2), slices.Index(order, 3))
	}
}

// In a file that has bytes parts of none, and of less, are passed over.
func TestPartsOfNone(t *testing.T) {
	for _, n := range []int{0, -1, -40, math.MinInt} {
		checkRuns(t, "at the beginning", 100, []run{{0, n}, {0, 40}, {40, 60}}, 1, 2)
		checkRuns(t, "in the middle", 100, []run{{0, 40}, {40, n}, {40, 60}}, 0, 2)
		checkRuns(t, "at the end", 100, []run{{0, 40}, {40, 60}, {100, n}}, 0, 1)
		checkRuns(t, "everywhere", 100, []run{{100, n}, {40, n}, {0, n}, {40, 60}, {0, 40}}, 4, 3)
		checkRuns(t, "alone", 100, []run{{0, n}, {40, n}, {100, n}})
		checkRuns(t, "in a gap", 100, []run{{0, 40}, {40, n}, {41, 59}})
	}
}

// In all fields but From and Len they are of one, or there is no file.
func TestUnlikeParts(t *testing.T) {
	for what, turn := range map[string]func(h *api.Head){
		"Path": func(h *api.Head) { h.Path = "d/f" }, "a longer Path": func(h *api.Head) { h.Path += "e" }, "no Path": func(h *api.Head) { h.Path = "" },
		"Version": func(h *api.Head) { h.Version++ }, "Version, far off": func(h *api.Head) { h.Version += 1 << 32 },
		"Size": func(h *api.Head) { h.Size++ }, "a smaller Size": func(h *api.Head) { h.Size-- }, "Size 0": func(h *api.Head) { h.Size = 0 }, "Size below 0": func(h *api.Head) { h.Size = -1 },
		"Sum": func(h *api.Head) { h.Sum++ }, "Sum 0": func(h *api.Head) { h.Sum = 0 },
		"Serial": func(h *api.Head) { h.Serial++ }, "a smaller Serial": func(h *api.Head) { h.Serial-- },
		"Gone": func(h *api.Head) { h.Gone = true },
	} {
		for at := range 4 {
			parts := partsOf(theHead(100), run{0, 40}, run{40, 60}, run{0, 40}, run{70, 10})
			turn(&parts[at].Head)
			checkWhole(t, fmt.Sprint("unlike in ", what, ", part ", at), parts)
			one := partsOf(theHead(100), run{0, 100})
			other := partsOf(theHead(0), run{0, 0})
			checkWhole(t, "all of it", one, one[0])
			turn(&other[0].Head)
			checkWhole(t, fmt.Sprint("two that are whole, unlike in Size and ", what), slices.Concat(one, other))
		}
	}
	for _, pair := range [][]api.Head{
		{theHead(0), piece(theHead(0), 0, 1)}, {theHead(0), piece(theHead(0), 5, -7)}, {theHead(0), piece(theHead(0), math.MinInt, math.MinInt)},
	} {
		parts := []api.Part{{Head: pair[0], Label: 1, Block: 2}, {Head: pair[1], Label: 3, Block: 4}}
		checkWhole(t, "unlike in From and Len alone", parts, parts[0])
	}
}

// No sum of From and Len wraps round.
func TestGreatNumbers(t *testing.T) {
	const half = 1 << 62
	checkRuns(t, "two halves", math.MaxInt, []run{{half, half - 1}, {0, half}}, 1, 0)
	for _, x := range []struct {
		size int
		runs []run
	}{
		{math.MaxInt, []run{{0, half}, {half, half}}}, {math.MaxInt, []run{{0, math.MaxInt - 1}, {math.MaxInt - 1, 2}, {math.MinInt, 1}, {math.MinInt + 1, math.MaxInt}}},
		{0, []run{{0, math.MinInt}, {math.MinInt, math.MinInt}}}, {0, []run{{0, math.MinInt}, {math.MinInt, -1}, {math.MaxInt, -math.MaxInt}}},
		{0, []run{{0, half}, {half, half}, {math.MinInt, -math.MaxInt}, {1, -1}}}, {0, []run{{0, math.MaxInt}, {math.MaxInt, -math.MaxInt}}},
		{1, []run{{0, math.MinInt}, {math.MinInt, math.MaxInt}, {-1, 2}}},
	} {
		if got, ok := catalog.Whole(partsOf(theHead(x.size), x.runs...)); ok || !isNoFile(got) {
			t.Errorf("P1701: of %d bytes, %v: Whole: %v, %v", x.size, x.runs, got, ok)
		}
	}
	checkRuns(t, "to the least int and back", 0, []run{{0, math.MinInt}, {math.MinInt, math.MaxInt}, {-1, 1}}, 0, 1, 2)
}

// Each list of up to three parts of some bytes, of some sizes.
func TestAllSmallLists(t *testing.T) {
	var kinds []run
	for from := -1; from <= 3; from++ {
		for n := -2; n <= 3; n++ {
			kinds = append(kinds, run{from, n})
		}
	}
	check := func(size int, runs ...run) {
		t.Helper()
		parts := partsOf(theHead(size), runs...)
		want, is := wholeOf(parts)
		if got, ok := catalog.Whole(parts); ok != is || !sameFile(got, want) {
			t.Errorf("P1701: of %d bytes, %v: Whole: %v, %v, not %v", size, runs, got, ok, want)
		}
	}
	for size := -1; size <= 4; size++ {
		for _, a := range kinds {
			check(size, a)
			for _, b := range kinds {
				check(size, a, b)
				for _, c := range kinds {
					check(size, a, b, c)
				}
			}
		}
	}
}

// row is a list of numbers that looks like chance, and is the same each time.
type row uint64

// below answers the next one, from 0 to below n.
func (r *row) below(n int) int {
	*r = *r*6364136223846793005 + 1442695040888963407
	return int(uint64(*r) >> 33 % uint64(n))
}

func TestLongerLists(t *testing.T) {
	next := row(1)
	for range 60_000 {
		size := next.below(9)
		var runs []run
		for range 4 + next.below(12) {
			runs = append(runs, run{next.below(size + 2), next.below(5) - next.below(2)})
		}
		parts := partsOf(theHead(size), runs...)
		want, is := wholeOf(parts)
		if got, ok := catalog.Whole(parts); ok != is || !sameFile(got, want) {
			t.Errorf("P1701: of %d bytes, %v: Whole: %v, %v, not %v", size, runs, got, ok, want)
		}
	}
}

// Far more parts than there can be on tapes, so that each may be looked at a few times, but not by each other.
func TestManyParts(t *testing.T) {
	const many = 300_000
	var parts []api.Part
	for i := range many {
		parts = append(parts, api.Part{Head: piece(theHead(many), i, 1), Label: i, Block: i})
	}
	want := fileOf(slices.Clone(parts)...)
	slices.Reverse(parts)
	if got, ok := catalog.Whole(parts); !ok || !sameFile(got, want) {
		t.Error("P1701: Whole of many parts is another file")
	}
	if got, ok := catalog.Whole(parts[:many-1]); ok || !isNoFile(got) {
		t.Error("P1701: Whole of many parts, without the first one, is a file")
	}
	for i := range parts {
		parts[i].Head = piece(theHead(0), i-many, 1)
	}
	parts[0].Head = piece(theHead(0), 0, -many)
	parts[many-1].Head = piece(theHead(0), -many, 0)
	if got, ok := catalog.Whole(parts); ok || !isNoFile(got) {
		t.Error("P1701: Whole of many parts that go round is a file")
	}
}

// A tape of which each byte is written out.
func TestFromByHand(t *testing.T) {
	label := []byte("\x01\x00\x00\x00\x03\x00\x00\x00\x00\x00\x01D" + strings.Repeat("\x00", 63) + "sum4")
	head := []byte("\x02\x00\x00\x00\x03\x00\x00\x00\x01\x00\x1d\x03a/b\x00\x00\x00\x02\x00\x00\x00\x01\x00\x00\x00\x00\x00\x00\x00\x01\x00\x00\x00\x09\xff\x00\x00\x07\x00" + strings.Repeat("\x00", 35) + "sum4")
	data := []byte("\x04\x00\x00\x00\x03\x00\x00\x00\x02\x00\x01x" + strings.Repeat("\x00", 63) + "sum4")
	mark := []byte("\x04\x00\x00\x00\x03\x00\x00\x00\x03\x00\x00" + strings.Repeat("\x00", 64) + "sum4")
	l := [][]byte{label, head, data, mark}
	for n, b := range l {
		if len(b) != thin {
			t.Fatalf("block %d has %d bytes", n, len(b))
		}
		binary.BigEndian.PutUint32(b[thin-4:], crc32.Checksum(b[:thin-4], crc32.MakeTable(crc32.Castagnoli)))
	}
	h := api.Head{Path: "a/b", Version: 2, Size: 1, Len: 1, Serial: 9, Sum: 0xff000007}
	want := api.File{Path: "a/b", Version: 2, Size: 1, Sum: 0xff000007, Serial: 9, Parts: []api.Part{{Head: h, Label: 3, Block: 1}}}
	checkFrom(t, "four blocks", []api.Tape{{Label: 3, Cap: 4, Blocks: l}}, want)
	checkFrom(t, "four blocks of another label", []api.Tape{{Label: 4, Cap: 4, Blocks: l}})
	checkFrom(t, "three blocks", []api.Tape{{Label: 3, Cap: 4, Blocks: l[:3]}})
}

func TestTapesWithoutParts(t *testing.T) {
	whole, parts := tapeOf(3, all("a", 1, 5, 1))
	head := headBytes(all("a", 1, 5, 1))
	l := []api.Tape{
		{}, {Label: 1, Cap: 64}, {Label: 1, Cap: 64, Blocks: [][]byte{}}, begun(1), lost(begun(1)), lost(whole), lost(api.Tape{Label: 3}),
		with(begun(1), api.FData, filled(1, 5)), with(begun(1), api.FMark, nil), with(begun(1), api.FParity, head), with(begun(1), api.FSeal, head), with(begun(1), api.FData, head),
		{Label: 1, Blocks: [][]byte{raw(api.FHead, 1, 0, headBytes(goneHead("a", 1, 1))), raw(api.FMark, 1, 1, nil)}},
		{Label: 1, Blocks: [][]byte{nil, {}, {1, 2, 3}, filled(1, thin), make([]byte, thin), filled(2, 4000)}},
		with(with(begun(1), api.FHead, headBytes(all("../a", 1, 0, 1))), api.FMark, nil), with(with(begun(1), api.FHead, nil), api.FMark, nil),
		{Label: 0, Blocks: whole.Blocks}, {Label: -3, Blocks: whole.Blocks}, {Label: 3 + 1<<32, Blocks: whole.Blocks}, {Label: 4, Blocks: whole.Blocks},
	}
	for i, x := range l {
		checkFrom(t, fmt.Sprint("tape ", i), []api.Tape{x})
		checkFrom(t, fmt.Sprint("tape ", i, " and one that has a part"), []api.Tape{x, whole, x}, fileOf(parts...))
	}
	checkFrom(t, "all of them", l)
	checkFrom(t, "all of them, and one that has a part", append(l, whole), fileOf(parts...))
}

func TestFilesOnOneTape(t *testing.T) {
	for _, size := range []int{0, 1, 63, 64, 65, 128, 150, 4000} {
		l, parts := tapesOf([]api.Head{all("a/b", 1, size, 1)})
		checkParts(t, fmt.Sprint("a file of ", size, " bytes"), l, parts, fileOf(parts...))
		whole := api.Head{Path: "a/b", Version: 1, Size: size, Serial: 1}
		if size < 2 {
			continue
		}
		l, parts = tapesOf([]api.Head{piece(whole, 1, size-1), piece(whole, 0, 1)})
		checkParts(t, fmt.Sprint("a file of ", size, " bytes, in two parts"), l, parts, fileOf(parts[1], parts[0]))
	}
	gone := goneHead("a", 1, 1)
	l, parts := tapesOf([]api.Head{gone})
	checkParts(t, "a file that is gone", l, parts, fileOf(parts...))
	l, parts = tapesOf([]api.Head{gone, gone})
	checkParts(t, "a file that is gone, twice", l, parts, fileOf(parts[0]))
}

// Over several tapes, in any order, other files beside it: its parts stand in their order.
func TestFilesOverTapes(t *testing.T) {
	h := api.Head{Path: "m", Version: 3, Size: 200, Serial: 8, Sum: 1<<32 - 1}
	l, parts := tapesOf(
		[]api.Head{piece(h, 0, 64), all("z", 1, 3, 2)}, []api.Head{all("a", 1, 70, 3), piece(h, 64, 6)},
		[]api.Head{piece(h, 150, 50), goneHead("b", 4, 1), piece(h, 70, 1)}, []api.Head{piece(h, 71, 79)},
	)
	m := fileOf(pick(parts, 0, 3, 6, 7, 4)...)
	want := []api.File{fileOf(parts[2]), fileOf(parts[5]), m, fileOf(parts[1])}
	checkParts(t, "the tapes by their labels", l, parts, want...)
	for _, order := range orders(len(l)) {
		checkFrom(t, fmt.Sprint("order ", order), pick(l, order...), want...)
		// Without one of the tapes, or with it lost, the files of the others are there.
		for i, gone := range order {
			var left []api.File
			for _, f := range want {
				if !slices.ContainsFunc(f.Parts, func(p api.Part) bool { return p.Label == gone+1 }) {
					left = append(left, f)
				}
			}
			rest := pick(l, order...)
			rest[i] = lost(rest[i])
			checkFrom(t, fmt.Sprint("tape ", gone+1, " lost, order ", order), rest, left...)
			checkFrom(t, fmt.Sprint("tape ", gone+1, " not there, order ", order), slices.Delete(rest, i, i+1), left...)
		}
	}
}

// Damage: of a part its head is to be good, and all of its blocks are to be there.
func TestPartsThatAreMissing(t *testing.T) {
	h := api.Head{Path: "b", Version: 1, Size: 140, Serial: 2, Sum: 5}
	one, ones := tapeOf(1, all("a", 1, 10, 1), piece(h, 0, 100))
	two, twos := tapeOf(2, piece(h, 100, 40), all("c", 1, 0, 3))
	a, b, c := fileOf(ones[0]), fileOf(ones[1], twos[0]), fileOf(twos[1])
	checkParts(t, "all of it", []api.Tape{one, two}, slices.Concat(ones, twos), a, b, c)
	for n := range one.Blocks {
		want := map[int][]api.File{1: {b, c}, 4: {a, c}}
		l := []api.Tape{rotten(one, n), two}
		if n != 1 && n != 4 {
			checkFrom(t, fmt.Sprint("a rotten block ", n), l, a, b, c)
			continue
		}
		checkFrom(t, fmt.Sprint("a rotten head, block ", n), l, want[n]...)
	}
	for blocks := range len(two.Blocks) + 1 {
		l := []api.Tape{one, cut(two, blocks)}
		switch {
		case blocks < 4:
			checkFrom(t, fmt.Sprint("cut to ", blocks), l, a)
		case blocks < 6:
			checkFrom(t, fmt.Sprint("cut to ", blocks), l, a, b)
		default:
			checkFrom(t, fmt.Sprint("cut to ", blocks), l, a, b, c)
		}
	}
	torn := clone(two)
	torn.Blocks[5] = torn.Blocks[5][:40]
	checkFrom(t, "a torn mark", []api.Tape{one, torn}, a, b, c)
}

// The parts of a version that are there more than once: the first ones, as Whole takes them.
func TestPartsMoreThanOnce(t *testing.T) {
	h := api.Head{Path: "b", Version: 1, Size: 100, Serial: 2, Sum: 5}
	l, parts := tapesOf([]api.Head{piece(h, 40, 60), piece(h, 0, 40)}, []api.Head{piece(h, 0, 40), piece(h, 40, 60), piece(h, 0, 100)})
	checkParts(t, "twice", l, parts, fileOf(parts[1], parts[0]))
	checkFrom(t, "twice, the second tape first", pick(l, 1, 0), fileOf(parts[2], parts[3]))
	checkFrom(t, "twice, the first one lost", []api.Tape{lost(l[0]), l[1]}, fileOf(parts[2], parts[3]))
	l, parts = tapesOf([]api.Head{piece(h, 0, 70)}, []api.Head{piece(h, 0, 40), piece(h, 40, 60)}, []api.Head{piece(h, 0, 100)})
	checkParts(t, "the first one comes to nothing", l, parts)
	checkFrom(t, "the second one comes to nothing", pick(l, 1, 0, 2), fileOf(parts[1:3]...))
	checkFrom(t, "the last one is all", pick(l, 2, 1, 0), fileOf(parts[3]))
	// Two tapes of one label are two tapes.
	x, xs := tapeOf(7, piece(h, 0, 40))
	y, ys := tapeOf(7, goneHead("a", 1, 1), piece(h, 40, 60))
	checkParts(t, "two tapes of one label", []api.Tape{x, y}, slices.Concat(xs, ys), fileOf(ys[0]), fileOf(xs[0], ys[1]))
}

// rising are paths byte by byte.
func rising() []string {
	return []string{"-", ".a", "0", "0/9", "9", "_", "a", "a-b", "a.b", "a/a", "a/b", "a/b/c", "a0", "a_b", "aa", "ab", "b", "b/a", "z", "z9", "zz"}
}

func TestTheOrderOfFiles(t *testing.T) {
	versions := []int{1, 2, 3, 9, 10, 11, 100, 255, 256, 1 << 24, 1<<30 - 1, 1 << 30}
	var heads []api.Head
	for _, path := range rising() {
		for i, version := range versions {
			if i%3 == 1 {
				heads = append(heads, goneHead(path, version, 1+len(heads)*7%200))
				continue
			}
			heads = append(heads, all(path, version, i*20, 1+len(heads)*7%200))
		}
	}
	for _, by := range []int{1, 5, 11, 101, len(heads) - 1} {
		var tapes [9][]api.Head
		for i := range heads {
			tapes[i%9] = append(tapes[i%9], heads[i*by%len(heads)])
		}
		l, parts := tapesOf(tapes[:]...)
		var want []api.File
		for _, h := range heads {
			want = append(want, fileOf(parts[slices.IndexFunc(parts, func(p api.Part) bool { return p.Head == h })]))
		}
		checkParts(t, fmt.Sprint("all of them, by ", by), l, parts, want...)
		slices.Reverse(l)
		checkFrom(t, fmt.Sprint("all of them, by ", by, ", backwards"), l, want...)
	}
}

// Of one path and version that of the greatest serial, wherever it lies; but it has to be whole.
func TestTheGreatestSerial(t *testing.T) {
	serials := []int{1, 2, 10, 255, 256, 1<<30 - 1, 1 << 30}
	for i, less := range serials {
		for _, more := range serials[i+1:] {
			what := fmt.Sprint("serials ", less, " and ", more)
			l, parts := tapesOf([]api.Head{all("a", 2, 9, less)}, []api.Head{all("a", 2, 9, more)})
			checkParts(t, what, l, parts, fileOf(parts[1]))
			checkFrom(t, what+", the greater one first", pick(l, 1, 0), fileOf(parts[1]))
			checkFrom(t, what+", the greater one lost", []api.Tape{l[0], lost(l[1])}, fileOf(parts[0]))
			l, parts = tapesOf([]api.Head{all("a", 2, 9, less)}, []api.Head{goneHead("a", 2, more)})
			checkParts(t, what+", the greater one gone", l, parts, fileOf(parts[1]))
			l, parts = tapesOf([]api.Head{goneHead("a", 2, less)}, []api.Head{all("a", 2, 0, more)})
			checkParts(t, what+", the smaller one gone", l, parts, fileOf(parts[1]))
			half := api.Head{Path: "a", Version: 2, Size: 9, Serial: more, Sum: 1}
			l, parts = tapesOf([]api.Head{piece(half, 0, 8)}, []api.Head{all("a", 2, 9, less)}, []api.Head{piece(half, 8, 1)})
			checkParts(t, what+", the greater one in parts", l, parts, fileOf(parts[0], parts[2]))
			checkFrom(t, what+", half of the greater one", l[:2], fileOf(parts[1]))
			checkFrom(t, what+", the other half of it", pick(l, 2, 1), fileOf(parts[1]))
		}
	}
	h := all("a", 1, 5, 4)
	l, parts := tapesOf([]api.Head{h, all("a", 1, 6, 9), all("a", 1, 7, 8), all("a", 2, 5, 1), all("b", 1, 5, 3), all("b", 1, 5, 2)})
	checkParts(t, "serials of three, of other versions and paths", l, parts, fileOf(parts[1]), fileOf(parts[3]), fileOf(parts[4]))
	// Parts of two serials make up no file together.
	h = api.Head{Path: "a", Version: 1, Size: 9, Sum: 1}
	first, second := piece(h, 0, 4), piece(h, 4, 5)
	first.Serial, second.Serial = 1, 2
	l, parts = tapesOf([]api.Head{first}, []api.Head{second})
	checkParts(t, "halves of two serials", l, parts)
}

// unlike are pairs of one path, version and serial, in parts; both are whole.
func unlike() map[string][2][]api.Head {
	h := api.Head{Path: "a", Version: 2, Size: 9, Serial: 6, Sum: 1}
	longer, other, empty, gone := h, h, h, h
	longer.Size, other.Sum = 10, 2
	empty.Size, empty.Sum = 0, 0
	gone.Size, gone.Sum, gone.Gone = 0, 0, true
	halves := func(h api.Head) []api.Head { return []api.Head{piece(h, 0, 4), piece(h, 4, h.Size-4)} }
	return map[string][2][]api.Head{
		"Size": {halves(h), halves(longer)}, "Sum": {halves(h), halves(other)}, "Size and Sum": {halves(h), {empty}}, "Size, Sum and Gone": {halves(h), {gone}}, "Gone": {{empty}, {gone}},
		"Size, one whole": {halves(h), {piece(longer, 0, 10)}}, "Sum, one whole": {halves(h), {piece(other, 0, 9)}},
	}
}

// Of one path, version and serial that of which any part was met first.
func TestTheOneMetFirst(t *testing.T) {
	for what, pair := range unlike() {
		var heads [][]api.Head
		for _, h := range slices.Concat(pair[0], pair[1]) {
			heads = append(heads, []api.Head{h})
		}
		l, parts := tapesOf(heads...)
		one := len(pair[0])
		files := []api.File{fileOf(parts[:one]...), fileOf(parts[one:]...)}
		checkFrom(t, "unlike in "+what+", the one alone", l[:one], files[0])
		checkFrom(t, "unlike in "+what+", the other alone", l[one:], files[1])
		for _, order := range orders(len(l)) {
			want := files[0]
			if order[0] >= one {
				want = files[1]
			}
			checkParts(t, fmt.Sprint("unlike in ", what, ", order ", order), pick(l, order...), pick(parts, order...), want)
		}
	}
	// A part that the file does not take was met, too.
	h := api.Head{Path: "a", Version: 2, Size: 9, Serial: 6, Sum: 1}
	other := h
	other.Sum = 2
	l, parts := tapesOf([]api.Head{piece(h, 5, 2), piece(other, 0, 9)}, []api.Head{piece(h, 0, 9)})
	checkParts(t, "a part met first that is not taken", l, parts, fileOf(parts[2]))
	// One of which parts were met first, but which is not whole, turns nothing.
	l, parts = tapesOf([]api.Head{piece(h, 0, 5), piece(other, 0, 9)}, []api.Head{piece(h, 6, 3)})
	checkParts(t, "one met first that is not whole", l, parts, fileOf(parts[1]))
	// Nor are parts that are unlike taken together.
	l, parts = tapesOf([]api.Head{piece(h, 0, 5), piece(other, 5, 4)})
	checkParts(t, "halves of two", l, parts)
}

// A seal at the end of a tape, parity's blocks and what is not good between the parts turn nothing.
func TestOtherBlocks(t *testing.T) {
	h := api.Head{Path: "b", Version: 1, Size: 100, Serial: 2, Sum: 5}
	x, first := lay(with(with(begun(4), api.FData, filled(1, 9)), api.FParity, filled(2, thin)), piece(h, 60, 40))
	x, second := lay(rotten(with(with(x, api.FMark, nil), api.FLabel, nil), 1), piece(h, 0, 60))
	x = with(x, api.FSeal, filled(3, 30))
	checkFrom(t, "other blocks", []api.Tape{x}, fileOf(second, first))
	// The data of a part is none of the tape's own parts, though it looks as one does.
	inner := all("a", 1, 0, 1)
	y := with(begun(5), api.FHead, headBytes(all("c", 1, 120, 3)))
	for range 2 {
		y = with(y, api.FHead, headBytes(inner))
	}
	y = with(y, api.FMark, nil)
	checkFrom(t, "a head in a part", []api.Tape{y}, fileOf(api.Part{Head: all("c", 1, 120, 3), Label: 5, Block: 1}))
	checkFrom(t, "a head in a part whose head is rotten", []api.Tape{rotten(y, 1)}, fileOf(api.Part{Head: inner, Label: 5, Block: 2}))
}

// chance makes a library's tapes, and the parts that lie there; many of the parts have much in common.
func chance(next *row) ([]api.Tape, []api.Part) {
	var heads [5][]api.Head
	for range 3 + next.below(26) {
		h := api.Head{Path: pick(rising(), 6+next.below(3))[0], Version: 1 + next.below(2), Serial: 1 + next.below(2), Size: next.below(4), Sum: next.below(2)}
		switch {
		case h.Size == 0 && next.below(2) == 0:
			h.Gone, h.Sum = true, 0
		case h.Size > 0:
			h.From = next.below(h.Size)
			h.Len = 1 + next.below(h.Size-h.From)
		}
		i := next.below(len(heads))
		heads[i] = append(heads[i], h)
	}
	return tapesOf(heads[:]...)
}

func TestManyLibraries(t *testing.T) {
	next := row(2)
	files := 0
	for i := range 3000 {
		l, parts := chance(&next)
		want := fromOf(parts)
		files += len(want)
		checkFrom(t, fmt.Sprint("library ", i), l, want...)
		slices.Reverse(l)
		var back []api.Part
		for _, x := range l {
			for _, p := range parts {
				if p.Label == x.Label {
					back = append(back, p)
				}
			}
		}
		checkFrom(t, fmt.Sprint("library ", i, ", backwards"), l, fromOf(back)...)
	}
	if files < 6000 {
		t.Errorf("the tests are of %d files", files)
	}
}

// Far more tapes and parts than a library has.
func TestManyTapes(t *testing.T) {
	const many = 2000
	whole := api.Head{Path: "m", Version: 1, Size: 4000, Serial: 1, Sum: 9}
	var l []api.Tape
	var row []api.Part
	want := make([]api.File, many)
	for i := range many {
		x, parts := tapeOf(i+1, piece(whole, 4000-2*i-2, 2), all(fmt.Sprintf("a/%d", 9999-i), 1, 0, 1))
		l, row = append(l, x), append(row, parts[0])
		want[many-1-i] = fileOf(parts[1])
	}
	slices.Reverse(row)
	checkFrom(t, "many tapes", l, append(want, fileOf(row...))...)
	checkFrom(t, "many tapes, the first one lost", append([]api.Tape{lost(l[0])}, l[1:]...), want[:many-1]...)
}

// ask is what is handed in to the calls.
type ask struct {
	what  string
	l     []api.Tape
	parts []api.Part
}

// told is what they answer.
type told struct {
	from  []api.File
	whole api.File
	ok    bool
}

func tell(x ask) told {
	whole, ok := catalog.Whole(x.parts)
	return told{catalog.From(x.l), whole, ok}
}

func (a told) same(b told) bool {
	return a.ok == b.ok && sameFile(a.whole, b.whole) && sameFiles(a.from, b.from)
}

func (a told) copied() told {
	a.whole.Parts, a.from = slices.Clone(a.whole.Parts), slices.Clone(a.from)
	for i := range a.from {
		a.from[i].Parts = slices.Clone(a.from[i].Parts)
	}
	return a
}

// scribble writes over all that an answer's memory holds, its spare room too.
func (a told) scribble() {
	files := a.from[:cap(a.from)]
	for _, f := range append(slices.Clone(files), a.whole) {
		parts := f.Parts[:cap(f.Parts)]
		for i := range parts {
			parts[i] = api.Part{Head: goneHead("scribbled", -i, -1), Label: -7, Block: -8}
		}
	}
	for i := range files {
		files[i] = api.File{Path: "scribbled", Version: -i, Parts: []api.Part{{}}}
	}
}

func asks() []ask {
	h := theHead(100)
	runs := []run{{40, 60}, {0, 40}, {0, 100}, {40, 60}}
	l, _ := tapesOf([]api.Head{piece(h, 40, 60), all("a", 1, 70, 2)}, []api.Head{piece(h, 0, 40), goneHead("b", 1, 1)}, []api.Head{all("a", 1, 9, 1), all("z", 10, 1, 4), all("z", 9, 1, 3)})
	next := row(3)
	many, _ := chance(&next)
	return []ask{
		{"several parts", l, partsOf(h, runs...)},
		{"one of them lost", []api.Tape{l[0], lost(l[1]), l[2]}, partsOf(h, runs[2])},
		{"the tapes backwards", pick(l, 2, 1, 0), partsOf(theHead(0), run{0, 0}, run{0, 0})},
		{"one of them twice", pick(l, 0, 1, 1, 2), partsOf(goneHead("a", 1, 1), run{0, 0})},
		{"a gap", []api.Tape{rotten(l[0], 0, 1), l[1]}, partsOf(h, runs[0], runs[3])},
		{"many of them", many, append(partsOf(h, runs...), partsOf(theHead(99), run{0, 99})...)},
		{"nothing", nil, nil},
	}
}

// guarded is the same ask in memory that has spare room, all of it filled: tapes, blocks, bytes and parts.
func guarded(x ask) ask {
	l := make([]api.Tape, 0, len(x.l)+2)
	for _, y := range x.l {
		blocks := make([][]byte, 0, len(y.Blocks)+2)
		for _, b := range y.Blocks {
			blocks = append(blocks, slices.Concat(b, filled(1, thin))[:len(b)])
		}
		more, _ := lay(y, all("more", 1, 0, 99))
		y.Blocks = append(blocks, more.Blocks[len(blocks):]...)[:len(blocks)]
		l = append(l, y)
	}
	more, _ := tapesOf([]api.Head{all("more", 2, 3, 99)}, []api.Head{goneHead("z", 9, 99)})
	x.l = append(l, more...)[:len(l)]
	x.parts = append(slices.Clone(x.parts), partsOf(theHead(100), run{0, 100}, run{0, 40})...)[:len(x.parts)]
	return x
}

// whole is all that is handed in, its spare room too, in memory of its own.
func whole(x ask) ask {
	l := slices.Clone(x.l[:cap(x.l)])
	for i, y := range l {
		l[i].Blocks = slices.Clone(y.Blocks[:cap(y.Blocks)])
		for n, b := range l[i].Blocks {
			l[i].Blocks[n] = bytes.Clone(b[:cap(b)])
		}
	}
	x.l, x.parts = l, slices.Clone(x.parts[:cap(x.parts)])
	return x
}

func sameAsk(a, b ask) bool {
	return sameTapes(a.l, b.l) && slices.Equal(a.parts, b.parts)
}

func TestWhatIsHandedInStays(t *testing.T) {
	for i, x := range asks() {
		y := guarded(x)
		was := whole(y)
		got := tell(y)
		if !sameAsk(whole(y), was) {
			t.Errorf("P1702: %s: what was handed in has changed", x.what)
		}
		// What is asked again was never handed in: a call that turned it can't hide behind that.
		if !got.same(tell(asks()[i])) {
			t.Errorf("P1702: %s: an answer hangs on spare room", x.what)
		}
		got.scribble()
		if !sameAsk(whole(y), was) {
			t.Errorf("P1702: %s: an answer lies in what was handed in", x.what)
		}
	}
}

// Who owns what was handed in turns it: no answer is turned by that, and none comes from what was.
func TestWhatIsHandedInIsNotKept(t *testing.T) {
	for _, x := range asks() {
		y := x
		y.l, y.parts = clones(x.l), slices.Clone(x.parts)
		got := tell(y)
		was := got.copied()
		for i := range y.l {
			for _, b := range y.l[i].Blocks {
				clear(b)
			}
			y.l[i].Lost, y.l[i].Blocks = false, nil
		}
		for i := range y.parts {
			y.parts[i].Head = theHead(i)
		}
		if again := catalog.From(y.l); len(again) != 0 {
			t.Errorf("P1702: %s: From what is blank by now: %v", x.what, again)
		}
		want, is := wholeOf(y.parts)
		if again, ok := catalog.Whole(y.parts); ok != is || !sameFile(again, want) {
			t.Errorf("P1702: %s: Whole of what is another one by now: %v, %v", x.what, again, ok)
		}
		if !got.same(was) || !tell(x).same(was) {
			t.Errorf("P1702: %s: what was handed in is kept", x.what)
		}
	}
}

func TestAnswersAreNewMemory(t *testing.T) {
	for _, x := range asks() {
		first, second := tell(x), tell(x)
		want := first.copied()
		first.scribble()
		if !second.same(want) || !tell(x).same(want) {
			t.Errorf("P1702: %s: two answers share memory", x.what)
		}
	}
}

// The lists within one answer share none either: each is scribbled over in turn.
func TestListsOfOneAnswer(t *testing.T) {
	for _, x := range asks() {
		want := tell(x).copied()
		for i := range want.from {
			got := tell(x)
			parts := got.from[i].Parts
			for k := range parts[:cap(parts)] {
				parts[:cap(parts)][k].Block = -9
			}
			got.from[i].Parts = want.from[i].Parts
			if !got.same(want) {
				t.Errorf("P1702: %s: the parts of file %d are those of another one, too", x.what, i)
			}
		}
	}
}

// No path lies in the memory of what was handed in.
func TestPathsAreNoPiecesOfTheArgument(t *testing.T) {
	h := theHead(100)
	h.Path = strings.Clone("a/path/of/some/bytes")
	parts := partsOf(h, run{40, 60}, run{0, 40})
	f, ok := catalog.Whole(parts)
	if !ok || f.Path != h.Path {
		t.Fatalf("P1701: Whole: %v, %v", f, ok)
	}
	paths := []string{f.Path, f.Parts[0].Head.Path, f.Parts[1].Head.Path}
	for i, path := range paths {
		if unsafe.StringData(path) == unsafe.StringData(h.Path) {
			t.Errorf("P1702: path %d of Whole lies in the argument", i)
		}
	}
}

func everything(l []ask) []told {
	var out []told
	for _, x := range l {
		out = append(out, tell(x))
	}
	return out
}

func TestAnswersHangOnArgumentsAlone(t *testing.T) {
	l := asks()
	first := everything(l)
	slices.Reverse(l)
	for range 20 {
		backwards := everything(l)
		slices.Reverse(backwards)
		if !slices.EqualFunc(backwards, first, told.same) {
			t.Error("P1702: the same calls in another order answer otherwise")
		}
	}
}

// All of them ask the same, beside each other.
func TestAnswersBesideOneAnother(t *testing.T) {
	l := asks()
	first := everything(l)
	var same [4]bool
	var workers sync.WaitGroup
	for i := range same {
		workers.Go(func() { same[i] = slices.EqualFunc(everything(l), first, told.same) })
	}
	workers.Wait()
	for i, ok := range same {
		if !ok {
			t.Errorf("P1702: worker %d was answered otherwise", i)
		}
	}
}
