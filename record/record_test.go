package record_test

import (
	"bytes"
	"encoding/binary"
	"fmt"
	"math"
	"math/big"
	"slices"
	"strings"
	"sync"
	"testing"

	"cartridge/api"
	"cartridge/record"
)

const (
	count    = 1 << 30   // the greatest Version, Serial and Number
	sum      = 1<<32 - 1 // the greatest Sum
	greatest = 1<<31 - 1 // the greatest Label
)

func TestTheLimits(t *testing.T) {
	if api.MaxPath != 24 || api.MaxFile != 4000 || api.MaxParts != 14 || api.Load != 64 {
		t.Error("the numbers of package api are others")
	}
}

// longest is a path of as many bytes as one may have.
func longest() string {
	return strings.Repeat("p/q-", 5) + "._z9"
}

// piece is a head of a file's part that is right, all its numbers unlike.
func piece() api.Head {
	return api.Head{Path: "a/b", Version: 0x01020304, Size: 0x0a0b, From: 0x0102, Len: 0x0304, Serial: 0x05060708, Sum: 0xf1f2f3f4}
}

// gone is a head that is right, of a file that is not there any more.
func gone() api.Head {
	return api.Head{Path: "a/b", Version: 5, Serial: 6, Gone: true}
}

// heads are right: ordinary ones, and those at the edges.
func heads() []api.Head {
	l := []api.Head{piece(), gone(), {Path: longest(), Version: count, Serial: count, Gone: true}}
	for _, path := range []string{"a", "0", "a/b", "..a", "-", "x.y_z", "a/...", strings.Repeat("k", 23), strings.Repeat("k", 24), longest()} {
		l = append(l, api.Head{Path: path, Version: 1, Size: 1, Len: 1, Serial: 1}, api.Head{Path: path, Version: 2, Serial: 3})
	}
	for _, n := range []int{1, 2, 127, 128, 255, 256, 65535, 65536, 1 << 24, count - 1, count} {
		l = append(l,
			api.Head{Path: "v", Version: n, Size: 10, From: 2, Len: 3, Serial: 1},
			api.Head{Path: "s", Version: 1, Size: 10, From: 2, Len: 3, Serial: n},
			api.Head{Path: "g", Version: n, Serial: count + 1 - n, Gone: true})
	}
	for _, size := range []int{1, 2, 64, 65, 255, 256, 3999, 4000} {
		for _, from := range []int{0, 1, size / 2, size - 1} {
			for _, length := range []int{1, 2, (size - from) / 2, size - from} {
				if length > 0 && from+length <= size {
					l = append(l, api.Head{Path: "p", Version: 7, Size: size, From: from, Len: length, Serial: 8, Sum: size})
				}
			}
		}
	}
	for _, n := range []int{0, 1, 255, 256, greatest, greatest + 1, sum - 1, sum} {
		l = append(l, api.Head{Path: "c", Version: 1, Size: 4000, From: 3999, Len: 1, Serial: 1, Sum: n}, api.Head{Path: "c", Version: 1, Serial: 1, Sum: n})
	}
	return l
}

// wrongHead is one that is not right, and why.
type wrongHead struct {
	why  string
	head api.Head
}

// farNumbers are neither counts, sizes, sums nor labels; the low bytes of some are.
func farNumbers() []int {
	return []int{-1, -2, -greatest, -1 << 31, -1<<31 - 1, -1<<32 + 1, -1 << 32, -1 << 40, 1 << 32, 1<<32 + 1, 1<<32 + 5, 1 << 40, 1<<40 + 1, math.MinInt, math.MinInt + 1, math.MaxInt - 1, math.MaxInt}
}

// wrongHeads have one fault each.
func wrongHeads() []wrongHead {
	var l []wrongHead
	add := func(why string, h api.Head, change func(h *api.Head)) {
		change(&h)
		l = append(l, wrongHead{fmt.Sprint(why, ": ", h), h})
	}
	for _, h := range []api.Head{piece(), gone(), {Path: "a", Version: 1, Serial: 1}} {
		for _, path := range []string{"", "/", "a/", "/a", "a//b", ".", "..", "a/.", "a/../b", "A", "a b", "a\x00", "é", "a\\b", longest() + "a", strings.Repeat("a", 25), strings.Repeat("a", 255), strings.Repeat("a", 256+3), strings.Repeat("a/", 500) + "a"} {
			add("a path that is none", h, func(h *api.Head) { h.Path = path })
		}
		for _, n := range append(farNumbers(), 0, count+1, count+2, 1<<31-1, 1<<31, 1<<32-1) {
			add("a Version that can't be", h, func(h *api.Head) { h.Version = n })
			add("a Serial that can't be", h, func(h *api.Head) { h.Serial = n })
		}
		for _, n := range farNumbers() {
			add("a Sum that can't be", h, func(h *api.Head) { h.Sum = n })
			add("a Size that can't be", h, func(h *api.Head) { h.Size = n })
			add("a From that can't be", h, func(h *api.Head) { h.From = n })
			add("a Len that can't be", h, func(h *api.Head) { h.Len = n })
		}
	}
	for _, size := range []int{4001, 4002, 5000, 65536, greatest, greatest + 1, sum, math.MaxInt} {
		add("a Size above MaxFile", piece(), func(h *api.Head) { h.Size, h.From, h.Len = size, 0, 1 })
		add("a Size above MaxFile", piece(), func(h *api.Head) { h.Size, h.From, h.Len = size, 0, 4000 })
		add("a Size above MaxFile", piece(), func(h *api.Head) { h.Size, h.From, h.Len = size, 0, size })
	}
	for _, x := range [][3]int{
		{100, 0, 101}, {100, 100, 1}, {100, 99, 2}, {100, 50, 51}, {100, 1, 100}, {100, 101, 1}, {0, 0, 1}, {0, 1, 1}, {4000, 4000, 1}, {4000, 0, 4001}, {4000, 1, 4000},
		{100, 1<<32 - 1, 2}, {100, 2, 1<<32 - 1}, {100, 1 << 31, 1 << 31}, {100, math.MaxInt, 1}, {100, 1, math.MaxInt}, {100, math.MaxInt, 2}, {100, math.MaxInt, math.MaxInt}, {100, 1 << 62, 1 << 62}, {4000, math.MaxInt - 3999, math.MaxInt}, {0, math.MaxInt, math.MaxInt},
		{100, -1, 2}, {100, -50, 60}, {100, -1, 101}, {100, 50, -1}, {100, 100, -1}, {100, math.MinInt, 1}, {100, math.MinInt, math.MaxInt}, {100, math.MinInt, math.MinInt}, {100, 5, math.MinInt}, {0, 0, -1}, {0, -1, 0}, {0, -1, 1}, {0, 1, -1},
	} {
		add("a From and a Len that can't be", piece(), func(h *api.Head) { h.Size, h.From, h.Len = x[0], x[1], x[2] })
	}
	for _, x := range [][2]int{{1, 0}, {1, 1}, {2, 1}, {100, 0}, {100, 50}, {100, 100}, {4000, 0}, {4000, 4000}, {0, 1}} {
		add("a Len of 0", piece(), func(h *api.Head) { h.Size, h.From, h.Len = x[0], x[1], 0 })
	}
	for _, n := range []int{1, 2, 100, 4000} {
		add("Gone with a Size", gone(), func(h *api.Head) { h.Size = n })
		add("Gone with a From", gone(), func(h *api.Head) { h.From = n })
		add("Gone with a Len", gone(), func(h *api.Head) { h.Len = n })
		add("Gone with a Sum", gone(), func(h *api.Head) { h.Sum = n })
		add("Gone with a Size and a Len", gone(), func(h *api.Head) { h.Size, h.Len = n, n })
		add("Gone with all", gone(), func(h *api.Head) { h.Size, h.From, h.Len, h.Sum = n+1, 1, n, n })
	}
	add("Gone with the greatest Sum", gone(), func(h *api.Head) { h.Sum = sum })
	return append(l, wrongHead{why: "nothing"}, wrongHead{"nothing but Gone", api.Head{Gone: true}})
}

// appendNumbers lays the low 4 bytes of each behind b.
func appendNumbers(b []byte, l ...int) []byte {
	for _, n := range l {
		b = binary.BigEndian.AppendUint32(b, uint32(n))
	}
	return b
}

// rawHead lays bytes in the form of a head's, be it right or not.
func rawHead(h api.Head) []byte {
	b := append([]byte{byte(len(h.Path))}, h.Path...)
	b = appendNumbers(b, h.Version, h.Size, h.From, h.Len, h.Serial, h.Sum)
	if h.Gone {
		return append(b, 1)
	}
	return append(b, 0)
}

// fits tells whether all numbers of h can stand in 4 bytes each, and its path's length in one.
func fits(h api.Head) bool {
	for _, n := range []int{h.Version, h.Size, h.From, h.Len, h.Serial, h.Sum} {
		if n < 0 || n > sum {
			return false
		}
	}
	return len(h.Path) < 256
}

// rightPath holds a path against the rule by other means.
func rightPath(s string) bool {
	for _, part := range strings.Split(s, "/") {
		if part == "" || part == "." || part == ".." {
			return false
		}
	}
	other := func(c rune) bool { return !strings.ContainsRune("abcdefghijklmnopqrstuvwxyz0123456789.-_/", c) }
	return len(s) <= 24 && !strings.ContainsFunc(s, other)
}

// rightHead holds a head against the rule by other means, From and Len together with no bound.
func rightHead(h api.Head) bool {
	together := new(big.Int).Add(big.NewInt(int64(h.From)), big.NewInt(int64(h.Len)))
	switch {
	case !rightPath(h.Path), h.Version <= 0, h.Version > count, h.Serial <= 0, h.Serial > count:
		return false
	case h.Size < 0, h.Size > 4000, h.From < 0, h.Len < 0, together.Cmp(big.NewInt(int64(h.Size))) > 0:
		return false
	case h.Len == 0 && h.Size != 0, h.Sum < 0, h.Sum > sum:
		return false
	}
	return !h.Gone || h.Size == 0 && h.From == 0 && h.Len == 0 && h.Sum == 0
}

// headOf reads a head's bytes by other means; false: they are none.
func headOf(b []byte) (api.Head, bool) {
	if len(b) < 1 || len(b) != 1+int(b[0])+6*4+1 {
		return api.Head{}, false
	}
	at := 1 + int(b[0])
	num := func(i int) int { return int(binary.BigEndian.Uint32(b[at+4*i:])) }
	h := api.Head{Path: string(b[1:at]), Version: num(0), Size: num(1), From: num(2), Len: num(3), Serial: num(4), Sum: num(5), Gone: b[len(b)-1] == 1}
	return h, b[len(b)-1] < 2 && rightHead(h)
}

func checkHead(t *testing.T, b []byte, want api.Head, what string) {
	t.Helper()
	if h, e := record.ReadHead(b); e != api.OK || h != want {
		t.Errorf("P1001: ReadHead of %s: %v, error %d, not %v", what, h, e, want)
	}
}

func checkNoHead(t *testing.T, b []byte, what string) {
	t.Helper()
	if h, e := record.ReadHead(b); e != api.ErrBytes || h != (api.Head{}) {
		t.Errorf("P1001: ReadHead of %s: %v, error %d", what, h, e)
	}
}

// checkEitherHead holds ReadHead against headOf, and tells whether it was one.
func checkEitherHead(t *testing.T, b []byte, what string) bool {
	t.Helper()
	want, ok := headOf(b)
	if !ok {
		checkNoHead(t, b, what)
		return false
	}
	checkHead(t, b, want, what)
	if again := record.HeadBytes(want); !bytes.Equal(again, b) {
		t.Errorf("P1001: ReadHead of %s: taken, but HeadBytes makes %x", what, again)
	}
	return true
}

func TestReadingNothing(t *testing.T) {
	for _, b := range [][]byte{nil, {}, make([]byte, 0, 64), rawHead(piece())[:0]} {
		checkNoHead(t, b, "nothing")
		checkNoSeal(t, b, "nothing")
	}
}

func TestRightHeads(t *testing.T) {
	for _, h := range heads() {
		if !rightHead(h) {
			t.Fatalf("the test's own head %v is not right", h)
		}
		if !record.RightHead(h) {
			t.Errorf("P1001: RightHead of %v: false", h)
		}
		b := record.HeadBytes(h)
		if !bytes.Equal(b, rawHead(h)) {
			t.Errorf("P1001: HeadBytes of %v: %x, not %x", h, b, rawHead(h))
		}
		checkHead(t, b, h, fmt.Sprintf("the bytes of %v", h))
		if len(b) > 64 {
			t.Errorf("P1003: HeadBytes of %v: %d bytes", h, len(b))
		}
	}
}

func TestWrongHeads(t *testing.T) {
	read := 0
	for _, x := range wrongHeads() {
		if rightHead(x.head) {
			t.Fatalf("the test's own head is right: %s", x.why)
		}
		if record.RightHead(x.head) {
			t.Errorf("P1001: RightHead of %s: true", x.why)
		}
		if b := record.HeadBytes(x.head); len(b) != 0 {
			t.Errorf("P1001: HeadBytes of %s: %x", x.why, b)
		}
		if fits(x.head) {
			read++
			checkNoHead(t, rawHead(x.head), "the bytes of "+x.why)
		}
	}
	if read < 100 {
		t.Errorf("%d of them can be written: too few to tell", read)
	}
}

// The edges of each number, one by one.
func TestTheEdgesOfAHead(t *testing.T) {
	empty := api.Head{Path: "a", Version: 1, Serial: 1}
	for _, x := range []struct {
		name        string
		least, most int
		head        func(n int) api.Head
	}{
		{"Version", 1, count, func(n int) api.Head { h := piece(); h.Version = n; return h }},
		{"Version of one that is Gone", 1, count, func(n int) api.Head { h := gone(); h.Version = n; return h }},
		{"Serial", 1, count, func(n int) api.Head { h := piece(); h.Serial = n; return h }},
		{"Serial of one that is Gone", 1, count, func(n int) api.Head { h := gone(); h.Serial = n; return h }},
		{"Size, of which there is one byte", 1, 4000, func(n int) api.Head { h := piece(); h.Size, h.From, h.Len = n, 0, 1; return h }},
		{"Size, of which there is all", 0, 4000, func(n int) api.Head { h := piece(); h.Size, h.From, h.Len = n, 0, n; return h }},
		{"Size, of which there is nothing", 0, 0, func(n int) api.Head { h := piece(); h.Size, h.From, h.Len = n, 0, 0; return h }},
		{"Sum", 0, sum, func(n int) api.Head { h := piece(); h.Sum = n; return h }},
		{"Sum of a file of nothing", 0, sum, func(n int) api.Head { h := empty; h.Sum = n; return h }},
		{"From, and one byte", 0, 99, func(n int) api.Head { h := piece(); h.Size, h.From, h.Len = 100, n, 1; return h }},
		{"From of a file of nothing", 0, 0, func(n int) api.Head { h := empty; h.From = n; return h }},
		{"Len of all", 1, 100, func(n int) api.Head { h := piece(); h.Size, h.From, h.Len = 100, 0, n; return h }},
		{"Len of what is left", 1, 40, func(n int) api.Head { h := piece(); h.Size, h.From, h.Len = 100, 60, n; return h }},
		{"Len of a file of nothing", 0, 0, func(n int) api.Head { h := empty; h.Len = n; return h }},
		{"Size of one that is Gone", 0, 0, func(n int) api.Head { h := gone(); h.Size = n; return h }},
		{"From of one that is Gone", 0, 0, func(n int) api.Head { h := gone(); h.From = n; return h }},
		{"Len of one that is Gone", 0, 0, func(n int) api.Head { h := gone(); h.Len = n; return h }},
		{"Sum of one that is Gone", 0, 0, func(n int) api.Head { h := gone(); h.Sum = n; return h }},
	} {
		for _, n := range append(farNumbers(), 0, 1, 2, x.least-1, x.least, x.least+1, x.most-1, x.most, x.most+1) {
			h := x.head(n)
			want := x.least <= n && n <= x.most
			if got := record.RightHead(h); got != want {
				t.Errorf("P1001: RightHead, %s %d: %v", x.name, n, got)
			}
			if b := record.HeadBytes(h); len(b) > 0 != want {
				t.Errorf("P1001: HeadBytes, %s %d: %x", x.name, n, b)
			}
		}
	}
}

// All of some numbers with all of the others, against the rule by other means.
func TestHeadsOfManyNumbers(t *testing.T) {
	right, wrong := 0, 0
	sizes := []int{math.MinInt, -1, 0, 1, 5, 4000, 4001, 1<<32 + 5, math.MaxInt}
	places := []int{math.MinInt, -4000, -1, 0, 1, 2, 4, 5, 6, 3999, 4000, 4001, 1 << 31, sum, 1 << 32, 1<<32 + 2, math.MaxInt - 1, math.MaxInt}
	for _, path := range []string{"", "a", "a//b"} {
		for _, version := range []int{0, 1, count + 1} {
			for _, size := range sizes {
				for _, from := range places {
					for _, length := range places {
						for _, sum := range []int{-1, 0, 9} {
							for _, none := range []bool{false, true} {
								h := api.Head{Path: path, Version: version, Size: size, From: from, Len: length, Serial: 1, Sum: sum, Gone: none}
								want := rightHead(h)
								if want {
									right++
								} else {
									wrong++
								}
								if got := record.RightHead(h); got != want {
									t.Fatalf("P1001: RightHead of %v: %v", h, got)
								}
								if fits(h) {
									checkEitherHead(t, rawHead(h), fmt.Sprint("the bytes of ", h))
								}
							}
						}
					}
				}
			}
		}
	}
	if right < 20 || wrong < 1000 {
		t.Errorf("%d heads are right, and %d are not: too few to tell", right, wrong)
	}
}

// Bytes that are written out here.
func TestHeadBytesPlainly(t *testing.T) {
	for _, x := range []struct {
		head api.Head
		want string
	}{
		{piece(), "\x03a/b" + "\x01\x02\x03\x04" + "\x00\x00\x0a\x0b" + "\x00\x00\x01\x02" + "\x00\x00\x03\x04" + "\x05\x06\x07\x08" + "\xf1\xf2\xf3\xf4" + "\x00"},
		{gone(), "\x03a/b" + "\x00\x00\x00\x05" + strings.Repeat("\x00", 12) + "\x00\x00\x00\x06" + "\x00\x00\x00\x00" + "\x01"},
		{api.Head{Path: "x", Version: count, Serial: 1}, "\x01x" + "\x40\x00\x00\x00" + strings.Repeat("\x00", 12) + "\x00\x00\x00\x01" + "\x00\x00\x00\x00" + "\x00"},
	} {
		if b := record.HeadBytes(x.head); string(b) != x.want {
			t.Errorf("P1001: HeadBytes of %v: %x, not %x", x.head, b, x.want)
		}
		checkHead(t, []byte(x.want), x.head, "bytes written out")
	}
}

// Of heads that differ no two have the same bytes.
func TestHeadBytesTellHeadsApart(t *testing.T) {
	seen := make(map[string]api.Head)
	for _, h := range heads() {
		b := string(record.HeadBytes(h))
		if was, ok := seen[b]; ok && was != h {
			t.Errorf("P1001: the same bytes of %v and of %v", was, h)
		}
		seen[b] = h
	}
}

func TestReadHeadOfCutAndLongerBytes(t *testing.T) {
	for _, h := range heads() {
		b := record.HeadBytes(h)
		for n := range b {
			checkNoHead(t, b[:n], fmt.Sprintf("%d bytes of %v", n, h))
			checkNoHead(t, b[n+1:], fmt.Sprintf("%v, %d bytes gone at its beginning", h, n+1))
			checkEitherHead(t, slices.Concat(b[:n], b[n+1:]), fmt.Sprintf("%v, byte %d gone", h, n))
			checkEitherHead(t, slices.Concat(b[:n], b[n:n+1], b[n:]), fmt.Sprintf("%v, byte %d twice", h, n))
		}
		for _, more := range [][]byte{{0}, {1}, {2}, {255}, {0, 0}, {0, 0, 0, 0}, make([]byte, 64-len(b)+1), make([]byte, 5000), b} {
			checkNoHead(t, slices.Concat(b, more), fmt.Sprintf("%v and %d bytes more", h, len(more)))
		}
		checkEitherHead(t, slices.Concat([]byte{0}, b), fmt.Sprintf("a byte 0 and %v", h))
	}
}

func TestReadHeadOfAByteOfGone(t *testing.T) {
	for _, h := range heads() {
		b := rawHead(h)
		for c := 2; c < 256; c++ {
			b[len(b)-1] = byte(c)
			checkNoHead(t, b, fmt.Sprintf("%v, its byte of Gone %d", h, c))
		}
	}
	empty := api.Head{Path: "a", Version: 1, Serial: 1}
	b := rawHead(empty)
	checkHead(t, b, empty, "one that is not Gone")
	b[len(b)-1] = 1
	empty.Gone = true
	checkHead(t, b, empty, "one that is Gone")
}

// A path of bytes that are none of a path, or of another length than it tells.
func TestReadHeadOfAPath(t *testing.T) {
	rest := rawHead(piece())[4:]
	for c := range 256 {
		checkEitherHead(t, slices.Concat([]byte{3, 'a', byte(c), 'b'}, rest), fmt.Sprintf("a path with a byte %d", c))
		checkEitherHead(t, slices.Concat([]byte{1, byte(c)}, rest), fmt.Sprintf("a path of a byte %d", c))
		checkEitherHead(t, slices.Concat([]byte{byte(c)}, bytes.Repeat([]byte{'a'}, c), rest), fmt.Sprintf("a path of %d bytes", c))
		if c != 3 {
			checkNoHead(t, slices.Concat([]byte{byte(c), 'a', '/', 'b'}, rest), fmt.Sprintf("a path of 3 bytes that tells %d", c))
		}
	}
}

// Each byte turned in each way: it is a head's, or none, as headOf says.
func TestReadHeadOfAnotherByte(t *testing.T) {
	taken, refused := 0, 0
	for _, h := range []api.Head{piece(), gone(), {Path: longest(), Version: 1, Size: 4000, From: 3999, Len: 1, Serial: count, Sum: 1}, {Path: "a", Version: count, Serial: 1}} {
		b := rawHead(h)
		for at, was := range b {
			for turn := 1; turn < 256; turn++ {
				b[at] = was ^ byte(turn)
				if checkEitherHead(t, b, fmt.Sprintf("%v, byte %d turned by %d", h, at, turn)) {
					taken++
				} else {
					refused++
				}
			}
			b[at] = was
		}
	}
	if taken < 1000 || refused < 1000 {
		t.Errorf("%d were such, and %d were not: too few to tell", taken, refused)
	}
}

// filled makes bytes that hang on seed alone.
func filled(seed, size int) []byte {
	b := make([]byte, size)
	for i := range b {
		b[i] = byte((i*7+seed*31)%255) + 1
	}
	return b
}

func TestReadingAnyBytes(t *testing.T) {
	for n := range 300 {
		for _, b := range [][]byte{make([]byte, n), bytes.Repeat([]byte{255}, n), bytes.Repeat([]byte{1}, n), bytes.Repeat([]byte{'a'}, n), filled(1, n), filled(n, n), filled(7*n, n)} {
			checkEitherHead(t, b, fmt.Sprintf("%d bytes, %x", n, b))
			checkEitherSeal(t, b, fmt.Sprintf("%d bytes, %x", n, b))
		}
	}
	for _, b := range [][]byte{make([]byte, 1<<20), bytes.Repeat([]byte{255}, 1<<20)} {
		checkNoHead(t, b, "many bytes")
		checkNoSeal(t, b, "many bytes")
	}
}

// labels are so many, all unlike, not in order.
func labels(n int) []int {
	l := make([]int, n)
	for i := range l {
		l[i] = 0x01020304 + (i*5)%14*0x00100001
	}
	return l
}

// trio is a seal of three members that is right, all its numbers unlike.
func trio() api.Seal {
	return api.Seal{Number: 0x0a0b0c0d, Index: 0, Data: 2, Parity: 1, Labels: []int{0x11121314, 0x21222324, 3}}
}

// greatestSeal has as many members as one may have, and the greatest numbers.
func greatestSeal() api.Seal {
	s := api.Seal{Number: count, Index: 13, Data: 5, Parity: 9}
	for i := range 14 {
		s.Labels = append(s.Labels, greatest-i)
	}
	return s
}

// seals are right: ordinary ones, and those at the edges.
func seals() []api.Seal {
	l := []api.Seal{trio(), greatestSeal(), {Number: 1, Data: 1, Parity: 1, Labels: []int{1, 2}}, {Number: 1, Index: 1, Data: 1, Parity: 1, Labels: []int{greatest, 1}}}
	for data := 1; data < 14; data++ {
		for parity := 1; data+parity <= 14; parity++ {
			for _, index := range []int{0, 1, data, data + parity - 1} {
				l = append(l, api.Seal{Number: data*14 + parity, Index: index, Data: data, Parity: parity, Labels: labels(data + parity)})
			}
		}
	}
	for _, n := range []int{1, 2, 127, 128, 255, 256, 65535, 65536, 1 << 24, count - 1, count} {
		s := trio()
		s.Number = n
		l = append(l, s)
	}
	for _, n := range []int{1, 2, 127, 128, 255, 256, 65535, 65536, 1 << 24, count, count + 1, greatest - 1, greatest} {
		for at := range 3 {
			s := trio()
			s.Labels[at] = n
			l = append(l, s)
		}
	}
	return l
}

type wrongSeal struct {
	why  string
	seal api.Seal
}

// wrongSeals have one fault each.
func wrongSeals() []wrongSeal {
	var l []wrongSeal
	add := func(why string, s api.Seal, change func(s *api.Seal)) {
		s.Labels = slices.Clone(s.Labels)
		change(&s)
		l = append(l, wrongSeal{fmt.Sprint(why, ": ", s), s})
	}
	for _, s := range []api.Seal{trio(), greatestSeal(), {Number: 1, Data: 1, Parity: 1, Labels: []int{4, 2}}} {
		members := len(s.Labels)
		for _, n := range append(farNumbers(), 0, count+1, count+2, 1<<31-1, 1<<31, 1<<32-1) {
			add("a Number that can't be", s, func(s *api.Seal) { s.Number = n })
		}
		for _, n := range append(farNumbers(), members, members+1, 14, 15, 255, 256, 257) {
			add("an Index that can't be", s, func(s *api.Seal) { s.Index = n })
		}
		for _, n := range append(farNumbers(), 0, 15, 255, 256, 256+s.Data) {
			add("a Data that can't be", s, func(s *api.Seal) { s.Data = n })
			add("a Data, and a Parity that goes with it", s, func(s *api.Seal) { s.Data, s.Parity = n, members-n })
		}
		for _, n := range append(farNumbers(), 0, 15, 255, 256, 256+s.Parity) {
			add("a Parity that can't be", s, func(s *api.Seal) { s.Parity = n })
			add("a Parity, and a Data that goes with it", s, func(s *api.Seal) { s.Data, s.Parity = members-n, n })
		}
		add("a member too few", s, func(s *api.Seal) { s.Data-- })
		add("a member too few", s, func(s *api.Seal) { s.Parity-- })
		add("a member too many", s, func(s *api.Seal) { s.Data++ })
		add("a member too many", s, func(s *api.Seal) { s.Parity++ })
		add("a Label too few", s, func(s *api.Seal) { s.Labels = s.Labels[:members-1] })
		add("a Label too few, the first", s, func(s *api.Seal) { s.Labels = s.Labels[1:] })
		add("a Label too many", s, func(s *api.Seal) { s.Labels = append(s.Labels, 77) })
		add("a Label 0 too many", s, func(s *api.Seal) { s.Labels = append(s.Labels, 0) })
		add("many Labels too many", s, func(s *api.Seal) { s.Labels = append(s.Labels, make([]int, 5000)...) })
		add("Labels for 256 members more", s, func(s *api.Seal) { s.Labels = append(s.Labels, labels(256)...) })
		add("no Labels", s, func(s *api.Seal) { s.Labels = nil })
		for at := range members {
			for _, n := range append(farNumbers(), 0, greatest+1, greatest+2, 1<<32-1) {
				add("a Label that can't be", s, func(s *api.Seal) { s.Labels[at] = n })
			}
			for other := range at {
				add("a Label twice", s, func(s *api.Seal) { s.Labels[at] = s.Labels[other] })
			}
		}
	}
	for _, x := range [][2]int{{14, 1}, {1, 14}, {13, 2}, {2, 13}, {8, 7}, {15, 15}, {128, 127}, {128, 129}, {255, 1}, {255, 255}, {256, 1}, {100, 200}} {
		l = append(l, wrongSeal{fmt.Sprint(x, " members"), api.Seal{Number: 1, Data: x[0], Parity: x[1], Labels: manyLabels(x[0] + x[1])}})
	}
	for _, x := range [][2]int{{14, 0}, {0, 14}, {1, 0}, {0, 1}, {0, 0}, {-1, 3}, {3, -1}, {-14, 28}, {15, -1}, {-1, 15}} {
		l = append(l, wrongSeal{fmt.Sprint(x, " members"), api.Seal{Number: 1, Data: x[0], Parity: x[1], Labels: manyLabels(x[0] + x[1])}})
	}
	for _, x := range [][2]int{{math.MaxInt, math.MaxInt}, {math.MaxInt, 1}, {1, math.MaxInt}, {math.MinInt, math.MinInt}, {math.MaxInt, math.MinInt}, {1 << 62, 1 << 62}, {1<<63 - 2, 4}, {4, 1<<63 - 2}} {
		l = append(l, wrongSeal{fmt.Sprint(x, " members"), api.Seal{Number: 1, Data: x[0], Parity: x[1]}}, wrongSeal{fmt.Sprint(x, " members, two labels"), api.Seal{Number: 1, Data: x[0], Parity: x[1], Labels: []int{1, 2}}})
	}
	return append(l, wrongSeal{why: "nothing"}, wrongSeal{"no members", api.Seal{Number: 1, Labels: []int{}}})
}

// manyLabels are so many, in order.
func manyLabels(n int) []int {
	l := make([]int, max(n, 0))
	for i := range l {
		l[i] = i + 1
	}
	return l
}

// rawSeal lays bytes in the form of a seal's, be it right or not.
func rawSeal(s api.Seal) []byte {
	b := append(appendNumbers(nil, s.Number), byte(s.Index), byte(s.Data), byte(s.Parity))
	return appendNumbers(b, s.Labels...)
}

// sealFits tells whether all numbers of s can stand in the bytes that they have.
func sealFits(s api.Seal) bool {
	for _, n := range []int{s.Index, s.Data, s.Parity} {
		if n < 0 || n > 255 {
			return false
		}
	}
	return !slices.ContainsFunc(append([]int{s.Number}, s.Labels...), func(n int) bool { return n < 0 || n > sum })
}

// rightSeal holds a seal against the rule by other means.
func rightSeal(s api.Seal) bool {
	if s.Number <= 0 || s.Number > count || len(s.Labels) < 2 || len(s.Labels) > 14 || s.Data < 1 || s.Data > 13 || s.Parity < 1 || s.Parity != len(s.Labels)-s.Data {
		return false
	}
	l := slices.Clone(s.Labels)
	slices.Sort(l)
	return s.Index >= 0 && s.Index < len(l) && l[0] >= 1 && l[len(l)-1] <= greatest && len(slices.Compact(l)) == len(s.Labels)
}

// sealOf reads a seal's bytes by other means; false: they are none.
func sealOf(b []byte) (api.Seal, bool) {
	if len(b) < 7 || len(b)%4 != 3 {
		return api.Seal{}, false
	}
	s := api.Seal{Number: int(binary.BigEndian.Uint32(b)), Index: int(b[4]), Data: int(b[5]), Parity: int(b[6])}
	for at := 7; at < len(b); at += 4 {
		s.Labels = append(s.Labels, int(binary.BigEndian.Uint32(b[at:])))
	}
	return s, rightSeal(s)
}

func same(a, b api.Seal) bool {
	return a.Number == b.Number && a.Index == b.Index && a.Data == b.Data && a.Parity == b.Parity && slices.Equal(a.Labels, b.Labels)
}

func checkSeal(t *testing.T, b []byte, want api.Seal, what string) {
	t.Helper()
	if s, e := record.ReadSeal(b); e != api.OK || !same(s, want) {
		t.Errorf("P1002: ReadSeal of %s: %v, error %d, not %v", what, s, e, want)
	}
}

func checkNoSeal(t *testing.T, b []byte, what string) {
	t.Helper()
	if s, e := record.ReadSeal(b); e != api.ErrBytes || !same(s, api.Seal{}) {
		t.Errorf("P1002: ReadSeal of %s: %v, error %d", what, s, e)
	}
}

// checkEitherSeal holds ReadSeal against sealOf, and tells whether it was one.
func checkEitherSeal(t *testing.T, b []byte, what string) bool {
	t.Helper()
	want, ok := sealOf(b)
	if !ok {
		checkNoSeal(t, b, what)
		return false
	}
	checkSeal(t, b, want, what)
	if again := record.SealBytes(want); !bytes.Equal(again, b) {
		t.Errorf("P1002: ReadSeal of %s: taken, but SealBytes makes %x", what, again)
	}
	return true
}

func TestRightSeals(t *testing.T) {
	for _, s := range seals() {
		if !rightSeal(s) {
			t.Fatalf("the test's own seal %v is not right", s)
		}
		if !record.RightSeal(s) {
			t.Errorf("P1002: RightSeal of %v: false", s)
		}
		b := record.SealBytes(s)
		if !bytes.Equal(b, rawSeal(s)) {
			t.Errorf("P1002: SealBytes of %v: %x, not %x", s, b, rawSeal(s))
		}
		checkSeal(t, b, s, fmt.Sprintf("the bytes of %v", s))
		if len(b) > 64 {
			t.Errorf("P1003: SealBytes of %v: %d bytes", s, len(b))
		}
	}
}

func TestWrongSeals(t *testing.T) {
	read := 0
	for _, x := range wrongSeals() {
		if rightSeal(x.seal) {
			t.Fatalf("the test's own seal is right: %s", x.why)
		}
		if record.RightSeal(x.seal) {
			t.Errorf("P1002: RightSeal of %s: true", x.why)
		}
		if b := record.SealBytes(x.seal); len(b) != 0 {
			t.Errorf("P1002: SealBytes of %s: %x", x.why, b)
		}
		if sealFits(x.seal) {
			read++
			checkNoSeal(t, rawSeal(x.seal), "the bytes of "+x.why)
		}
	}
	if read < 100 {
		t.Errorf("%d of them can be written: too few to tell", read)
	}
}

// The edges of each number, one by one.
func TestTheEdgesOfASeal(t *testing.T) {
	for _, x := range []struct {
		name        string
		least, most int
		seal        func(n int) api.Seal
	}{
		{"Number", 1, count, func(n int) api.Seal { s := trio(); s.Number = n; return s }},
		{"Index", 0, 2, func(n int) api.Seal { s := trio(); s.Index = n; return s }},
		{"Index of the greatest", 0, 13, func(n int) api.Seal { s := greatestSeal(); s.Index = n; return s }},
		{"Data", 2, 2, func(n int) api.Seal { s := trio(); s.Data = n; return s }},
		{"Parity", 1, 1, func(n int) api.Seal { s := trio(); s.Parity = n; return s }},
		{"Data of all", 1, 13, func(n int) api.Seal { s := greatestSeal(); s.Data, s.Parity = n, 14-n; return s }},
		{"Data beside one Parity", 1, 13, func(n int) api.Seal {
			return api.Seal{Number: 1, Data: n, Parity: 1, Labels: manyLabels(min(max(n, 0), 300) + 1)}
		}},
		{"Parity beside one Data", 1, 13, func(n int) api.Seal {
			return api.Seal{Number: 1, Data: 1, Parity: n, Labels: manyLabels(min(max(n, 0), 300) + 1)}
		}},
		{"how many Labels", 3, 3, func(n int) api.Seal { s := trio(); s.Labels = manyLabels(min(max(n, 0), 300)); return s }},
		{"the first Label", 1, greatest, func(n int) api.Seal { s := trio(); s.Labels = []int{n, 50, 60}; return s }},
		{"the last Label", 1, greatest, func(n int) api.Seal { s := trio(); s.Labels = []int{50, 60, n}; return s }},
	} {
		for _, n := range append(farNumbers(), 0, 1, 2, x.least-1, x.least, x.least+1, x.most-1, x.most, x.most+1) {
			s := x.seal(n)
			want := x.least <= n && n <= x.most
			if got := record.RightSeal(s); got != want {
				t.Errorf("P1002: RightSeal, %s %d: %v", x.name, n, got)
			}
			if b := record.SealBytes(s); len(b) > 0 != want {
				t.Errorf("P1002: SealBytes, %s %d: %x", x.name, n, b)
			}
		}
	}
}

// Bytes that are written out here.
func TestSealBytesPlainly(t *testing.T) {
	for _, x := range []struct {
		seal api.Seal
		want string
	}{
		{trio(), "\x0a\x0b\x0c\x0d" + "\x00\x02\x01" + "\x11\x12\x13\x14" + "\x21\x22\x23\x24" + "\x00\x00\x00\x03"},
		{api.Seal{Number: count, Index: 3, Data: 1, Parity: 3, Labels: []int{9, greatest, 8, 1}}, "\x40\x00\x00\x00" + "\x03\x01\x03" + "\x00\x00\x00\x09" + "\x7f\xff\xff\xff" + "\x00\x00\x00\x08" + "\x00\x00\x00\x01"},
	} {
		if b := record.SealBytes(x.seal); string(b) != x.want {
			t.Errorf("P1002: SealBytes of %v: %x, not %x", x.seal, b, x.want)
		}
		checkSeal(t, []byte(x.want), x.seal, "bytes written out")
	}
}

// Of seals that differ no two have the same bytes: the same labels in another order are another seal.
func TestSealBytesTellSealsApart(t *testing.T) {
	turned := trio()
	slices.Reverse(turned.Labels)
	seen := make(map[string]api.Seal)
	for _, s := range append(seals(), turned) {
		b := string(record.SealBytes(s))
		if was, ok := seen[b]; ok && !same(was, s) {
			t.Errorf("P1002: the same bytes of %v and of %v", was, s)
		}
		seen[b] = s
	}
}

func TestReadSealOfCutAndLongerBytes(t *testing.T) {
	for _, s := range seals() {
		b := record.SealBytes(s)
		for n := range b {
			checkNoSeal(t, b[:n], fmt.Sprintf("%d bytes of %v", n, s))
			checkEitherSeal(t, b[n+1:], fmt.Sprintf("%v, %d bytes gone at its beginning", s, n+1))
			checkNoSeal(t, slices.Concat(b[:n], b[n+1:]), fmt.Sprintf("%v, byte %d gone", s, n))
			checkNoSeal(t, slices.Concat(b[:n], b[n:n+1], b[n:]), fmt.Sprintf("%v, byte %d twice", s, n))
		}
		for _, more := range [][]byte{{0}, {1}, {255}, {0, 0}, {0, 0, 0}, {0, 0, 0, 0}, {0, 0, 0, 77}, {0, 0, 0, 77, 0}, make([]byte, 60), make([]byte, 5000), b} {
			checkNoSeal(t, slices.Concat(b, more), fmt.Sprintf("%v and %d bytes more", s, len(more)))
		}
	}
}

// Each byte turned in each way: it is a seal's, or none, as sealOf says.
func TestReadSealOfAnotherByte(t *testing.T) {
	taken, refused := 0, 0
	for _, s := range []api.Seal{trio(), greatestSeal(), {Number: 1, Index: 1, Data: 1, Parity: 1, Labels: []int{1, 2}}, {Number: 7, Data: 3, Parity: 4, Labels: labels(7)}} {
		b := rawSeal(s)
		for at, was := range b {
			for turn := 1; turn < 256; turn++ {
				b[at] = was ^ byte(turn)
				if checkEitherSeal(t, b, fmt.Sprintf("%v, byte %d turned by %d", s, at, turn)) {
					taken++
				} else {
					refused++
				}
			}
			b[at] = was
		}
	}
	if taken < 1000 || refused < 1000 {
		t.Errorf("%d were such, and %d were not: too few to tell", taken, refused)
	}
}

// Each byte of Data beside each of Parity, with as many labels, and with fourteen.
func TestReadSealOfEachDataAndParity(t *testing.T) {
	right := 0
	for data := range 256 {
		for parity := range 256 {
			if data > 30 && data < 226 && parity > 30 && parity < 226 {
				continue // both far from all edges
			}
			for _, n := range []int{data + parity, 14} {
				b := rawSeal(api.Seal{Number: 1, Data: data, Parity: parity, Labels: manyLabels(n)})
				if checkEitherSeal(t, b, fmt.Sprintf("data %d, parity %d, %d labels", data, parity, n)) {
					right++
				}
			}
		}
	}
	if right != 91+13 {
		t.Errorf("%d seals were right", right)
	}
}

// What is as long as it can be: a frame carries it.
func TestTheLongestBytes(t *testing.T) {
	if b := record.HeadBytes(api.Head{Path: longest(), Version: count, Size: 4000, From: 1, Len: 3999, Serial: count, Sum: sum}); len(b) != 50 {
		t.Errorf("P1003: the longest HeadBytes: %d bytes", len(b))
	}
	if b := record.SealBytes(greatestSeal()); len(b) != 63 {
		t.Errorf("P1003: the longest SealBytes: %d bytes", len(b))
	}
}

// guarded answers a copy of b with spare room behind, filled, and the whole of that memory.
func guarded(b []byte) (row, whole []byte) {
	whole = append(slices.Clone(b), bytes.Repeat([]byte{0xee}, 200)...)
	return whole[:len(b)], whole
}

// guardedLabels likewise.
func guardedLabels(l []int) (row, whole []int) {
	whole = append(slices.Clone(l), manyLabels(40)...)
	return whole[:len(l)], whole
}

// manyBytes are those of all heads and seals, right or not.
func manyBytes() [][]byte {
	var l [][]byte
	for _, h := range heads() {
		l = append(l, rawHead(h))
	}
	for _, x := range wrongHeads() {
		l = append(l, rawHead(x.head))
	}
	for _, s := range manySeals() {
		l = append(l, rawSeal(s))
	}
	return append(l, nil, make([]byte, 64), filled(3, 63))
}

// manySeals are all, right or not.
func manySeals() []api.Seal {
	l := seals()
	for _, x := range wrongSeals() {
		l = append(l, x.seal)
	}
	return l
}

func TestWhatIsHandedInStays(t *testing.T) {
	for _, b := range manyBytes() {
		row, whole := guarded(b)
		was := slices.Clone(whole)
		h, e := record.ReadHead(row)
		s, f := record.ReadSeal(row)
		if !bytes.Equal(whole, was) {
			t.Errorf("P1003: reading %x: the bytes, or their spare room, are changed", b)
		}
		if want, ok := headOf(b); ok != (e == api.OK) || ok && h != want {
			t.Errorf("P1003: ReadHead of %x hangs on the spare room behind", b)
		}
		if want, ok := sealOf(b); ok != (f == api.OK) || ok && !same(s, want) {
			t.Errorf("P1003: ReadSeal of %x hangs on the spare room behind", b)
		}
	}
	for _, s := range manySeals() {
		row, whole := guardedLabels(s.Labels)
		was := slices.Clone(whole)
		s.Labels = row
		if record.RightSeal(s) != rightSeal(s) {
			t.Errorf("P1003: RightSeal of %v hangs on the spare room behind Labels", s)
		}
		if b := record.SealBytes(s); rightSeal(s) != bytes.Equal(b, rawSeal(s)) {
			t.Errorf("P1003: SealBytes of %v hangs on the spare room behind Labels", s)
		}
		if !slices.Equal(whole, was) {
			t.Errorf("P1003: RightSeal, SealBytes of %v: Labels, or their spare room, are changed", s)
		}
	}
}

// scribble turns all of b, its spare room too.
func scribble(b []byte) {
	b = b[:cap(b)]
	for i := range b {
		b[i] ^= 0x5a
	}
}

func scribbleLabels(l []int) {
	l = l[:cap(l)]
	for i := range l {
		l[i] ^= 0x5a
	}
}

// Who owns what was handed in turns it: no answer is turned by that.
func TestWhatIsHandedInIsNotKept(t *testing.T) {
	for _, h := range heads() {
		b := rawHead(h)
		got, _ := record.ReadHead(b)
		scribble(b)
		if got != h {
			t.Errorf("P1003: ReadHead of %v: the bytes are kept", h)
		}
	}
	for _, s := range seals() {
		row, whole := guardedLabels(s.Labels)
		b := record.SealBytes(api.Seal{Number: s.Number, Index: s.Index, Data: s.Data, Parity: s.Parity, Labels: row})
		scribbleLabels(whole)
		if !bytes.Equal(b, rawSeal(s)) {
			t.Errorf("P1003: SealBytes of %v: Labels are kept", s)
		}
		got, _ := record.ReadSeal(b)
		scribble(b)
		if !same(got, s) {
			t.Errorf("P1003: ReadSeal of %v: the bytes are kept", s)
		}
	}
}

// The same memory, other bytes in it: what is answered is of what is there now.
func TestTheSameMemoryAnew(t *testing.T) {
	room := make([]byte, 64)
	for _, h := range heads() {
		b := room[:copy(room, rawHead(h))]
		checkHead(t, b, h, fmt.Sprintf("the same memory with %v", h))
		b[0]++
		checkNoHead(t, b, "the same memory with another length")
	}
	for _, s := range seals() {
		b := room[:copy(room, rawSeal(s))]
		checkSeal(t, b, s, fmt.Sprintf("the same memory with %v", s))
		b[5]++
		checkNoSeal(t, b, "the same memory with another Data")
	}
	list := make([]int, 14)
	for _, s := range seals() {
		s.Labels = list[:copy(list, s.Labels)]
		if !record.RightSeal(s) || !bytes.Equal(record.SealBytes(s), rawSeal(s)) {
			t.Errorf("P1003: the same memory with %v", s)
		}
		s.Labels[0] = s.Labels[1]
		if record.RightSeal(s) || len(record.SealBytes(s)) != 0 {
			t.Errorf("P1003: the same memory with a label twice, %v", s)
		}
	}
}

// Who owns an answer turns it: no other answer is turned by that, nor what was handed in.
func TestAnswersAreNewMemory(t *testing.T) {
	for _, h := range heads() {
		first, second := record.HeadBytes(h), record.HeadBytes(h)
		scribble(first)
		_ = append(first, 1, 2, 3)
		if !bytes.Equal(second, rawHead(h)) || !bytes.Equal(record.HeadBytes(h), rawHead(h)) {
			t.Errorf("P1003: HeadBytes of %v: an answer shares memory", h)
		}
		checkHead(t, second, h, "bytes beside which others were turned")
	}
	for _, s := range seals() {
		was := slices.Clone(s.Labels)
		first, second := record.SealBytes(s), record.SealBytes(s)
		scribble(first)
		_ = append(first, 1, 2, 3)
		if !bytes.Equal(second, rawSeal(s)) || !bytes.Equal(record.SealBytes(s), rawSeal(s)) || !slices.Equal(s.Labels, was) {
			t.Errorf("P1003: SealBytes of %v: an answer shares memory", s)
		}
		one, _ := record.ReadSeal(second)
		other, _ := record.ReadSeal(second)
		scribbleLabels(one.Labels)
		_ = append(one.Labels, 1, 2, 3)
		if !same(other, s) || !bytes.Equal(second, rawSeal(s)) {
			t.Errorf("P1003: ReadSeal of %v: an answer shares memory", s)
		}
		checkSeal(t, second, s, "bytes of which a seal was turned")
	}
}

// query is what is handed in to all calls.
type query struct {
	head api.Head
	seal api.Seal
	b    []byte
}

// queries are of each head, each seal and each bytes that the tests have, right or not.
func queries() []query {
	var l []query
	for _, h := range heads() {
		l = append(l, query{head: h})
	}
	for _, x := range wrongHeads() {
		l = append(l, query{head: x.head})
	}
	for _, s := range manySeals() {
		l = append(l, query{seal: s})
	}
	for _, b := range manyBytes() {
		l = append(l, query{b: b})
	}
	return l
}

// all makes every call on each query, in the order of the places, and answers what was told at each of them.
func all(l []query, places []int) []string {
	told := make([]string, len(l))
	for _, i := range places {
		q := l[i]
		x, y := record.HeadBytes(q.head), record.SealBytes(q.seal)
		h, e := record.ReadHead(q.b)
		s, f := record.ReadSeal(q.b)
		told[i] = fmt.Sprint(record.RightHead(q.head), x, record.RightSeal(q.seal), y, h, e, s, f)
		scribble(x)
		scribble(y)
		scribbleLabels(s.Labels)
	}
	return told
}

func upTo(n int) []int {
	l := make([]int, n)
	for i := range l {
		l[i] = i
	}
	return l
}

func TestAnswersHangOnArgumentsAlone(t *testing.T) {
	l := queries()
	first := all(l, upTo(len(l)))
	if !slices.Equal(all(l, upTo(len(l))), first) {
		t.Error("P1003: the same calls once more answer otherwise")
	}
	backwards := upTo(len(l))
	slices.Reverse(backwards)
	if !slices.Equal(all(l, backwards), first) {
		t.Error("P1003: the same calls in another order answer otherwise")
	}
}

// All of them ask the same, beside each other.
func TestAnswersBesideOneAnother(t *testing.T) {
	l := queries()
	first := all(l, upTo(len(l)))
	var alike [4]bool
	var workers sync.WaitGroup
	for i := range alike {
		workers.Go(func() {
			alike[i] = slices.Equal(all(l, upTo(len(l))), first)
		})
	}
	workers.Wait()
	for i, ok := range alike {
		if !ok {
			t.Errorf("P1003: worker %d was answered otherwise", i)
		}
	}
}
