package frame_test

import (
	"bytes"
	"encoding/binary"
	"fmt"
	"hash/crc32"
	"math"
	"slices"
	"sync"
	"testing"

	"cartridge/api"
	"cartridge/frame"
)

const greatest = 1<<31 - 1 // that a label or a number may be

// filled makes bytes that hang on seed alone, none of them 0.
func filled(seed, size int) []byte {
	b := make([]byte, size)
	for i := range b {
		b[i] = byte((i*7+seed*31)%255) + 1
	}
	return b
}

// roomOf is how many bytes a Load of that kind may have.
func roomOf(kind int) int {
	if kind == 6 {
		return 79
	}
	return 64
}

// kinds are all that there are.
func kinds() []int {
	return []int{api.FLabel, api.FHead, api.FData, api.FMark, api.FSeal, api.FParity}
}

// summed answers b with its sum behind.
func summed(b []byte) []byte {
	sum := crc32.Checksum(b, crc32.MakeTable(crc32.Castagnoli))
	return binary.BigEndian.AppendUint32(slices.Clone(b), sum)
}

// raw lays a block by the chapter's rule, whether it can be one or not: behind stands all that is behind the length.
func raw(kind byte, label, number uint32, size uint16, behind []byte) []byte {
	b := []byte{kind}
	b = binary.BigEndian.AppendUint32(b, label)
	b = binary.BigEndian.AppendUint32(b, number)
	b = binary.BigEndian.AppendUint16(b, size)
	return summed(append(b, behind...))
}

// blockOf is the block of a unit that has one, by other means than Put.
func blockOf(u api.Unit) []byte {
	behind := make([]byte, roomOf(u.Kind))
	copy(behind, u.Load)
	return raw(byte(u.Kind), uint32(u.Label), uint32(u.Number), uint16(len(u.Load)), behind)
}

func same(a, b api.Unit) bool {
	return a.Kind == b.Kind && a.Label == b.Label && a.Number == b.Number && bytes.Equal(a.Load, b.Load)
}

func isNone(u api.Unit) bool {
	return u.Kind == 0 && u.Label == 0 && u.Number == 0 && len(u.Load) == 0
}

func name(u api.Unit) string {
	return fmt.Sprintf("kind %d, label %d, number %d, %d bytes", u.Kind, u.Label, u.Number, len(u.Load))
}

// units are some of each kind: of each length that a Load may have, of ordinary labels and numbers and of those at the edges.
func units() []api.Unit {
	var l []api.Unit
	for _, kind := range kinds() {
		for size := range roomOf(kind) + 1 {
			l = append(l,
				api.Unit{Kind: kind, Label: 1 + size, Number: size, Load: filled(size, size)},
				api.Unit{Kind: kind, Label: 0x01020304 + kind, Number: 0x7a6b5c4d, Load: make([]byte, size)})
		}
		for _, label := range []int{1, 2, 24, 127, 128, 255, 256, 65535, 65536, 1 << 24, 1 << 30, greatest - 1, greatest} {
			for _, number := range []int{0, 1, 63, 128, 255, 256, 65535, 65536, 1 << 24, 1 << 30, greatest - 1, greatest} {
				l = append(l, api.Unit{Kind: kind, Label: label, Number: number, Load: filled(label, number%roomOf(kind))})
			}
		}
		l = append(l,
			api.Unit{Kind: kind, Label: 1},
			api.Unit{Kind: kind, Label: 1, Load: []byte{}},
			api.Unit{Kind: kind, Label: 3, Number: 4, Load: []byte("D")},
			api.Unit{Kind: kind, Label: 3, Number: 4, Load: []byte{9, 0, 0}},
			api.Unit{Kind: kind, Label: greatest, Number: greatest, Load: bytes.Repeat([]byte{255}, roomOf(kind))})
	}
	return l
}

// fewUnits are some of units, where all of them would take long.
func fewUnits() []api.Unit {
	var l []api.Unit
	for _, kind := range kinds() {
		for _, size := range []int{0, 1, 33, roomOf(kind) - 1, roomOf(kind)} {
			l = append(l, api.Unit{Kind: kind, Label: 5 + size, Number: 6, Load: filled(kind, size)})
		}
		l = append(l, api.Unit{Kind: kind, Label: greatest, Number: greatest, Load: make([]byte, 9)})
	}
	return l
}

func mustPut(t *testing.T, u api.Unit) []byte {
	t.Helper()
	b, e := frame.Put(u)
	if e != api.OK {
		t.Fatalf("P901: Put of %s: error %d", name(u), e)
	}
	return b
}

func checkPut(t *testing.T, u api.Unit, want api.Errno) {
	t.Helper()
	b, e := frame.Put(u)
	if e != want {
		t.Errorf("P901: Put of %s: error %d, not %d", name(u), e, want)
	}
	if e != api.OK && len(b) != 0 {
		t.Errorf("P901: Put of %s: %d bytes beside error %d", name(u), len(b), e)
	}
}

func checkGet(t *testing.T, b []byte, want api.Unit, what string) {
	t.Helper()
	if u, e := frame.Get(b); e != api.OK || !same(u, want) {
		t.Errorf("P901: Get of %s: %s (%v), error %d, not %s (%v)", what, name(u), u.Load, e, name(want), want.Load)
	}
}

func checkNone(t *testing.T, b []byte, what string) {
	t.Helper()
	if u, e := frame.Get(b); e != api.ErrBytes || !isNone(u) {
		t.Errorf("P901: Get of %s: %s, error %d", what, name(u), e)
	}
}

func TestGetOfTheExample(t *testing.T) {
	for _, b := range [][]byte{nil, {}, make([]byte, 0, 94), filled(1, 94)[:0]} {
		checkNone(t, b, "nothing")
	}
}

func TestTheLimits(t *testing.T) {
	if api.Frame != 79 || api.Wide != 94 || api.Load != 64 || !slices.Equal(kinds(), []int{1, 2, 3, 4, 5, 6}) {
		t.Error("the numbers of package api are others")
	}
}

// Blocks that are written out here, sums and all.
func TestPutPlainly(t *testing.T) {
	label := make([]byte, 75)
	copy(label, "\x01\x00\x00\x00\x03\x00\x00\x00\x00\x00\x01D")
	parity := make([]byte, 90)
	copy(parity, "\x06\x7f\xff\xff\xff\x01\x02\x03\x04\x00\x4f")
	copy(parity[11:], bytes.Repeat([]byte{0xa5}, 79))
	mark := make([]byte, 75)
	copy(mark, "\x04\x00\x00\x00\x01\x00\x00\x00\x02\x00\x00")
	for _, x := range []struct {
		u    api.Unit
		want []byte
	}{
		{api.Unit{Kind: api.FLabel, Label: 3, Load: []byte("D")}, append(label, 0xd7, 0xc1, 0x52, 0xe7)},
		{api.Unit{Kind: api.FParity, Label: greatest, Number: 0x01020304, Load: bytes.Repeat([]byte{0xa5}, 79)}, append(parity, 0x5c, 0x1c, 0xbb, 0xc3)},
		{api.Unit{Kind: api.FMark, Label: 1, Number: 2}, append(mark, 0xe3, 0xff, 0x77, 0x6c)},
	} {
		if b := mustPut(t, x.u); !bytes.Equal(b, x.want) {
			t.Errorf("P901: Put of %s: %x, not %x", name(x.u), b, x.want)
		}
		checkGet(t, x.want, x.u, "a block written out")
	}
}

func TestPutByteByByte(t *testing.T) {
	for _, u := range units() {
		b := mustPut(t, u)
		if len(b) != 15+roomOf(u.Kind) {
			t.Fatalf("P901: Put of %s: %d bytes", name(u), len(b))
		}
		end := 11 + len(u.Load)
		if int(b[0]) != u.Kind {
			t.Errorf("P901: Put of %s: kind %d", name(u), b[0])
		}
		if n := binary.BigEndian.Uint32(b[1:]); int(n) != u.Label {
			t.Errorf("P901: Put of %s: label %d", name(u), n)
		}
		if n := binary.BigEndian.Uint32(b[5:]); int(n) != u.Number {
			t.Errorf("P901: Put of %s: number %d", name(u), n)
		}
		if n := binary.BigEndian.Uint16(b[9:]); int(n) != len(u.Load) {
			t.Errorf("P901: Put of %s: length %d", name(u), n)
		}
		if !bytes.Equal(b[11:end], u.Load) {
			t.Errorf("P901: Put of %s: Load %v, not %v", name(u), b[11:end], u.Load)
		}
		for i, c := range b[end : len(b)-4] {
			if c != 0 {
				t.Errorf("P901: Put of %s: byte %d behind Load is %d", name(u), i, c)
			}
		}
		if !bytes.Equal(b, summed(b[:len(b)-4])) {
			t.Errorf("P901: Put of %s: the sum is %x", name(u), b[len(b)-4:])
		}
	}
}

func TestPutByOtherMeans(t *testing.T) {
	for _, u := range units() {
		if b := mustPut(t, u); !bytes.Equal(b, blockOf(u)) {
			t.Errorf("P901: Put of %s: %x, not %x", name(u), b, blockOf(u))
		}
	}
}

// Of units that differ no two have one block; of no Load there is but one, be it nil or empty.
func TestPutTellsUnitsApart(t *testing.T) {
	seen := make(map[string]api.Unit)
	for _, u := range units() {
		b := string(mustPut(t, u))
		if was, ok := seen[b]; ok && !same(was, u) {
			t.Errorf("P901: one block of %s and of %s", name(was), name(u))
		}
		seen[b] = u
	}
}

func TestPutOfAKindThatIsNone(t *testing.T) {
	for _, kind := range []int{0, -1, 7, 8, 255, 256, 257, 258, 259, 260, 261, 262, -250, -255, 1 << 16, 1<<32 + 1, 1<<32 + 6, -1 << 32, math.MinInt, math.MinInt + 6, math.MaxInt} {
		for _, size := range []int{0, 1, 64, 65, 79, 80} {
			checkPut(t, api.Unit{Kind: kind, Label: 1, Number: 1, Load: filled(1, size)}, api.ErrArg)
		}
	}
	for _, kind := range kinds() {
		checkPut(t, api.Unit{Kind: kind, Label: 1, Number: 1}, api.OK)
	}
}

// wrongNumbers can be neither a label nor a number; some have 4 low bytes that can.
func wrongNumbers() []int {
	return []int{-1, -2, -greatest, -1 << 31, -1<<31 - 1, -1 << 32, -1<<32 + 1, greatest + 1, greatest + 2, 1<<32 - 1, 1 << 32, 1<<32 + 1, 1 << 40, 1<<40 + 5, math.MinInt, math.MinInt + 1, math.MaxInt}
}

func TestPutOfALabelThatCannotBe(t *testing.T) {
	for _, kind := range kinds() {
		for _, label := range append(wrongNumbers(), 0) {
			checkPut(t, api.Unit{Kind: kind, Label: label, Number: 1, Load: []byte{1}}, api.ErrArg)
		}
		for _, label := range []int{1, 2, greatest - 1, greatest} {
			checkPut(t, api.Unit{Kind: kind, Label: label, Number: 1, Load: []byte{1}}, api.OK)
		}
	}
}

func TestPutOfANumberThatCannotBe(t *testing.T) {
	for _, kind := range kinds() {
		for _, number := range wrongNumbers() {
			checkPut(t, api.Unit{Kind: kind, Label: 1, Number: number, Load: []byte{1}}, api.ErrArg)
		}
		for _, number := range []int{0, 1, greatest - 1, greatest} {
			checkPut(t, api.Unit{Kind: kind, Label: 1, Number: number, Load: []byte{1}}, api.OK)
		}
	}
}

func TestPutOfEachLength(t *testing.T) {
	sizes := []int{254, 255, 256, 257, 4000, 65535, 65536, 65537, 65536 + 64, 65536 + 65, 65536 + 79, 1 << 17, 1 << 20}
	for size := range 200 {
		sizes = append(sizes, size)
	}
	for _, kind := range kinds() {
		for _, size := range sizes {
			want := api.OK
			if size > roomOf(kind) {
				want = api.ErrLong
			}
			checkPut(t, api.Unit{Kind: kind, Label: 1, Load: filled(1, size)}, want)
			checkPut(t, api.Unit{Kind: kind, Label: greatest, Number: greatest, Load: make([]byte, size)}, want)
		}
	}
}

// Where there are several errors, it is ErrArg: too many bytes are asked for last.
func TestWhichErrorOfSeveral(t *testing.T) {
	for _, kind := range []int{0, 7, -1, 1, 2, 3, 4, 5, 6} {
		for _, label := range []int{0, -1, greatest + 1, 1} {
			for _, number := range []int{-1, greatest + 1, 0} {
				for _, size := range []int{0, 64, 65, 79, 80, 70000} {
					want := api.OK
					switch {
					case kind < 1 || kind > 6 || label != 1 || number != 0:
						want = api.ErrArg
					case size > roomOf(kind):
						want = api.ErrLong
					}
					checkPut(t, api.Unit{Kind: kind, Label: label, Number: number, Load: filled(2, size)}, want)
				}
			}
		}
	}
}

func TestGetBack(t *testing.T) {
	for _, u := range units() {
		checkGet(t, mustPut(t, u), u, "the block of "+name(u))
		checkGet(t, blockOf(u), u, "the block, made by other means, of "+name(u))
	}
}

func TestGetOfATurnedBit(t *testing.T) {
	for _, u := range fewUnits() {
		b := mustPut(t, u)
		for at := range 8 * len(b) {
			b[at/8] ^= 1 << (at % 8)
			checkNone(t, b, fmt.Sprintf("the block of %s, bit %d turned", name(u), at))
			b[at/8] ^= 1 << (at % 8)
		}
		checkGet(t, b, u, "the block with nothing turned any more")
	}
}

func TestGetOfAnotherByte(t *testing.T) {
	for _, u := range fewUnits() {
		b := mustPut(t, u)
		for at, was := range b {
			for turn := 1; turn < 256; turn += 7 {
				b[at] = was ^ byte(turn)
				checkNone(t, b, fmt.Sprintf("the block of %s, byte %d turned by %d", name(u), at, turn))
			}
			b[at] = was
		}
	}
}

// A cut block, with its old sum or with the sum of what is left.
func TestGetOfACutBlock(t *testing.T) {
	for _, u := range fewUnits() {
		b := mustPut(t, u)
		for n := range b {
			what := fmt.Sprintf("the block of %s, %d bytes alone", name(u), n)
			checkNone(t, b[:n], what)
			checkNone(t, b[n+1:], what+" gone at its beginning")
			checkNone(t, slices.Concat(b[:n], b[n+1:]), what+", and those behind the next one")
			if n < len(b)-4 {
				checkNone(t, summed(b[:n]), what+" and their sum")
			}
		}
	}
}

func TestGetOfALongerBlock(t *testing.T) {
	for _, u := range fewUnits() {
		b := mustPut(t, u)
		for _, n := range []int{1, 2, 3, 4, 14, 15, 16, 79, 94, 5000, 70000} {
			what := fmt.Sprintf("the block of %s and %d bytes more", name(u), n)
			checkNone(t, slices.Concat(b, make([]byte, n)), what)
			checkNone(t, slices.Concat(b, filled(n, n)), what)
			checkNone(t, slices.Concat(make([]byte, n), b), what+" ahead")
			checkNone(t, summed(slices.Concat(b, make([]byte, n))), what+" and their sum")
			checkNone(t, summed(slices.Concat(b[:len(b)-4], make([]byte, n))), what+", and the sum behind them")
		}
		checkNone(t, slices.Concat(b, b), "the block of "+name(u)+", twice")
		checkNone(t, summed(b), "the block of "+name(u)+" and its sum")
	}
}

// rawUnit asks by other means whether b is a block, and answers its unit.
func rawUnit(b []byte) (api.Unit, bool) {
	if len(b) != 79 && len(b) != 94 || !bytes.Equal(summed(b[:len(b)-4]), b) {
		return api.Unit{}, false
	}
	kind, label, number, size := int(b[0]), int(binary.BigEndian.Uint32(b[1:])), int(binary.BigEndian.Uint32(b[5:])), int(binary.BigEndian.Uint16(b[9:]))
	room := len(b) - 15
	if kind < 1 || kind > 6 || room != roomOf(kind) || label < 1 || label > greatest || number > greatest || size > room {
		return api.Unit{}, false
	}
	if slices.ContainsFunc(b[11+size:len(b)-4], func(c byte) bool { return c != 0 }) {
		return api.Unit{}, false
	}
	return api.Unit{Kind: kind, Label: label, Number: number, Load: b[11 : 11+size]}, true
}

// Blocks whose sums are right, each of another kind, label, number, length, or with other bytes behind.
func TestGetOfARightSum(t *testing.T) {
	zeros, wide := make([]byte, 64), make([]byte, 79)
	for _, x := range []struct {
		b    []byte
		what string
	}{
		{raw(0, 1, 1, 0, zeros), "kind 0"},
		{raw(7, 1, 1, 0, zeros), "kind 7"},
		{raw(7, 1, 1, 0, wide), "kind 7, wide"},
		{raw(255, 1, 1, 0, zeros), "kind 255"},
		{raw(0, 0, 0, 0, zeros), "bytes 0"},
		{raw(0, 0, 0, 0, wide), "bytes 0, wide"},
		{raw(3, 0, 1, 0, zeros), "label 0"},
		{raw(3, 1<<31, 1, 0, zeros), "label 2^31"},
		{raw(3, 1<<32-1, 1, 0, zeros), "label 2^32 - 1"},
		{raw(3, 1, 1<<31, 0, zeros), "number 2^31"},
		{raw(3, 1, 1<<32-1, 0, zeros), "number 2^32 - 1"},
		{raw(6, 0, 1, 0, wide), "label 0, wide"},
		{raw(6, 1, 1<<31, 0, wide), "number 2^31, wide"},
		{raw(3, 1, 1, 65, zeros), "length 65"},
		{raw(3, 1, 1, 65, make([]byte, 65)), "length 65, and as many bytes"},
		{raw(3, 1, 1, 68, zeros), "length 68, up to the end of the sum"},
		{raw(3, 1, 1, 69, zeros), "length 69, behind the end of the sum"},
		{raw(3, 1, 1, 256, zeros), "length 256"},
		{raw(3, 1, 1, 65535, zeros), "length 65535"},
		{raw(3, 1, 1, 79, wide), "length 79 of no parity"},
		{raw(6, 1, 1, 80, wide), "length 80"},
		{raw(6, 1, 1, 80, make([]byte, 80)), "length 80, and as many bytes"},
		{raw(6, 1, 1, 83, wide), "length 83, up to the end of the sum"},
		{raw(6, 1, 1, 65535, wide), "length 65535, wide"},
		{raw(6, 1, 1, 0, zeros), "parity that is not wide"},
		{raw(6, 1, 1, 64, zeros), "parity that is not wide, and full"},
		{raw(1, 1, 1, 0, wide), "a label that is wide"},
		{raw(3, 1, 1, 64, wide), "data that is wide"},
		{raw(3, 1, 1, 3, []byte{1, 2, 3}), "no bytes 0 behind Load"},
		{raw(3, 1, 1, 0, zeros[:63]), "a byte 0 too few"},
		{raw(3, 1, 1, 0, wide[:65]), "a byte 0 too many"},
		{raw(6, 1, 1, 0, wide[:78]), "a byte 0 too few, wide"},
		{raw(6, 1, 1, 0, make([]byte, 80)), "a byte 0 too many, wide"},
		{summed(nil), "no bytes and their sum"},
		{summed([]byte{3}), "a kind alone and its sum"},
		{summed(blockOf(api.Unit{Kind: 3, Label: 1})[:11]), "a head alone and its sum"},
	} {
		checkNone(t, x.b, x.what)
	}
}

// Each byte behind Load, of each length of it, is one that has to be 0.
func TestGetOfBytesBehindLoad(t *testing.T) {
	for _, kind := range kinds() {
		for size := range roomOf(kind) {
			for at := range roomOf(kind) {
				for _, c := range []byte{1, 128, 255} {
					u := api.Unit{Kind: kind, Label: 5, Number: 6, Load: make([]byte, size)}
					behind := make([]byte, roomOf(kind))
					behind[at] = c
					b := raw(byte(kind), 5, 6, uint16(size), behind)
					if at < size {
						u.Load[at] = c
						checkGet(t, b, u, name(u))
					} else {
						checkNone(t, b, fmt.Sprintf("the block of %s, byte %d behind it %d", name(u), at-size, c))
					}
				}
			}
		}
	}
}

// A sum that is right of its bytes, written in another way or of other bytes.
func TestGetOfAnotherSum(t *testing.T) {
	for _, u := range fewUnits() {
		b := blockOf(u)
		body, sum := b[:len(b)-4], binary.BigEndian.Uint32(b[len(b)-4:])
		table := crc32.MakeTable(crc32.Castagnoli)
		for i, other := range []uint32{
			0, ^sum, sum + 1, sum - 1, sum<<8 | sum>>24, sum<<16 | sum>>16, binary.LittleEndian.Uint32(b[len(b)-4:]),
			crc32.ChecksumIEEE(body), crc32.Checksum(body[1:], table), crc32.Checksum(body[11:], table), crc32.Checksum(body[:11+len(u.Load)-1], table), crc32.Checksum(b, table),
		} {
			if other != sum {
				checkNone(t, binary.BigEndian.AppendUint32(slices.Clone(body), other), fmt.Sprintf("the block of %s with another sum, %d", name(u), i))
			}
		}
	}
}

// Any byte turned, and the sum made anew: it is a block, or none, as rawUnit says, and if it is one, Put makes it.
func TestGetOfAnyRightSum(t *testing.T) {
	taken, refused := 0, 0
	for _, u := range fewUnits() {
		b := blockOf(u)
		for at := range len(b) - 4 {
			step := 1
			if at > 11 {
				step = 9 // of what lies in Load and behind it, some turns are like all others
			}
			for turn := 1; turn < 256; turn += step {
				x := slices.Clone(b[:len(b)-4])
				x[at] ^= byte(turn)
				x = summed(x)
				what := fmt.Sprintf("the block of %s, byte %d turned by %d, the sum anew", name(u), at, turn)
				want, ok := rawUnit(x)
				if !ok {
					checkNone(t, x, what)
					refused++
					continue
				}
				taken++
				checkGet(t, x, want, what)
				if again := mustPut(t, want); !bytes.Equal(again, x) {
					t.Errorf("P901: Get of %s: taken, but Put makes another one", what)
				}
			}
		}
	}
	if taken < 1000 || refused < 1000 {
		t.Errorf("%d blocks were such, and %d were not: too few to tell", taken, refused)
	}
}

// Bytes of any length, mostly 0 or not, with and without a right sum.
func TestGetOfAnyBytes(t *testing.T) {
	for n := range 300 {
		for seed := range 8 {
			b := filled(seed*300+n, n)
			for i := range b {
				if seed%2 == 1 && i%(seed+1) > 0 {
					b[i] = 0
				}
			}
			checkNone(t, b, fmt.Sprintf("%d bytes of seed %d", n, seed))
			x := summed(b)
			if want, ok := rawUnit(x); ok {
				checkGet(t, x, want, fmt.Sprintf("%d bytes of seed %d and their sum", n, seed))
			} else {
				checkNone(t, x, fmt.Sprintf("%d bytes of seed %d and their sum", n, seed))
			}
		}
		checkNone(t, make([]byte, n), fmt.Sprintf("%d bytes 0", n))
		checkNone(t, bytes.Repeat([]byte{255}, n), fmt.Sprintf("%d bytes 255", n))
	}
	checkNone(t, make([]byte, 1<<20), "many bytes 0")
}

// guarded answers a copy of b with spare room behind, filled, and the whole of that memory.
func guarded(b []byte) (row, whole []byte) {
	whole = append(slices.Clone(b), bytes.Repeat([]byte{0xee}, 200)...)
	return whole[:len(b)], whole
}

func TestWhatIsHandedInStays(t *testing.T) {
	l := units()
	for _, u := range fewUnits() {
		l = append(l, api.Unit{Kind: 7, Label: 1, Load: u.Load}, api.Unit{Kind: u.Kind, Label: 1, Load: filled(1, 90)})
	}
	for _, u := range l {
		load, whole := guarded(u.Load)
		was := slices.Clone(whole)
		u.Load = load
		b, e := frame.Put(u)
		if !bytes.Equal(whole, was) {
			t.Errorf("P902: Put of %s: Load, or its spare room, is changed", name(u))
		}
		if e == api.OK && !bytes.Equal(b, blockOf(u)) {
			t.Errorf("P902: Put of %s hangs on the spare room behind Load", name(u))
		}
		if e != api.OK {
			b = []byte{3, 0, 0, 0, 1}
		}
		block, whole := guarded(b)
		was = slices.Clone(whole)
		frame.Get(block)
		frame.Get(whole)
		frame.Get(block[:len(block)-1])
		if !bytes.Equal(whole, was) {
			t.Errorf("P902: Get of the block of %s: the block, or its spare room, is changed", name(u))
		}
	}
}

// scribble turns all of b, its spare room too.
func scribble(b []byte) {
	b = b[:cap(b)]
	for i := range b {
		b[i] ^= 0x5a
	}
}

// Who owns what was handed in turns it: no answer is turned by that.
func TestWhatIsHandedInIsNotKept(t *testing.T) {
	for _, u := range units() {
		load, whole := guarded(u.Load)
		b := mustPut(t, api.Unit{Kind: u.Kind, Label: u.Label, Number: u.Number, Load: load})
		scribble(whole)
		if !bytes.Equal(b, blockOf(u)) {
			t.Errorf("P902: Put of %s: Load is kept", name(u))
		}
		block, whole := guarded(b)
		got, _ := frame.Get(block)
		scribble(whole)
		if !same(got, u) {
			t.Errorf("P902: Get of the block of %s: the block is kept", name(u))
		}
	}
}

// The same memory, other bytes in it: what is answered is of what is there now.
func TestTheSameMemoryAnew(t *testing.T) {
	room := make([]byte, 94)
	for _, u := range units() {
		b := room[:copy(room, blockOf(u))]
		checkGet(t, b, u, "the same memory with the block of "+name(u))
		b[12] ^= 1
		checkNone(t, b, "the same memory with a bit turned")
	}
}

// Who owns an answer turns it: no other answer is turned by that, nor what was handed in.
func TestAnswersAreNewMemory(t *testing.T) {
	for _, u := range units() {
		handed := slices.Clone(u.Load)
		first, second := mustPut(t, u), mustPut(t, u)
		scribble(first)
		_ = append(first, 1, 2, 3)
		if !bytes.Equal(second, blockOf(u)) || !bytes.Equal(mustPut(t, u), blockOf(u)) || !bytes.Equal(u.Load, handed) {
			t.Errorf("P902: Put of %s: an answer shares memory", name(u))
		}
		one, _ := frame.Get(second)
		other, _ := frame.Get(second)
		scribble(one.Load)
		_ = append(one.Load, 1, 2, 3)
		if !same(other, u) || !bytes.Equal(second, blockOf(u)) {
			t.Errorf("P902: Get of the block of %s: an answer shares memory", name(u))
		}
		checkGet(t, second, u, "a block whose unit was turned")
	}
}

// all calls both on each unit, in the order of the places, and answers what was told at each of them.
func all(l []api.Unit, places []int) []string {
	told := make([]string, len(l))
	for _, i := range places {
		b, e := frame.Put(l[i])
		u, f := frame.Get(b)
		v, g := frame.Get(b[min(i%2, len(b)):])
		told[i] = fmt.Sprint(b, e, u, f, v, g)
		scribble(b)
		scribble(u.Load)
	}
	return told
}

func upTo(n int) []int {
	l := make([]int, n)
	for i := range l {
		l[i] = i
	}
	return l
}

// someUnits are all of units, and some that have no block.
func someUnits() []api.Unit {
	return append(units(), api.Unit{}, api.Unit{Kind: 7, Label: 1}, api.Unit{Kind: 1, Label: 0}, api.Unit{Kind: 6, Label: 1, Number: -1}, api.Unit{Kind: 2, Label: 1, Load: make([]byte, 65)})
}

func TestAnswersHangOnArgumentsAlone(t *testing.T) {
	l := someUnits()
	first := all(l, upTo(len(l)))
	if !slices.Equal(all(l, upTo(len(l))), first) {
		t.Error("P902: the same calls once more answer otherwise")
	}
	backwards := upTo(len(l))
	slices.Reverse(backwards)
	if !slices.Equal(all(l, backwards), first) {
		t.Error("P902: the same calls in another order answer otherwise")
	}
}

// All of them put and get the same units, beside each other.
func TestAnswersBesideOneAnother(t *testing.T) {
	l := someUnits()
	first := all(l, upTo(len(l)))
	var alike [4]bool
	var workers sync.WaitGroup
	for i := range alike {
		workers.Go(func() {
			alike[i] = slices.Equal(all(l, upTo(len(l))), first)
		})
	}
	workers.Wait()
	for i, ok := range alike {
		if !ok {
			t.Errorf("P902: worker %d was answered otherwise", i)
		}
	}
}
