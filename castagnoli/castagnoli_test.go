package castagnoli_test

import (
	"bytes"
	"encoding/binary"
	"hash/crc32"
	"math/bits"
	"slices"
	"sync"
	"testing"

	"cartridge/castagnoli"
)

// filled makes bytes that hang on seed alone.
func filled(seed uint32, size int) []byte {
	b := make([]byte, size)
	for i := range b {
		seed = seed*1664525 + 1013904223
		b[i] = byte(seed >> 20)
	}
	return b
}

// divided reckons by the meaning of the sum, a long division bit by bit with nothing turned round but
// the bits of each byte and the rest, so that nothing here leans on what is tested.
func divided(b []byte) uint32 {
	const polynomial = 0x11edc6f41
	var rest uint64
	for at := range 8*len(b) + 32 {
		var bit uint64
		if at < 8*len(b) {
			bit = uint64(b[at/8] >> (at % 8) & 1)
		}
		if at < 32 {
			bit ^= 1 // all bits 1 at first
		}
		rest = rest<<1 | bit
		if rest>>32 == 1 {
			rest ^= polynomial
		}
	}
	return ^bits.Reverse32(uint32(rest))
}

// four answers the four bytes of which sum is the sum: there are such of each sum.
func four(sum uint32) []byte {
	const polynomial = 0x82f63b78
	rest := ^sum
	for range 32 {
		if rest>>31 == 1 {
			rest = (rest^polynomial)<<1 | 1
		} else {
			rest <<= 1
		}
	}
	return binary.LittleEndian.AppendUint32(nil, ^rest)
}

// sums answers some of all kinds: the ends, each bit alone, each bit missing, and any others.
func sums() []uint32 {
	l := []uint32{0, 77, 0xffffffff, 0x82f63b78, 0x1edc6f41, 0xe3069283}
	for i := range 32 {
		l = append(l, 1<<i, ^uint32(1<<i))
	}
	seed := uint32(1)
	for range 300 {
		seed = seed*1664525 + 1013904223
		l = append(l, seed)
	}
	return l
}

// sizes are those of all that is short, and of what is about as long as a frame, a page, a file.
func sizes() []int {
	l := []int{255, 256, 257, 511, 512, 1000, 3999, 4000, 4095, 4096, 4097, 65535, 65536, 65537}
	for n := range 131 {
		l = append(l, n)
	}
	return l
}

func checkSum(t *testing.T, b []byte, want uint32) {
	t.Helper()
	if got := castagnoli.Sum(b); got != want {
		t.Errorf("P401: Sum of %d bytes: %08x, not %08x", len(b), got, want)
	}
}

func TestSumOfTheExample(t *testing.T) {
	checkSum(t, []byte("123456789"), 0xe3069283)
}

func TestSumOfNothing(t *testing.T) {
	for _, b := range [][]byte{nil, {}, make([]byte, 0, 4), []byte{9, 9, 9}[:0]} {
		checkSum(t, b, 0)
	}
}

// Those that are known elsewhere: RFC 3720, B.4, and some of few bytes.
func TestSumOfKnownOnes(t *testing.T) {
	up, down := make([]byte, 32), make([]byte, 32)
	for i := range up {
		up[i], down[31-i] = byte(i), byte(i)
	}
	checkSum(t, make([]byte, 32), 0x8a9136aa)
	checkSum(t, bytes.Repeat([]byte{0xff}, 32), 0x62a8ab43)
	checkSum(t, up, 0x46dd794e)
	checkSum(t, down, 0x113fdb5c)
	checkSum(t, []byte{0}, 0x527d5351)
	checkSum(t, []byte{0xff}, 0xff000000)
	checkSum(t, []byte("a"), 0xc1d04330)
	checkSum(t, []byte("abc"), 0x364b3fb7)
	checkSum(t, []byte{0xff, 0xff, 0xff, 0xff}, 0xffffffff)
}

func TestSumOfEachByte(t *testing.T) {
	seen := make(map[uint32]int)
	for v := range 256 {
		b := []byte{byte(v)}
		checkSum(t, b, divided(b))
		seen[castagnoli.Sum(b)]++
	}
	if len(seen) != 256 {
		t.Errorf("P401: 256 bytes, each alone, have %d sums", len(seen))
	}
}

func TestSumOfEachTwoBytes(t *testing.T) {
	for v := range 1 << 16 {
		b := []byte{byte(v >> 8), byte(v)}
		checkSum(t, b, divided(b))
	}
}

func TestSumOfManyBytes(t *testing.T) {
	table := crc32.MakeTable(crc32.Castagnoli)
	for _, n := range sizes() {
		for _, b := range [][]byte{
			filled(uint32(n), n), filled(uint32(n)+7, n), make([]byte, n), bytes.Repeat([]byte{0xff}, n), bytes.Repeat([]byte{0x80}, n), bytes.Repeat([]byte{1}, n),
		} {
			checkSum(t, b, divided(b))
			checkSum(t, b, crc32.Checksum(b, table))
		}
	}
	long := filled(3, 5_000_000)
	checkSum(t, long, crc32.Checksum(long, table))
}

// Bytes 0, ahead and behind, are not as if they weren't there.
func TestSumCountsZeros(t *testing.T) {
	seen := make(map[uint32]int)
	for n := range 300 {
		seen[castagnoli.Sum(make([]byte, n))]++
		seen[castagnoli.Sum(append(make([]byte, n), 1))]++
		seen[castagnoli.Sum(append([]byte{2}, make([]byte, n)...))]++
	}
	if len(seen) != 900 {
		t.Errorf("P401: 900 rows, most of their bytes 0, have %d sums", len(seen))
	}
}

func checkMore(t *testing.T, sum uint32, b []byte, want uint32) {
	t.Helper()
	if got := castagnoli.More(sum, b); got != want {
		t.Errorf("P401: More of %08x and %d bytes: %08x, not %08x", sum, len(b), got, want)
	}
}

func TestMoreOfNoBytes(t *testing.T) {
	for _, sum := range sums() {
		for _, b := range [][]byte{nil, {}, make([]byte, 0, 4), []byte{9, 9, 9}[:0]} {
			checkMore(t, sum, b, sum)
		}
	}
}

// 0 is the Sum of nothing.
func TestMoreOfSumZero(t *testing.T) {
	checkMore(t, 0, []byte("123456789"), 0xe3069283)
	for _, n := range sizes() {
		b := filled(uint32(n), n)
		checkMore(t, 0, b, divided(b))
		checkMore(t, 0, b, castagnoli.Sum(b))
	}
}

// A sum that is of nothing, and of four bytes besides: More can't tell them from each other.
func TestMoreOfOtherRowsOfOneSum(t *testing.T) {
	a, b := four(0), []byte("123456789")
	checkSum(t, a, 0)
	checkMore(t, castagnoli.Sum(a), b, 0xe3069283)
	checkSum(t, slices.Concat(a, b), 0xe3069283)
}

func TestMoreOfAnySum(t *testing.T) {
	for _, sum := range sums() {
		a := four(sum)
		if divided(a) != sum {
			t.Fatalf("the four bytes of %08x are wrong", sum)
		}
		checkSum(t, a, sum)
		for _, n := range []int{0, 1, 2, 3, 4, 5, 7, 8, 9, 64, 79} {
			b := filled(sum, n)
			checkMore(t, sum, b, divided(slices.Concat(a, b)))
		}
	}
}

func TestMoreOfEachByte(t *testing.T) {
	for _, sum := range sums()[:70] {
		a := four(sum)
		for v := range 256 {
			checkMore(t, sum, []byte{byte(v)}, divided(append(a, byte(v))))
		}
	}
}

// Wherever the cut is, the ends too.
func TestMoreBehindEachCut(t *testing.T) {
	for _, n := range []int{0, 1, 2, 3, 4, 5, 8, 9, 31, 32, 33, 64, 79, 94, 300} {
		b := filled(uint32(n)+5, n)
		want := divided(b)
		checkSum(t, b, want)
		for cut := range n + 1 {
			checkMore(t, castagnoli.Sum(b[:cut]), b[cut:], want)
		}
	}
	long := filled(6, 4000)
	want := divided(long)
	for cut := range len(long) + 1 {
		checkMore(t, castagnoli.Sum(long[:cut]), long[cut:], want)
	}
}

func TestMoreBehindTwoCuts(t *testing.T) {
	b := filled(8, 40)
	want := divided(b)
	for first := range len(b) + 1 {
		for second := first; second <= len(b); second++ {
			sum := castagnoli.More(castagnoli.Sum(b[:first]), b[first:second])
			checkMore(t, sum, b[second:], want)
		}
	}
}

func TestMoreByteByByte(t *testing.T) {
	b := filled(9, 1000)
	var sum uint32
	for i := range b {
		sum = castagnoli.More(sum, b[i:i+1])
		if want := divided(b[:i+1]); sum != want {
			t.Fatalf("P401: More byte by byte, %d of them: %08x, not %08x", i+1, sum, want)
		}
	}
}

func TestOneBitTurned(t *testing.T) {
	for _, n := range []int{1, 2, 3, 4, 5, 9, 64, 79, 94, 500} {
		b := filled(uint32(n), n)
		was := castagnoli.Sum(b)
		for at := range 8 * n {
			b[at/8] ^= 1 << (at % 8)
			got := castagnoli.Sum(b)
			if got == was || got != divided(b) {
				t.Errorf("P401: Sum of %d bytes, bit %d turned: %08x, and %08x ahead of that", n, at, got, was)
			}
			checkMore(t, castagnoli.Sum(b[:n/2]), b[n/2:], got)
			b[at/8] ^= 1 << (at % 8)
		}
		checkSum(t, b, was)
	}
}

func TestOneBitOfTheSumTurned(t *testing.T) {
	for _, n := range []int{0, 1, 2, 3, 4, 5, 9, 64, 500} {
		b := filled(uint32(n), n)
		for _, sum := range sums()[:20] {
			was := castagnoli.More(sum, b)
			for i := range 32 {
				other := sum ^ 1<<i
				got := castagnoli.More(other, b)
				if got == was || got != divided(slices.Concat(four(other), b)) {
					t.Errorf("P401: More of %08x and of %08x and %d bytes: %08x and %08x", sum, other, n, was, got)
				}
			}
		}
	}
}

// guarded lays b into memory that has spare room, all of it filled.
func guarded(b []byte) []byte {
	wide := append(slices.Clone(b), 0xa5, 0, 0xff, 0x5a)
	return wide[: len(b) : len(b)+4]
}

func TestWhatIsHandedInStays(t *testing.T) {
	for _, n := range sizes() {
		b := guarded(filled(uint32(n), n))
		was := slices.Clone(b[:cap(b)])
		first, behind := castagnoli.Sum(b), castagnoli.More(77, b)
		if !bytes.Equal(b[:cap(b)], was) {
			t.Errorf("P402: bytes that were handed in, %d of them, are changed", n)
		}
		for i := n; i < cap(b); i++ {
			b[:cap(b)][i] ^= 0xff
		}
		if castagnoli.Sum(b) != first || castagnoli.More(77, b) != behind {
			t.Errorf("P402: the sum of %d bytes hangs on the spare room behind them", n)
		}
	}
}

// The same memory, other bytes in it: the sum is of what is there now.
func TestWhatIsHandedInIsNotKept(t *testing.T) {
	b := make([]byte, 79)
	for seed := range uint32(50) {
		copy(b, filled(seed, len(b)))
		if got, want := castagnoli.Sum(b), divided(b); got != want {
			t.Errorf("P402: Sum of the same memory, filled anew: %08x, not %08x", got, want)
		}
		if got, want := castagnoli.More(castagnoli.Sum(b), b), divided(slices.Concat(b, b)); got != want {
			t.Errorf("P402: More of the same memory, filled anew: %08x, not %08x", got, want)
		}
	}
}

// all calls everything on rows of each size, in the order of the places.
func all(places []int) [100][4]uint32 {
	var answers [100][4]uint32
	for _, n := range places {
		b := filled(uint32(n), n)
		sum := castagnoli.Sum(b)
		answers[n] = [4]uint32{sum, castagnoli.More(0, b), castagnoli.More(sum, b), castagnoli.More(^uint32(n), b)}
	}
	return answers
}

func places() []int {
	l := make([]int, 100)
	for i := range l {
		l[i] = i
	}
	return l
}

func TestAnswersHangOnArgumentsAlone(t *testing.T) {
	first := all(places())
	if all(places()) != first {
		t.Error("P402: the same calls once more answer otherwise")
	}
	backwards := places()
	slices.Reverse(backwards)
	if all(backwards) != first {
		t.Error("P402: the same calls in another order answer otherwise")
	}
}

// All of them read one row, beside each other.
func TestAnswersBesideOneAnother(t *testing.T) {
	first := all(places())
	shared := filled(10, 4000)
	sum := divided(shared)
	var same [4]bool
	var workers sync.WaitGroup
	for i := range same {
		workers.Go(func() {
			same[i] = all(places()) == first &&
				castagnoli.Sum(shared) == sum &&
				castagnoli.More(castagnoli.Sum(shared[:i*1000]), shared[i*1000:]) == sum
		})
	}
	workers.Wait()
	for i, ok := range same {
		if !ok {
			t.Errorf("P402: worker %d was answered otherwise", i)
		}
	}
}
