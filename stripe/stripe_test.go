package stripe_test

import (
	"bytes"
	"fmt"
	"math"
	"math/bits"
	"slices"
	"sync"
	"testing"

	"cartridge/api"
	"cartridge/erasure"
	"cartridge/gf"
	"cartridge/stripe"
)

const frame = 79 // bytes of a block

func TestTheLimits(t *testing.T) {
	if api.Frame != frame || api.Wide != 94 || api.MaxBlocks != 64 || api.ErrArg != 1 {
		t.Error("the numbers of package api are others")
	}
}

// filled makes bytes, none of them 0, that hang on seed alone.
func filled(seed, size int) []byte {
	b := make([]byte, size)
	for i := range b {
		b[i] = byte((i*7+seed*31+seed/255*5)%255) + 1
	}
	return b
}

// of makes a tape of blocks of these sizes, filled by its label.
func of(label int, sizes ...int) api.Tape {
	t := api.Tape{Label: label}
	for n, size := range sizes {
		t.Blocks = append(t.Blocks, filled(label*100+n, size))
	}
	return t
}

// right makes a tape of so many blocks, each of a frame's length.
func right(label, blocks int) api.Tape {
	return of(label, slices.Repeat([]int{frame}, blocks)...)
}

func lost(t api.Tape) api.Tape {
	t.Lost = true
	return t
}

// unlike makes as many tapes as there are lengths, of so many blocks each.
func unlike(lengths ...int) []api.Tape {
	var l []api.Tape
	for i, n := range lengths {
		l = append(l, right(i+1, n))
	}
	return l
}

// lenOf is how many rows tapes have, by their meaning.
func lenOf(l []api.Tape) int {
	n := 0
	for slices.ContainsFunc(l, func(t api.Tape) bool { return !t.Lost && len(t.Blocks) > n }) {
		n++
	}
	return n
}

// rowOf is a row, by its meaning.
func rowOf(l []api.Tape, n int) [][]byte {
	var row [][]byte
	for _, t := range l {
		b := make([]byte, frame)
		for at := range t.Blocks {
			if at == n && !t.Lost {
				b = slices.Clone(t.Blocks[at])
			}
		}
		if len(b) != frame {
			b = nil
		}
		row = append(row, b)
	}
	return row
}

// parityOf is the parity of tapes by the rule of Cauchy's rows; false: it is refused.
func parityOf(l []api.Tape, parity int) ([][][]byte, bool) {
	if len(l) < 1 || len(l) > 255 || parity < 0 || parity > 255-len(l) {
		return nil, false
	}
	tapes := make([][][]byte, parity)
	for n := range lenOf(l) {
		row := rowOf(l, n)
		if slices.ContainsFunc(row, func(b []byte) bool { return b == nil }) {
			return nil, false
		}
		for i := range tapes {
			tapes[i] = append(tapes[i], sumOf(row, i, parity))
		}
	}
	return tapes, true
}

// sumOf is block i of a row's parity.
func sumOf(row [][]byte, i, parity int) []byte {
	sum := make([]byte, frame)
	for j, b := range row {
		factor := gf.Inv(byte(i) ^ byte(parity+j))
		for at := range b {
			sum[at] ^= gf.Mul(factor, b[at])
		}
	}
	return sum
}

func sameRow(a, b [][]byte) bool { return slices.EqualFunc(a, b, bytes.Equal) }

func sameTapes(a, b [][][]byte) bool { return slices.EqualFunc(a, b, sameRow) }

func copied(row [][]byte) [][]byte {
	var out [][]byte
	for _, b := range row {
		out = append(out, slices.Clone(b))
	}
	return out
}

func copiedTapes(l [][][]byte) [][][]byte {
	var out [][][]byte
	for _, row := range l {
		out = append(out, copied(row))
	}
	return out
}

func TestLen(t *testing.T) {
	for _, x := range []struct {
		what string
		l    []api.Tape
		want int
	}{
		{"nothing", nil, 0}, // the chapter's example
		{"an empty list", []api.Tape{}, 0},
		{"one tape without blocks", unlike(0), 0},
		{"tapes without blocks", unlike(0, 0, 0), 0},
		{"an empty list of blocks", []api.Tape{{Label: 1, Cap: 64, Blocks: [][]byte{}}}, 0},
		{"one block", unlike(1), 1},
		{"a whole tape", unlike(64), 64},
		{"more than a tape has", unlike(3, 70, 2), 70},
		{"alike ones", unlike(5, 5, 5), 5},
		{"the first has the most", unlike(7, 3, 0, 6), 7},
		{"one between has the most", unlike(3, 0, 9, 8), 9},
		{"the last has the most", unlike(0, 1, 2, 3), 3},
		{"blocks of any length", []api.Tape{of(1, 78, 80, 0, 94), of(2, 79)}, 4},
		{"blocks that are nil", []api.Tape{{Blocks: make([][]byte, 6)}}, 6},
		{"a lost one", []api.Tape{lost(right(1, 4))}, 0},
		{"a lost one without blocks", []api.Tape{lost(right(1, 0))}, 0},
		{"a lost one has the most, first", []api.Tape{lost(right(1, 9)), right(2, 4), right(3, 2)}, 4},
		{"a lost one has the most, between", []api.Tape{right(1, 4), lost(right(2, 9)), right(3, 2)}, 4},
		{"a lost one has the most, last", []api.Tape{right(1, 4), right(2, 2), lost(right(3, 9))}, 4},
		{"a lost one has fewer", []api.Tape{right(1, 4), lost(right(2, 3))}, 4},
		{"a lost one has as many", []api.Tape{lost(right(1, 4)), right(2, 4)}, 4},
		{"all are lost", []api.Tape{lost(right(1, 4)), lost(right(2, 6))}, 0},
		{"all but one that has none are lost", []api.Tape{lost(right(1, 4)), right(2, 0), lost(right(3, 6))}, 0},
		{"another Cap and label", []api.Tape{{Label: -1, Cap: -9, Blocks: make([][]byte, 3)}, {Label: 0, Cap: 64, Blocks: make([][]byte, 2)}}, 3},
		{"more tapes than a group has", slices.Concat(unlike(slices.Repeat([]int{1}, 300)...), unlike(2)), 2},
	} {
		if got := stripe.Len(x.l); got != x.want {
			t.Errorf("P1301: Len of %s: %d, not %d", x.what, got, x.want)
		}
		if lenOf(x.l) != x.want {
			t.Errorf("the tests are of two minds of %s", x.what)
		}
	}
}

// places are numbers of blocks, about the edges of a tape of so many.
func places(blocks int) []int {
	return []int{0, 1, blocks - 1, blocks, blocks + 1, 63, 64, 65, -1, -2, -blocks, 1 << 31, 1 << 32, 1<<32 + 1, -1 << 31, -1 << 32, 1 - 1<<32, math.MaxInt - 1, math.MaxInt, math.MinInt + 1, math.MinInt}
}

func TestRowByHand(t *testing.T) {
	a, b, lone := right(1, 2), right(2, 3), lost(right(3, 3))
	l := []api.Tape{a, b, {Label: 4}, lone}
	zero := make([]byte, frame)
	for _, x := range []struct {
		n    int
		want [][]byte
	}{
		{0, [][]byte{a.Blocks[0], b.Blocks[0], zero, zero}},
		{1, [][]byte{a.Blocks[1], b.Blocks[1], zero, zero}},
		{2, [][]byte{zero, b.Blocks[2], zero, zero}},
		{3, [][]byte{zero, zero, zero, zero}},
		{-1, [][]byte{zero, zero, zero, zero}},
		{math.MinInt, [][]byte{zero, zero, zero, zero}},
		{math.MaxInt, [][]byte{zero, zero, zero, zero}},
	} {
		if got := stripe.Row(l, x.n); !sameRow(got, x.want) {
			t.Errorf("P1301: Row %d: %v, not %v", x.n, got, x.want)
		}
	}
}

func TestRowOfOneTape(t *testing.T) {
	zero := make([]byte, frame)
	for blocks := range 5 {
		for _, n := range places(blocks) {
			want := zero
			whole := right(7, blocks)
			if n >= 0 && n < blocks {
				want = whole.Blocks[n]
			}
			if got := stripe.Row([]api.Tape{whole}, n); len(got) != 1 || !bytes.Equal(got[0], want) {
				t.Errorf("P1301: Row %d of a tape of %d blocks: %v", n, blocks, got)
			}
			if got := stripe.Row([]api.Tape{lost(whole)}, n); len(got) != 1 || !bytes.Equal(got[0], zero) {
				t.Errorf("P1301: Row %d of a lost tape of %d blocks: %v", n, blocks, got)
			}
		}
	}
	for _, n := range places(0) {
		if len(stripe.Row(nil, n)) != 0 || len(stripe.Row([]api.Tape{}, n)) != 0 {
			t.Errorf("P1301: Row %d of no tapes", n)
		}
	}
}

func TestRowOfOtherLengths(t *testing.T) {
	for _, size := range []int{0, 1, 2, 15, 63, 64, 65, 77, 78, 80, 81, 93, 94, 95, 158, 256, 335, 1000} {
		for place := range 3 {
			l := unlike(3, 3, 3)
			l[place].Blocks[1] = filled(9, size)
			for n := range 4 {
				got := stripe.Row(l, n)
				if !sameRow(got, rowOf(l, n)) {
					t.Errorf("P1301: Row %d, a block of %d bytes in tape %d: %v", n, size, place, got)
				}
				if n == 1 && len(got) == 3 && len(got[place]) != 0 {
					t.Errorf("P1301: Row of a block of %d bytes: %d bytes", size, len(got[place]))
				}
			}
			// What lies in a lost one is none, whatever its length is.
			l[place].Lost = true
			if got := stripe.Row(l, 1); len(got) != 3 || !bytes.Equal(got[place], make([]byte, frame)) {
				t.Errorf("P1301: Row of a block of %d bytes in a lost tape: %v", size, got)
			}
		}
	}
	if got := stripe.Row([]api.Tape{{Blocks: [][]byte{nil}}, right(1, 1)}, 0); len(got) != 2 || len(got[0]) != 0 || len(got[1]) != frame {
		t.Errorf("P1301: Row of a block that is nil: %v", got)
	}
}

// dice makes numbers that hang on seed alone.
func dice(seed int) func(n int) int {
	state := uint64(seed)*2862933555777941757 + 3037000493
	return func(n int) int {
		state = state*6364136223846793005 + 1442695040888963407
		return int(state>>33) % n
	}
}

// anyTapes are tapes of all sorts: some lost, some with a block that is none.
func anyTapes(seed int) []api.Tape {
	roll := dice(seed)
	var l []api.Tape
	for i := range roll(6) {
		tape := right(i+seed, roll(5))
		tape.Lost = roll(5) == 0
		if n := len(tape.Blocks); n > 0 && roll(8) == 0 {
			tape.Blocks[roll(n)] = filled(seed, []int{0, 1, 78, 80, 94}[roll(5)])
		}
		l = append(l, tape)
	}
	return l
}

func TestLenAndRowsOfAnyTapes(t *testing.T) {
	for seed := range 1000 {
		l := anyTapes(seed)
		if got := stripe.Len(l); got != lenOf(l) {
			t.Errorf("P1301: Len of %v: %d", l, got)
		}
		for _, n := range places(lenOf(l)) {
			if got := stripe.Row(l, n); !sameRow(got, rowOf(l, n)) {
				t.Errorf("P1301: Row %d of %v: %v", n, l, got)
			}
		}
	}
}

// checkParity holds Parity against its meaning, and looks at its form.
func checkParity(t *testing.T, what string, l []api.Tape, parity int) {
	t.Helper()
	got, e := stripe.Parity(l, parity)
	want, ok := parityOf(l, parity)
	if !ok {
		checkRefused(t, what, l, parity)
		return
	}
	if e != api.OK || !sameTapes(got, want) {
		t.Errorf("P1301: %s: parity %d: not its blocks, error %d", what, parity, e)
	}
	if len(got) != parity {
		t.Errorf("P1301: %s: parity %d: %d rows", what, parity, len(got))
	}
	for i, row := range got {
		if len(row) != stripe.Len(l) || slices.ContainsFunc(row, func(b []byte) bool { return len(b) != frame }) {
			t.Errorf("P1301: %s: parity %d: row %d is of %d blocks, or of others than frames", what, parity, i, len(row))
		}
	}
}

func checkRefused(t *testing.T, what string, l []api.Tape, parity int) {
	t.Helper()
	got, e := stripe.Parity(l, parity)
	if e != api.ErrArg {
		t.Errorf("P1301: %s: %d tapes, parity %d: error %d, not %d", what, len(l), parity, e, api.ErrArg)
	}
	if len(got) != 0 {
		t.Errorf("P1301: %s: %d tapes, parity %d: an answer beside an error", what, len(l), parity)
	}
}

func TestParityByHand(t *testing.T) {
	full := func(c byte) []byte { return slices.Repeat([]byte{c}, frame) }
	for _, x := range []struct {
		what string
		l    []api.Tape
		want [][][]byte
	}{
		{"one tape is its own parity", []api.Tape{{Blocks: [][]byte{full(7), full(8)}}}, [][][]byte{{full(7), full(8)}}},                               // 1 / (0 + 1)
		{"one tape, two of parity", []api.Tape{{Blocks: [][]byte{full(1)}}}, [][][]byte{{full(142)}, {full(244)}}},                                     // 1 / 2 and 1 / 3
		{"two tapes", []api.Tape{{Blocks: [][]byte{full(5)}}, {Blocks: [][]byte{full(2)}}}, [][][]byte{{full(4)}}},                                     // 5 and 1
		{"what is missing is 0", []api.Tape{{Blocks: [][]byte{full(5), full(9)}}, {Blocks: [][]byte{full(2)}}}, [][][]byte{{full(4), full(9)}}},        // behind: 9 and 0
		{"a lost one is 0", []api.Tape{{Blocks: [][]byte{full(5)}}, {Lost: true, Blocks: [][]byte{full(2), full(3)}}}, [][][]byte{{full(5)}}},          // 5 and 0
		{"the first is missing", []api.Tape{{}, {Blocks: [][]byte{full(2)}}}, [][][]byte{{full(1)}}},                                                   // 0 and 1
		{"no parity", []api.Tape{{Blocks: [][]byte{full(5)}}}, nil},                                                                                    // none is asked for
		{"no blocks", unlike(0, 0), [][][]byte{nil, nil, nil}},                                                                                         // tapes of parity without any
		{"lost ones alone", []api.Tape{lost(of(1, 79, 3)), lost(of(2, 0))}, [][][]byte{nil, nil}},                                                      // they count as such
		{"no blocks and no parity", unlike(0, 0), nil},                                                                                                 // nothing of either
		{"blocks of bytes 0", []api.Tape{{Blocks: [][]byte{full(0)}}, {Blocks: [][]byte{full(0)}}}, [][][]byte{{full(0)}, {full(0)}, {full(0)}}},       // they are there
		{"blocks of bytes 0 behind others", []api.Tape{{Blocks: [][]byte{full(3), full(0)}}}, [][][]byte{{full(3), full(0)}}},                          // these too
		{"another Cap", []api.Tape{{Label: -5, Cap: -7, Blocks: [][]byte{full(3)}}}, [][][]byte{{full(3)}}},                                            // it is not looked at
		{"the same tape twice", []api.Tape{{Label: 1, Blocks: [][]byte{full(5)}}, {Label: 1, Blocks: [][]byte{full(5)}}}, [][][]byte{{full(5 ^ 140)}}}, // 5 and 5 / 2
	} {
		got, e := stripe.Parity(x.l, len(x.want))
		if e != api.OK || !sameTapes(got, x.want) {
			t.Errorf("P1301: %s: %v, error %d, not %v", x.what, got, e, x.want)
		}
	}
}

func TestParity(t *testing.T) {
	for _, lengths := range [][]int{{0}, {1}, {3}, {0, 0}, {2, 2}, {1, 3}, {3, 1}, {0, 4, 2}, {4, 4, 4}, {5, 0, 0, 1}, {1, 2, 3, 4, 5, 6}} {
		for parity := range 6 {
			checkParity(t, fmt.Sprint("tapes of ", lengths), unlike(lengths...), parity)
			for place := range lengths {
				l := unlike(lengths...)
				l[place].Lost = true
				checkParity(t, fmt.Sprint("tapes of ", lengths, ", lost ", place), l, parity)
			}
		}
	}
	checkParity(t, "whole tapes", unlike(64, 63, 64, 0, 1, 64, 64, 30), 6)
}

func TestParityOfAnyTapes(t *testing.T) {
	for seed := range 1500 {
		checkParity(t, "some tapes", anyTapes(seed), dice(seed)(5))
	}
}

// As Encode of each of the rows, by Encode itself.
func TestParityIsEncodeOfRows(t *testing.T) {
	l := unlike(4, 2, 0, 3, 5)
	for parity := range 5 {
		got, e := stripe.Parity(l, parity)
		if e != api.OK || len(got) != parity {
			t.Fatalf("P1301: Parity %d: %d rows, error %d", parity, len(got), e)
		}
		for n := range stripe.Len(l) {
			want, e := erasure.Encode(stripe.Row(l, n), parity)
			if e != api.OK {
				t.Fatalf("Encode: error %d", e)
			}
			for i := range got {
				if !bytes.Equal(got[i][n], want[i]) {
					t.Errorf("P1301: Parity %d: row %d, block %d: not Encode's", parity, i, n)
				}
			}
		}
	}
}

// manyTapes are so many, without blocks, or with some here and there.
func manyTapes(count int) (without, with []api.Tape) {
	without = make([]api.Tape, count)
	with = make([]api.Tape, count)
	for i := 0; i < count; i += 50 {
		with[i] = right(i+1, 1+i%3)
	}
	return without, with
}

func TestParityOfTheMost(t *testing.T) {
	for _, x := range [][2]int{{1, 254}, {1, 253}, {2, 253}, {127, 128}, {128, 127}, {253, 2}, {254, 1}, {253, 1}, {254, 0}, {255, 0}} {
		without, with := manyTapes(x[0])
		for _, l := range [][]api.Tape{without, with} {
			if _, ok := parityOf(l, x[1]); !ok {
				t.Fatalf("the tests refuse %v", x)
			}
			checkParity(t, "as many as there may be", l, x[1])
		}
	}
	for _, x := range [][2]int{{1, 255}, {2, 254}, {127, 129}, {128, 128}, {129, 127}, {254, 2}, {255, 1}, {256, 0}, {257, 0}, {300, 3}, {512, 0}} {
		without, with := manyTapes(x[0])
		checkRefused(t, "more than there may be, no blocks", without, x[1])
		checkRefused(t, "more than there may be", with, x[1])
	}
}

func TestParityRefusesParity(t *testing.T) {
	for _, parity := range []int{-1, -2, -3, -255, -256, -1 << 31, -1 << 32, 1 - 1<<32, math.MinInt + 255, math.MinInt + 1, math.MinInt, 253, 254, 255, 256, 257, 512, 1 << 31, 1 << 32, 1<<32 + 1, math.MaxInt - 255, math.MaxInt - 3, math.MaxInt - 2, math.MaxInt - 1, math.MaxInt} {
		checkRefused(t, "tapes with blocks", unlike(2, 1, 3), parity)
		checkRefused(t, "tapes without blocks", unlike(0, 0, 0), parity)
		checkRefused(t, "lost tapes", []api.Tape{lost(right(1, 3)), lost(right(2, 2)), lost(right(3, 2))}, parity)
		checkRefused(t, "a block that is none", []api.Tape{of(1, 79), of(2, 78), of(3)}, parity)
	}
}

func TestParityRefusesNoTapes(t *testing.T) {
	for _, parity := range []int{0, 1, 2, 3, 254, 255, 256, -1, math.MinInt, math.MaxInt} {
		checkRefused(t, "no tapes, nil", nil, parity)
		checkRefused(t, "no tapes", []api.Tape{}, parity)
	}
}

// A block that is none is refused wherever it lies, beside others or alone in its row, and for each parity.
func TestParityRefusesBlocks(t *testing.T) {
	for _, size := range []int{0, 1, 15, 77, 78, 80, 81, 94, 95, 158, 335} {
		for place := range 3 {
			for n := range 5 {
				for parity := range 4 {
					l := unlike(5, 5, 5)
					l[place].Blocks[n] = filled(1, size)
					checkRefused(t, fmt.Sprint("block ", n, " of ", size, " bytes"), l, parity)
					l[place].Lost = true
					checkParity(t, fmt.Sprint("lost, block ", n, " of ", size, " bytes"), l, parity)
				}
			}
		}
	}
}

func TestParityRefusesRowsOfNoBytes(t *testing.T) {
	for _, size := range []int{0, 1, 78, 80, 94} {
		for parity := range 4 {
			// All of a row are none, and as long: that alone would be a row of no bytes.
			checkRefused(t, "all of the only row", []api.Tape{of(1, size), of(2, size)}, parity)
			checkRefused(t, "the only block", []api.Tape{of(1, size)}, parity)
			checkRefused(t, "all of the last row", []api.Tape{of(1, 79, size), of(2, 79, size)}, parity)
			checkRefused(t, "all of the first row", []api.Tape{of(1, size, 79), of(2, size, 79)}, parity)
			checkRefused(t, "the last of a tape that is longest", []api.Tape{of(1, 79), of(2, 79, 79, size), of(3)}, parity)
			checkRefused(t, "the last of a tape that is not longest", []api.Tape{of(1, 79, 79, 79), of(2, 79, size)}, parity)
			checkRefused(t, "one of no bytes beside a lost tape", []api.Tape{lost(right(1, 3)), of(2, 79, 79, size)}, parity)
		}
	}
	checkRefused(t, "blocks that are nil", []api.Tape{{Blocks: make([][]byte, 2)}, {Blocks: make([][]byte, 2)}}, 1)
	checkParity(t, "only a lost tape has one", []api.Tape{lost(of(1, 0, 78, 80)), right(2, 2)}, 2)
	checkParity(t, "only a lost tape has one, and others nothing", []api.Tape{lost(of(1, 0, 78, 80)), right(2, 0)}, 2)
}

// Of each row any as many blocks as there are tapes tell the others.
func TestWhatIsLeftTellsTheOthers(t *testing.T) {
	for count := 1; count <= 4; count++ {
		for parity := range 5 {
			l := unlike([]int{2, 0, 3, 1}[:count]...)
			made, e := stripe.Parity(l, parity)
			if e != api.OK || len(made) != parity {
				t.Fatalf("P1301: %d tapes, parity %d: %d rows, error %d", count, parity, len(made), e)
			}
			for n := range lenOf(l) {
				all := rowOf(l, n)
				for _, row := range made {
					all = append(all, row[n])
				}
				checkChoices(t, all, count)
			}
		}
	}
}

// checkChoices makes each choice of as many as the data missing but for as many as are needed.
func checkChoices(t *testing.T, all [][]byte, data int) {
	t.Helper()
	for there := range 1 << len(all) {
		if bits.OnesCount(uint(there)) != data {
			continue
		}
		have := copied(all)
		for i := range have {
			if there>>i&1 == 0 {
				have[i] = nil
			}
		}
		got, e := erasure.Decode(have, data)
		if e != api.OK || !sameRow(got, all[:data]) {
			t.Errorf("P1301: %d of %d blocks do not tell the others: error %d", data, len(all), e)
		}
	}
}

// ask is a call of each kind, of tapes, a block and a parity.
type ask struct {
	what      string
	l         []api.Tape
	n, parity int
}

func asks() []ask {
	shared := filled(3, frame)
	many, with := manyTapes(254)
	out := []ask{
		{"nothing", nil, 0, 1},
		{"no parity", unlike(2, 3), 1, 0},
		{"one tape, one of parity", unlike(3), 2, 1},
		{"unlike tapes", unlike(2, 0, 3, 1), 1, 3},
		{"below all blocks", unlike(2, 0, 3, 1), -1, 2},
		{"the least block", unlike(2, 3), math.MinInt, 2},
		{"the greatest block", unlike(2, 3), math.MaxInt, 2},
		{"no blocks", unlike(0, 0, 0), 0, 2},
		{"lost ones", []api.Tape{lost(right(1, 4)), right(2, 2), lost(right(3, 1))}, 1, 2},
		{"one block in many places", []api.Tape{{Blocks: [][]byte{shared, shared}}, {Blocks: [][]byte{shared, shared}}}, 1, 2},
		{"parity below 0", unlike(2, 2), 0, -1},
		{"parity above all", unlike(2, 2), 0, 254},
		{"a block too short", []api.Tape{right(1, 3), of(2, 79, 79, 78)}, 2, 2},
		{"a block too long", []api.Tape{right(1, 3), of(2, 79, 94, 79)}, 1, 2},
		{"an empty block", []api.Tape{of(1, 0), of(2, 0)}, 0, 2},
		{"an empty block in a lost one", []api.Tape{lost(of(1, 0)), right(2, 1)}, 0, 2},
		{"as many as there may be, no blocks", many, 0, 1},
		{"as many as there may be", with, 1, 1},
		{"more than there may be", with, 1, 2},
	}
	for seed := range 100 {
		out = append(out, ask{fmt.Sprint("some tapes, seed ", seed), anyTapes(seed), dice(seed)(5), dice(seed + 1)(4)})
	}
	return out
}

// told is all that the calls answer of one ask.
type told struct {
	length int
	row    [][]byte
	tapes  [][][]byte
	e      api.Errno
}

func tell(x ask) told {
	tapes, e := stripe.Parity(x.l, x.parity)
	return told{stripe.Len(x.l), stripe.Row(x.l, x.n), tapes, e}
}

func (a told) copied() told {
	return told{a.length, copied(a.row), copiedTapes(a.tapes), a.e}
}

func (a told) same(b told) bool {
	return a.length == b.length && a.e == b.e && sameRow(a.row, b.row) && sameTapes(a.tapes, b.tapes)
}

// scribble writes over all that an answer's memory holds, its spare room too.
func (a told) scribble() {
	turnRow(a.row)
	for _, row := range a.tapes[:cap(a.tapes)] {
		turnRow(row)
	}
	clear(a.tapes[:cap(a.tapes)])
}

func turn(b []byte) {
	for i := range b[:cap(b)] {
		b[:cap(b)][i] ^= 0xff
	}
}

func turnRow(row [][]byte) {
	for _, b := range row[:cap(row)] {
		turn(b)
	}
	clear(row[:cap(row)])
}

// guarded lays tapes into memory that has spare room, all of it filled: tapes, blocks and bytes.
func guarded(l []api.Tape) []api.Tape {
	out := make([]api.Tape, 0, len(l)+2)
	for _, tape := range l {
		wide := make([][]byte, 0, len(tape.Blocks)+2)
		for _, b := range tape.Blocks {
			wide = append(wide, slices.Concat(b, filled(1, frame))[:len(b)])
		}
		tape.Blocks = append(wide, filled(2, frame), filled(3, frame))[:len(wide)]
		out = append(out, tape)
	}
	return append(out, right(1, 90), of(2, 5))[:len(l)]
}

// whole is all that the memory of tapes holds, its spare room too, in memory of its own.
func whole(l []api.Tape) []api.Tape {
	var out []api.Tape
	for _, tape := range l[:cap(l)] {
		var blocks [][]byte
		for _, b := range tape.Blocks[:cap(tape.Blocks)] {
			blocks = append(blocks, slices.Clone(b[:cap(b)])[:len(b)])
		}
		tape.Blocks = blocks[:len(tape.Blocks)]
		out = append(out, tape)
	}
	return out
}

// sameWhole tells whether all that the memory of tapes holds is what it was.
func sameWhole(l, was []api.Tape) bool {
	return slices.EqualFunc(l[:cap(l)], was, func(a, b api.Tape) bool {
		return a.Label == b.Label && a.Cap == b.Cap && a.Lost == b.Lost && len(a.Blocks) == len(b.Blocks) &&
			slices.EqualFunc(a.Blocks[:cap(a.Blocks)], b.Blocks[:min(cap(b.Blocks), cap(a.Blocks))], func(x, y []byte) bool {
				return len(x) == len(y) && bytes.Equal(x[:cap(x)], y[:cap(x)])
			})
	})
}

// turnTapes writes over all that the memory of tapes holds.
func turnTapes(l []api.Tape) {
	for _, tape := range l[:cap(l)] {
		turnRow(tape.Blocks)
	}
	clear(l[:cap(l)])
}

func TestTapesHandedInStay(t *testing.T) {
	for _, x := range asks() {
		want := tell(x)
		l := guarded(x.l)
		was := whole(l)
		got := tell(ask{x.what, l, x.n, x.parity})
		if !got.same(want) {
			t.Errorf("P1302: %s: an answer hangs on spare room", x.what)
		}
		if !sameWhole(l, was) {
			t.Errorf("P1302: %s: what was handed in has changed", x.what)
		}
		got.scribble()
		if !sameWhole(l, was) {
			t.Errorf("P1302: %s: an answer shares memory with what was handed in", x.what)
		}
	}
}

// Who owns what was handed in turns it: no answer is turned by that, and none comes from what was.
func TestTapesHandedInAreNotKept(t *testing.T) {
	for _, x := range asks() {
		l := guarded(x.l)
		got := tell(ask{x.what, l, x.n, x.parity})
		was := got.copied()
		turnTapes(l)
		if again := tell(ask{x.what, l, x.n, x.parity}); again.length != 0 || !sameRow(again.row, rowOf(l, x.n)) {
			t.Errorf("P1302: %s: of tapes that are blank by now blocks are told", x.what)
		}
		if !got.same(was) || !tell(x).same(was) {
			t.Errorf("P1302: %s: what was handed in is kept", x.what)
		}
	}
}

func TestAnswersAreNewMemory(t *testing.T) {
	for _, x := range asks() {
		first, second := tell(x), tell(x)
		want := first.copied()
		first.scribble()
		if !second.same(want) || !tell(x).same(want) {
			t.Errorf("P1302: %s: two answers share memory", x.what)
		}
	}
}

// lists answers all lists of bytes of an answer.
func (a told) lists() [][]byte { return slices.Concat(append(a.tapes, a.row)...) }

func TestListsOfAnAnswerAreTheirOwn(t *testing.T) {
	for _, x := range asks() {
		if len(x.l) > 200 {
			continue
		}
		l := tell(x).lists()
		for i, b := range l {
			was := copied(l)
			turn(b)
			for k := range l {
				if k != i && !bytes.Equal(l[k], was[k]) {
					t.Fatalf("P1302: %s: two lists of an answer share memory", x.what)
				}
			}
		}
		checkRowsAreTheirOwn(t, x)
	}
}

// checkRowsAreTheirOwn lays blocks behind each of parity's rows: no other row sees that.
func checkRowsAreTheirOwn(t *testing.T, x ask) {
	t.Helper()
	got, _ := stripe.Parity(x.l, x.parity)
	was := copiedTapes(got)
	for _, row := range got {
		_ = append(row, filled(1, frame), filled(2, frame), filled(3, frame))
	}
	if !sameTapes(got, was) {
		t.Errorf("P1302: %s: two of parity's rows share memory", x.what)
	}
}

// The same memory, another tape in it: what is answered is of what is there now.
func TestTheSameMemoryAnew(t *testing.T) {
	memory := make([]api.Tape, 300)
	for _, x := range asks() {
		n := copy(memory, x.l)
		if !tell(ask{x.what, memory[:n], x.n, x.parity}).same(tell(x)) {
			t.Errorf("P1302: %s: in the same memory it is answered otherwise", x.what)
		}
	}
}

func everything(l []ask) []told {
	var out []told
	for _, x := range l {
		out = append(out, tell(x))
	}
	return out
}

func TestAnswersHangOnArgumentsAlone(t *testing.T) {
	l := asks()
	first := everything(l)
	if !slices.EqualFunc(everything(l), first, told.same) {
		t.Error("P1302: the same calls once more answer otherwise")
	}
	slices.Reverse(l)
	backwards := everything(l)
	slices.Reverse(backwards)
	if !slices.EqualFunc(backwards, first, told.same) {
		t.Error("P1302: the same calls in another order answer otherwise")
	}
}

// All of them ask the same, beside each other.
func TestAnswersBesideOneAnother(t *testing.T) {
	l := asks()
	first := everything(l)
	var alike [4]bool
	var workers sync.WaitGroup
	for i := range alike {
		workers.Go(func() { alike[i] = slices.EqualFunc(everything(l), first, told.same) })
	}
	workers.Wait()
	for i, ok := range alike {
		if !ok {
			t.Errorf("P1302: worker %d was answered otherwise", i)
		}
	}
}
