package span_test

import (
	"fmt"
	"math"
	"math/big"
	"slices"
	"sync"
	"testing"

	"cartridge/api"
	"cartridge/span"
)

func TestTheLimits(t *testing.T) {
	if api.Load != 64 || api.MaxFile != 4000 || api.MaxBlocks != 64 || api.ErrArg != 1 || api.ErrSpace != 7 {
		t.Error("the numbers of package api are others")
	}
}

const widest = 1 << 40 // blocks, beyond which no more is counted

// fits is what a part may have in so many blocks, by numbers without an end.
func fits(room int) int {
	blocks := big.NewInt(int64(room))
	if blocks.Cmp(big.NewInt(widest)) > 0 {
		blocks.SetInt64(widest)
	}
	blocks.Sub(blocks, big.NewInt(2))
	if blocks.Sign() < 0 {
		return 0
	}
	return int(blocks.Mul(blocks, big.NewInt(64)).Int64())
}

// tapeOf is the place of the tape that byte n of a file lies on; false: all of them are full.
func tapeOf(rooms []int, n int) (int, bool) {
	ahead := new(big.Int)
	for i, room := range rooms {
		ahead.Add(ahead, big.NewInt(int64(fits(room))))
		if ahead.Cmp(big.NewInt(int64(n))) > 0 {
			return i, true
		}
	}
	return 0, false
}

// planned is the plan by another way: the place of each byte of its own.
func planned(rooms []int, size int) ([]api.Piece, api.Errno) {
	if size < 0 || size > 4000 {
		return nil, api.ErrArg
	}
	if size == 0 {
		i := slices.IndexFunc(rooms, func(room int) bool { return room > 1 })
		if i < 0 {
			return nil, api.ErrSpace
		}
		return []api.Piece{{Tape: i}}, api.OK
	}
	var l []api.Piece
	for n := range size {
		i, ok := tapeOf(rooms, n)
		if !ok {
			return nil, api.ErrSpace
		}
		if len(l) == 0 || l[len(l)-1].Tape != i {
			l = append(l, api.Piece{Tape: i, From: n})
		}
		l[len(l)-1].Len++
	}
	return l, api.OK
}

func TestFits(t *testing.T) {
	for _, x := range []struct{ room, want int }{
		{3, 64}, // the chapter's example
		{math.MinInt, 0}, {math.MinInt + 1, 0}, {math.MinInt + 2, 0}, {math.MinInt32, 0}, {-1 << 40, 0}, {-1<<32 + 3, 0}, {-65, 0}, {-3, 0}, {-2, 0}, {-1, 0},
		{0, 0}, {1, 0}, {2, 0}, {4, 128}, {5, 192}, {6, 256}, {63, 3904}, {64, 3968}, {65, 4032}, {66, 4096}, {1000, 63872},
		{math.MaxInt32, 137438953280}, {1 << 31, 137438953344}, {1<<32 - 1, 274877906752}, {1 << 32, 274877906816}, {1<<32 + 2, 274877906944}, {1<<32 + 3, 274877907008},
		{1<<40 - 1, 70368744177472}, {1 << 40, 70368744177536}, {1<<40 + 1, 70368744177536}, {1<<40 + 2, 70368744177536}, {1 << 41, 70368744177536},
		{1<<57 + 1, 70368744177536}, {1<<57 + 2, 70368744177536}, {1<<57 + 3, 70368744177536}, {1<<58 + 3, 70368744177536}, {1 << 62, 70368744177536}, {math.MaxInt - 1, 70368744177536}, {math.MaxInt, 70368744177536},
	} {
		if got := span.Fits(x.room); got != x.want {
			t.Errorf("P1201: Fits(%d): %d, not %d", x.room, got, x.want)
		}
	}
}

func TestFitsOfMany(t *testing.T) {
	for _, around := range []int{0, 62, 64, 94, 4000, 1 << 16, 1 << 31, 1 << 32, 1 << 40, 1 << 48, 1 << 57, 1 << 62, -1 << 31, -1 << 32, -1 << 40, -1 << 57, -1 << 62} {
		for room := around - 70; room <= around+70; room++ {
			if got, want := span.Fits(room), fits(room); got != want {
				t.Errorf("P1201: Fits(%d): %d, not %d", room, got, want)
			}
		}
	}
}

// ask is a call of Plan, and what it answers.
type ask struct {
	what   string
	rooms  []int
	size   int
	pieces []api.Piece
	e      api.Errno
}

func wrongSizes() []int {
	return []int{-1, -2, -64, -4000, -1 << 32, 64 - 1<<32, math.MinInt32, math.MinInt + 1, math.MinInt, 4001, 4002, 8000, 1<<16 + 64, math.MaxInt32, 1 << 32, 1<<32 + 64, 1<<32 + 4000, 1 << 40, math.MaxInt - 1, math.MaxInt}
}

// refused are asked with a size that can't be, whatever room there is.
func refused() []ask {
	var l []ask
	for _, size := range wrongSizes() {
		for _, rooms := range [][]int{nil, {}, {0}, {2}, {3}, {64, 64}, {1, -5, 64, 64, 64}, {math.MinInt}, {math.MaxInt}, {math.MaxInt, math.MaxInt, math.MaxInt}} {
			l = append(l, ask{"a size that can't be", rooms, size, nil, api.ErrArg})
		}
	}
	return l
}

// asksOfNothing have a file of no bytes.
func asksOfNothing() []ask {
	return []ask{
		{"no tapes, nil", nil, 0, nil, api.ErrSpace},
		{"no tapes", []int{}, 0, nil, api.ErrSpace},
		{"the first has just 2 blocks", []int{2}, 0, []api.Piece{{}}, api.OK},
		{"the first has 3 blocks", []int{3}, 0, []api.Piece{{}}, api.OK},
		{"the first has all blocks", []int{64, 2, 64}, 0, []api.Piece{{}}, api.OK},
		{"the first has the most blocks", []int{math.MaxInt, 2}, 0, []api.Piece{{}}, api.OK},
		{"the second has 2 blocks", []int{1, 2, 64}, 0, []api.Piece{{Tape: 1}}, api.OK},
		{"it stands behind some", []int{0, 1, -1, 1, 64, 2}, 0, []api.Piece{{Tape: 4}}, api.OK},
		{"it stands behind some that have less than none", []int{math.MinInt, -2, -1 << 40, 2 - 1<<32, 2, 2}, 0, []api.Piece{{Tape: 4}}, api.OK},
		{"it is the last", []int{1, 1, 1, 2}, 0, []api.Piece{{Tape: 3}}, api.OK},
		{"none: 1 block", []int{1}, 0, nil, api.ErrSpace},
		{"none: 0 blocks", []int{0}, 0, nil, api.ErrSpace},
		{"none: 1 block on each of several", []int{1, 1, 1, 1}, 0, nil, api.ErrSpace},
		{"none: fewer", []int{0, 1, -1, math.MinInt, -2, -64, 1}, 0, nil, api.ErrSpace},
	}
}

// asksOfOneTape have a file that lies on one tape, or on none.
func asksOfOneTape() []ask {
	return []ask{
		{"no tapes, nil", nil, 1, nil, api.ErrSpace},
		{"no tapes", []int{}, 1, nil, api.ErrSpace},
		{"no tapes, the greatest file", nil, 4000, nil, api.ErrSpace},
		{"2 blocks", []int{2}, 1, nil, api.ErrSpace},
		{"1 block", []int{1}, 1, nil, api.ErrSpace},
		{"below 0 blocks", []int{-1}, 1, nil, api.ErrSpace},
		{"the fewest blocks", []int{math.MinInt}, 1, nil, api.ErrSpace},
		{"one byte", []int{3}, 1, []api.Piece{{Len: 1}}, api.OK},
		{"one less than fits", []int{3}, 63, []api.Piece{{Len: 63}}, api.OK},
		{"to the byte", []int{3}, 64, []api.Piece{{Len: 64}}, api.OK},
		{"one more", []int{3}, 65, nil, api.ErrSpace},
		{"two blocks' bytes, to the byte", []int{4}, 128, []api.Piece{{Len: 128}}, api.OK},
		{"and one more", []int{4}, 129, nil, api.ErrSpace},
		{"a whole tape, to the byte", []int{64}, 3968, []api.Piece{{Len: 3968}}, api.OK},
		{"and one more", []int{64}, 3969, nil, api.ErrSpace},
		{"the greatest file, one block too few", []int{64}, 4000, nil, api.ErrSpace},
		{"the greatest file", []int{65}, 4000, []api.Piece{{Len: 4000}}, api.OK},
		{"the most blocks, one byte", []int{math.MaxInt}, 1, []api.Piece{{Len: 1}}, api.OK},
		{"the most blocks, the greatest file", []int{math.MaxInt}, 4000, []api.Piece{{Len: 4000}}, api.OK},
		{"more blocks than are counted", []int{1<<40 + 1}, 4000, []api.Piece{{Len: 4000}}, api.OK},
		{"blocks of which a product would be none", []int{1<<58 + 2}, 4000, []api.Piece{{Len: 4000}}, api.OK},
		{"blocks of which a product would be below 0", []int{1<<57 + 2}, 64, []api.Piece{{Len: 64}}, api.OK},
		{"the most blocks ahead of further tapes", []int{math.MaxInt, 64, math.MaxInt}, 4000, []api.Piece{{Len: 4000}}, api.OK},
		{"further tapes get none", []int{3, 3, 64}, 64, []api.Piece{{Len: 64}}, api.OK},
		{"behind some that fit nothing", []int{2, 1, 0, -1, math.MinInt, 64, 64}, 100, []api.Piece{{Tape: 5, Len: 100}}, api.OK},
	}
}

// asksOfManyTapes have a file that is cut.
func asksOfManyTapes() []ask {
	return []ask{
		{"one more than the first fits", []int{3, 3}, 65, []api.Piece{{Len: 64}, {Tape: 1, From: 64, Len: 1}}, api.OK},
		{"both to the byte", []int{3, 3}, 128, []api.Piece{{Len: 64}, {Tape: 1, From: 64, Len: 64}}, api.OK},
		{"one more than both", []int{3, 3}, 129, nil, api.ErrSpace},
		{"the last in part", []int{4, 3, 5, 64}, 300, []api.Piece{{Len: 128}, {Tape: 1, From: 128, Len: 64}, {Tape: 2, From: 192, Len: 108}}, api.OK},
		{"the last one whole, and further ones", []int{4, 3, 5, 64, 64}, 384, []api.Piece{{Len: 128}, {Tape: 1, From: 128, Len: 64}, {Tape: 2, From: 192, Len: 192}}, api.OK},
		{"some between fit nothing", []int{0, 4, 2, 1, 5, -1, math.MinInt, 2, 3, 64}, 330, []api.Piece{{Tape: 1, Len: 128}, {Tape: 4, From: 128, Len: 192}, {Tape: 8, From: 320, Len: 10}}, api.OK},
		{"all that fit, to the byte, and some that fit nothing", []int{2, 3, 1, 3, 2, 3, 2, -7}, 192, []api.Piece{{Tape: 1, Len: 64}, {Tape: 3, From: 64, Len: 64}, {Tape: 5, From: 128, Len: 64}}, api.OK},
		{"one more than all of these fit", []int{2, 3, 1, 3, 2, 3, 2, -7}, 193, nil, api.ErrSpace},
		{"some that have below 0 take no room away", []int{3, -64, 3, math.MinInt, 3}, 192, []api.Piece{{Len: 64}, {Tape: 2, From: 64, Len: 64}, {Tape: 4, From: 128, Len: 64}}, api.OK},
		{"the greatest file", []int{64, 64}, 4000, []api.Piece{{Len: 3968}, {Tape: 1, From: 3968, Len: 32}}, api.OK},
		{"the greatest file, over unlike tapes", []int{30, 2, 20, 18, 64}, 4000, []api.Piece{{Len: 1792}, {Tape: 2, From: 1792, Len: 1152}, {Tape: 3, From: 2944, Len: 1024}, {Tape: 4, From: 3968, Len: 32}}, api.OK},
		{"the most blocks behind a tape that is less", []int{3, math.MaxInt, math.MaxInt}, 4000, []api.Piece{{Len: 64}, {Tape: 1, From: 64, Len: 3936}}, api.OK},
	}
}

// asksOfThinTapes have files in as many pieces as can be: 64 bytes each.
func asksOfThinTapes() []ask {
	rooms := slices.Repeat([]int{2, 3}, 63)
	var pieces []api.Piece
	for i := range 63 {
		pieces = append(pieces, api.Piece{Tape: 2*i + 1, From: 64 * i, Len: min(64, 4000-64*i)})
	}
	return []ask{
		{"63 pieces", rooms, 4000, pieces, api.OK},
		{"62 pieces, to the byte", rooms, 3968, pieces[:62], api.OK},
		{"one tape too few", rooms[:125], 4000, nil, api.ErrSpace},
		{"one tape too few, one byte over", rooms[:125], 3969, nil, api.ErrSpace},
		{"63 tapes more", append(slices.Clone(rooms), rooms...), 4000, pieces, api.OK},
	}
}

func asks() []ask {
	return slices.Concat(refused(), asksOfNothing(), asksOfOneTape(), asksOfManyTapes(), asksOfThinTapes())
}

func checkPlan(t *testing.T, what string, rooms []int, size int, want []api.Piece, wantE api.Errno) bool {
	t.Helper()
	got, e := span.Plan(rooms, size)
	if e == wantE && slices.Equal(got, want) {
		return true
	}
	t.Errorf("P1201: %s: Plan(%v, %d): %v, %d, not %v, %d", what, rooms, size, got, e, want, wantE)
	return false
}

func TestPlan(t *testing.T) {
	for _, x := range asks() {
		checkPlan(t, x.what, x.rooms, x.size, x.pieces, x.e)
		if want, e := planned(x.rooms, x.size); e != x.e || !slices.Equal(want, x.pieces) {
			t.Errorf("the tests are of two minds of %s: Plan(%v, %d): %v, %d", x.what, x.rooms, x.size, want, e)
		}
	}
}

// Sizes about each edge of a block, and all about 0 and MaxFile.
func TestPlanOfManySizes(t *testing.T) {
	for _, rooms := range [][]int{nil, {64}, {65}, {64, 64}, {2, 3, 1, 40, -5, 0, 20, 4}, {10, 20, 30, 40}} {
		for size := -3; size <= 4003; size++ {
			if size > 200 && size < 3900 && (size+1)%64 > 2 {
				continue
			}
			want, e := planned(rooms, size)
			if !checkPlan(t, "some size", rooms, size, want, e) {
				break
			}
		}
	}
}

// dice makes numbers that hang on seed alone.
func dice(seed int) func(n int) int {
	state := uint64(seed)*2862933555777941757 + 3037000493
	return func(n int) int {
		state = state*6364136223846793005 + 1442695040888963407
		return int(state>>33) % n
	}
}

// anyAsk is one of rooms and a size of all sorts.
func anyAsk(seed int) (rooms []int, size int) {
	roll := dice(seed)
	strange := []int{math.MinInt, -1 << 40, -64, -1, 0, 1, 2, 2, 3, 3, 4, 64, 65}
	for range roll(30) {
		if roll(3) == 0 {
			rooms = append(rooms, strange[roll(len(strange))])
		} else {
			rooms = append(rooms, roll(12))
		}
	}
	if roll(8) == 0 {
		rooms = append(rooms, []int{math.MaxInt, 1 << 40, 1<<57 + 2}[roll(3)])
	}
	return rooms, []int{roll(4001), roll(600), roll(70), 64 * roll(20), 64*roll(20) + 1, 0}[roll(6)]
}

func TestAnyPlans(t *testing.T) {
	for seed := range 3000 {
		rooms, size := anyAsk(seed)
		want, e := planned(rooms, size)
		if !checkPlan(t, "some plan", rooms, size, want, e) {
			break
		}
	}
}

// To the byte: what all tapes fit together goes, one byte more does not.
func TestPlanToTheByte(t *testing.T) {
	for seed := range 1000 {
		rooms, _ := anyAsk(seed)
		all := 0
		for _, room := range rooms {
			all += min(fits(room), 4001)
		}
		if all == 0 || all >= 4000 {
			continue
		}
		pieces, e := span.Plan(rooms, all)
		next := 0
		for _, p := range pieces {
			if p.From != next || p.Len < 1 || p.Len != span.Fits(rooms[p.Tape]) {
				t.Errorf("P1201: Plan(%v, %d): piece %v does not go on at %d, or leaves room", rooms, all, p, next)
			}
			next = p.From + p.Len
		}
		if e != api.OK || next != all {
			t.Errorf("P1201: Plan(%v, %d): %v, %d", rooms, all, pieces, e)
		}
		checkPlan(t, "one more than all fit", rooms, all+1, nil, api.ErrSpace)
	}
}

// manyAsks are asks of all sorts.
func manyAsks() []ask {
	l := asks()
	for seed := range 200 {
		rooms, size := anyAsk(seed)
		l = append(l, ask{what: "some plan", rooms: rooms, size: size})
	}
	return l
}

// guarded answers a copy of rooms with spare room behind, filled, and the whole of that memory.
func guarded(rooms []int) (l, whole []int) {
	whole = append(slices.Clone(rooms), 64, 64, 3, 0, -1, math.MaxInt)
	return whole[:len(rooms)], whole
}

func told(rooms []int, size int) string {
	pieces, e := span.Plan(rooms, size)
	b := fmt.Sprint(pieces, e, span.Fits(size))
	for _, room := range rooms {
		b += fmt.Sprint(" ", span.Fits(room))
	}
	return b
}

func TestRoomsHandedInStay(t *testing.T) {
	for _, x := range manyAsks() {
		rooms, whole := guarded(x.rooms)
		was := slices.Clone(whole)
		if got, want := told(rooms, x.size), told(x.rooms, x.size); got != want {
			t.Errorf("P1202: %s: Plan(%v, %d) hangs on spare room: %s, not %s", x.what, x.rooms, x.size, got, want)
		}
		if !slices.Equal(whole, was) {
			t.Errorf("P1202: %s: Plan(%v, %d): the rooms, or their spare room, have changed", x.what, x.rooms, x.size)
		}
	}
}

// Who owns what was handed in turns it: no answer is turned by that.
func TestRoomsHandedInAreNotKept(t *testing.T) {
	for _, x := range manyAsks() {
		want := told(x.rooms, x.size)
		rooms, whole := guarded(x.rooms)
		pieces, _ := span.Plan(rooms, x.size)
		was := slices.Clone(pieces)
		for i := range whole {
			whole[i] = 2 + i%5
		}
		span.Plan(rooms, x.size)
		if !slices.Equal(pieces, was) || told(x.rooms, x.size) != want {
			t.Errorf("P1202: %s: Plan(%v, %d): the rooms are kept", x.what, x.rooms, x.size)
		}
	}
}

// Who owns an answer turns it: neither another answer is turned by that, nor what was handed in.
func TestAnswersAreNewMemory(t *testing.T) {
	for _, x := range manyAsks() {
		was, want := slices.Clone(x.rooms), told(x.rooms, x.size)
		first, _ := span.Plan(x.rooms, x.size)
		second, _ := span.Plan(x.rooms, x.size)
		kept := slices.Clone(second)
		first = first[:cap(first)]
		for i := range first {
			first[i] = api.Piece{Tape: -1, From: -2, Len: -3}
		}
		if !slices.Equal(second, kept) || told(x.rooms, x.size) != want || !slices.Equal(x.rooms, was) {
			t.Errorf("P1202: %s: Plan(%v, %d): an answer shares memory", x.what, x.rooms, x.size)
		}
	}
}

// The same memory, other rooms in it: what is answered is of what is there now.
func TestTheSameMemoryAnew(t *testing.T) {
	memory := make([]int, 300)
	for _, x := range asks() {
		n := copy(memory, x.rooms)
		got, e := span.Plan(memory[:n], x.size)
		if e != x.e || !slices.Equal(got, x.pieces) {
			t.Errorf("P1202: %s, in the same memory: Plan(%v, %d): %v, %d", x.what, x.rooms, x.size, got, e)
		}
	}
}

// all makes every call, in the order of the places, and answers what was told at each of them.
func all(l []ask, places []int) []string {
	out := make([]string, len(l))
	for _, i := range places {
		out[i] = told(l[i].rooms, l[i].size)
	}
	return out
}

func upTo(n int) []int {
	l := make([]int, n)
	for i := range l {
		l[i] = i
	}
	return l
}

func TestAnswersHangOnArgumentsAlone(t *testing.T) {
	l := manyAsks()
	first := all(l, upTo(len(l)))
	if !slices.Equal(all(l, upTo(len(l))), first) {
		t.Error("P1202: the same calls once more answer otherwise")
	}
	backwards := upTo(len(l))
	slices.Reverse(backwards)
	if !slices.Equal(all(l, backwards), first) {
		t.Error("P1202: the same calls in another order answer otherwise")
	}
}

// All of them ask the same, beside each other.
func TestAnswersBesideOneAnother(t *testing.T) {
	l := manyAsks()
	first := all(l, upTo(len(l)))
	var alike [4]bool
	var workers sync.WaitGroup
	for i := range alike {
		workers.Go(func() {
			alike[i] = slices.Equal(all(l, upTo(len(l))), first)
		})
	}
	workers.Wait()
	for i, ok := range alike {
		if !ok {
			t.Errorf("P1202: worker %d was answered otherwise", i)
		}
	}
}
