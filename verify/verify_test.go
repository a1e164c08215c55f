package verify_test

import (
	"bytes"
	"encoding/binary"
	"fmt"
	"hash/crc32"
	"math"
	"slices"
	"sync"
	"testing"

	"cartridge/api"
	"cartridge/verify"
)

const (
	greatest = 1<<31 - 1 // that a label may be
	thin     = 79        // bytes of a block of all kinds but parity's
	wide     = 94        // bytes of a block of parity
)

func TestTheLimits(t *testing.T) {
	if api.Load != 64 || api.Frame != thin || api.Wide != wide || api.FLabel != 1 || api.FParity != 6 {
		t.Error("the numbers of package api are others")
	}
}

// filled makes bytes, none of them 0, that hang on seed alone.
func filled(seed, size int) []byte {
	b := make([]byte, size)
	for i := range b {
		b[i] = byte((i*7+seed*31)%255) + 1
	}
	return b
}

// raw lays a block by the rule of chapter 9, whether frame.Put would or not.
func raw(kind, label, number int, load []byte) []byte {
	room := 64
	if kind == api.FParity {
		room = thin
	}
	b := binary.BigEndian.AppendUint32([]byte{byte(kind)}, uint32(label))
	b = binary.BigEndian.AppendUint32(b, uint32(number))
	b = binary.BigEndian.AppendUint16(b, uint16(len(load)))
	b = append(b, load...)
	b = append(b, make([]byte, max(room-len(load), 0))...)
	return withSum(b)
}

// withSum lays the sum of b behind it.
func withSum(b []byte) []byte {
	return binary.BigEndian.AppendUint32(b, crc32.Checksum(b, crc32.MakeTable(crc32.Castagnoli)))
}

// isGood tells by other means whether b is a good block of that label and number.
func isGood(b []byte, label, number int) bool {
	if len(b) != thin && len(b) != wide || label < 1 || label > greatest {
		return false
	}
	size := int(binary.BigEndian.Uint16(b[9:]))
	return b[0] >= 1 && b[0] <= 6 && size <= len(b)-15 && bytes.Equal(b, raw(int(b[0]), label, number, b[11:11+size]))
}

// with answers a tape that has one block more, which is good if the label may be.
func with(x api.Tape, kind int, load []byte) api.Tape {
	x = clone(x)
	x.Blocks = append(x.Blocks, raw(kind, x.Label, len(x.Blocks), load))
	return x
}

// instead answers a tape of which block n is another one.
func instead(x api.Tape, n int, b []byte) api.Tape {
	x = clone(x)
	x.Blocks[n] = b
	return x
}

// rotten answers a tape of which in each of these blocks a bit is turned.
func rotten(x api.Tape, blocks ...int) api.Tape {
	x = clone(x)
	for _, n := range blocks {
		x.Blocks[n][(n*7+x.Label)%thin] ^= 1 << (n % 8)
	}
	return x
}

// tape is one of so many good blocks, of all kinds.
func tape(label, blocks int) api.Tape {
	x := api.Tape{Label: label, Cap: 64}
	for n := range blocks {
		x = with(x, 1+n%6, filled(label+n, (n*13+label)%65))
	}
	return x
}

func lost(x api.Tape) api.Tape {
	x.Lost = true
	return x
}

func clone(x api.Tape) api.Tape {
	l := make([][]byte, len(x.Blocks))
	for i, b := range x.Blocks {
		l[i] = bytes.Clone(b)
	}
	x.Blocks = l
	return x
}

func clones(l []api.Tape) []api.Tape {
	var out []api.Tape
	for _, x := range l {
		out = append(out, clone(x))
	}
	return out
}

func sameTape(a, b api.Tape) bool {
	return a.Label == b.Label && a.Cap == b.Cap && a.Lost == b.Lost && slices.EqualFunc(a.Blocks, b.Blocks, bytes.Equal)
}

func sameTapes(a, b []api.Tape) bool { return slices.EqualFunc(a, b, sameTape) }

// spotsOf is what Spots is to answer.
func spotsOf(l []api.Tape) []api.Spot {
	var out []api.Spot
	for _, x := range l {
		if x.Lost {
			out = append(out, api.Spot{Label: x.Label, Block: -1})
			continue
		}
		for n, b := range x.Blocks {
			if !isGood(b, x.Label, n) {
				out = append(out, api.Spot{Label: x.Label, Block: n})
			}
		}
	}
	return out
}

// lostOf is what Lost is to answer: member by member, the first tape of its label.
func lostOf(l []api.Tape, labels []int) int {
	n := 0
	for _, label := range labels {
		i := slices.IndexFunc(l, func(x api.Tape) bool { return x.Label == label })
		if i < 0 || len(spotsOf(l[i:i+1])) > 0 {
			n++
		}
	}
	return n
}

// sealOf is a seal that these labels may have; one of data, all others of parity.
func sealOf(labels ...int) api.Seal {
	return api.Seal{Number: 7, Index: 0, Data: 1, Parity: len(labels) - 1, Labels: labels}
}

// checkSpots holds Spots against what is written out, and that against its meaning.
func checkSpots(t *testing.T, what string, l []api.Tape, want ...api.Spot) {
	t.Helper()
	if got := verify.Spots(l); !slices.Equal(got, want) {
		t.Errorf("P1601: %s: Spots: %v, not %v", what, got, want)
	}
	if !slices.Equal(spotsOf(l), want) {
		t.Errorf("the tests are of two minds of %s", what)
	}
}

// checkLost does so with Lost.
func checkLost(t *testing.T, what string, l []api.Tape, s api.Seal, want int) {
	t.Helper()
	if got := verify.Lost(l, s); got != want {
		t.Errorf("P1601: %s: Lost: %d, not %d", what, got, want)
	}
	if lostOf(l, s.Labels) != want {
		t.Errorf("the tests are of two minds of %s", what)
	}
}

// Spots of nothing: nothing.
func TestTheExample(t *testing.T) {
	checkSpots(t, "nothing", nil)
	checkSpots(t, "an empty list", []api.Tape{})
}

func TestByHand(t *testing.T) {
	first, second, third := raw(1, 3, 0, []byte("D")), raw(4, 3, 1, nil), raw(6, 3, 2, filled(1, thin))
	l := []api.Tape{{Label: 3, Cap: 9, Blocks: [][]byte{first, second, third}}}
	checkSpots(t, "three good blocks", l)
	checkLost(t, "three good blocks", l, sealOf(3), 0)
	l[0].Blocks = [][]byte{second, first, third}
	checkSpots(t, "two blocks that changed their places", l, api.Spot{Label: 3, Block: 0}, api.Spot{Label: 3, Block: 1})
	checkLost(t, "two blocks that changed their places", l, sealOf(3), 1)
	l[0].Lost = true
	checkSpots(t, "a lost tape", l, api.Spot{Label: 3, Block: -1})
	checkLost(t, "a lost tape", l, sealOf(3), 1)
	checkLost(t, "a tape that is not there", l, sealOf(3, 4), 2)
}

func TestTapesWithoutDamage(t *testing.T) {
	for _, blocks := range []int{0, 1, 2, 3, 6, 7, 63, 64, 65, 300} {
		for _, label := range []int{1, 2, 255, 256, 1 << 24, 1 << 30, greatest - 1, greatest} {
			for _, room := range []int{blocks, 64, 0, -1, math.MinInt, math.MaxInt} {
				x := tape(label, blocks)
				x.Cap = room
				what := fmt.Sprint("tape ", label, " of ", blocks, " blocks, Cap ", room)
				checkSpots(t, what, []api.Tape{x})
				checkLost(t, what, []api.Tape{x}, sealOf(label), 0)
				checkLost(t, what, []api.Tape{x}, sealOf(label, label-1, label+1), 2)
			}
		}
	}
	checkSpots(t, "an empty list of blocks", []api.Tape{{Label: 4, Blocks: [][]byte{}}})
	checkLost(t, "an empty list of blocks", []api.Tape{{Label: 4, Blocks: [][]byte{}}}, sealOf(4), 0)
}

// Each choice of the blocks of a tape has rotted: they are told one by one, in their order.
func TestEachChoiceOfBlocks(t *testing.T) {
	const blocks = 7
	for mask := range 1 << blocks {
		var places []int
		var want []api.Spot
		for n := range blocks {
			if mask>>n&1 == 1 {
				places = append(places, n)
				want = append(want, api.Spot{Label: 5, Block: n})
			}
		}
		l := []api.Tape{rotten(tape(5, blocks), places...)}
		what := fmt.Sprint("rotten blocks ", places)
		checkSpots(t, what, l, want...)
		// However many of its blocks are not good, it is one member.
		checkLost(t, what, l, sealOf(5), min(len(places), 1))
		checkLost(t, what+", lost", []api.Tape{lost(l[0])}, sealOf(5), 1)
		checkSpots(t, what+", lost", []api.Tape{lost(l[0])}, api.Spot{Label: 5, Block: -1})
	}
}

// badBlocks are instead of good block n of a tape.
func badBlocks(x api.Tape, n int) map[string][]byte {
	b := x.Blocks[n]
	kind, load := int(b[0]), b[11:][:b[10]]
	l := map[string][]byte{
		"nil": nil, "empty": {}, "one byte": {5}, "two bytes": {1, 2}, "bytes 0": make([]byte, len(b)), "many bytes": filled(3, 4000),
		"one byte short": b[:len(b)-1], "without its first byte": b[1:], "one byte more": append(bytes.Clone(b), 0), "cut to its head": b[:11],
		"kind 0": raw(0, x.Label, n, load), "kind 7": raw(7, x.Label, n, load), "kind 255": raw(255, x.Label, n, load),
		"another label": raw(kind, x.Label+1, n, load), "the label below": raw(kind, x.Label-1, n, load),
		"another number": raw(kind, x.Label, n+1, load), "the number below": raw(kind, x.Label, n-1, load), "a number far off": raw(kind, x.Label, n+256, load),
		"too long a load": raw(kind, x.Label, n, filled(2, len(b)-14)), "twice itself": slices.Concat(b, b),
	}
	// Its sum is right, but behind Load there is more than bytes 0.
	more := bytes.Clone(raw(kind, x.Label, n, load[:len(load)/2]))
	more[len(more)-5] = 9
	l["a byte behind its load"] = withSum(more[:len(more)-4])
	return l
}

func TestBlocksThatAreNotGood(t *testing.T) {
	x, others := tape(5, 7), []api.Tape{tape(4, 2), tape(6, 3)}
	for n := range x.Blocks {
		check := func(what string, b []byte) {
			t.Helper()
			what = fmt.Sprint(what, ", block ", n)
			l := []api.Tape{others[0], instead(x, n, b), others[1]}
			checkSpots(t, what, l, api.Spot{Label: 5, Block: n})
			checkLost(t, what, l, sealOf(4, 5, 6), 1)
			checkLost(t, what, l, sealOf(4, 6), 0)
		}
		for what, b := range badBlocks(x, n) {
			check(what, b)
		}
		for bit := range len(x.Blocks[n]) * 8 {
			b := bytes.Clone(x.Blocks[n])
			b[bit/8] ^= 1 << (bit % 8)
			check(fmt.Sprint("bit ", bit, " turned"), b)
		}
	}
}

// Any good block will do, whatever it says: only that it is good is asked.
func TestOtherBlocksThatAreGood(t *testing.T) {
	for kind := 1; kind <= 6; kind++ {
		for n := range 7 {
			for _, size := range []int{0, 1, 63, 64} {
				l := []api.Tape{instead(tape(5, 7), n, raw(kind, 5, n, filled(n, size)))}
				what := fmt.Sprint("kind ", kind, " of ", size, " bytes, block ", n)
				checkSpots(t, what, l)
				checkLost(t, what, l, sealOf(5), 0)
			}
		}
	}
}

// Of labels that can't be no block is good; a tape that has none has nothing that is not good.
func TestLabelsThatCanNotBe(t *testing.T) {
	for _, label := range []int{0, -1, -5, -greatest, -1 << 31, -1 << 32, math.MinInt, greatest + 1, 1<<32 - 1, 1 << 32, 1<<32 + 5, math.MaxInt} {
		what := fmt.Sprint("label ", label)
		l := []api.Tape{{Label: label, Cap: 9}}
		checkSpots(t, what+", blank", l)
		checkLost(t, what+", blank", l, sealOf(label), 0)
		checkLost(t, what+", not there", []api.Tape{tape(5, 1)}, sealOf(label), 1)
		l[0].Lost = true
		checkSpots(t, what+", lost", l, api.Spot{Label: label, Block: -1})
		checkLost(t, what+", lost", l, sealOf(label), 1)
		for low := range 2 {
			l[0] = api.Tape{Label: label, Blocks: [][]byte{raw(1, label, 0, nil), raw(1, 5*low, 1, nil)}}
			checkSpots(t, what+", of two blocks", l, api.Spot{Label: label, Block: 0}, api.Spot{Label: label, Block: 1})
			checkLost(t, what+", of two blocks", l, sealOf(label), 1)
		}
	}
}

// The tapes are told in the order in which they stand, whatever their labels, each for itself.
func TestTapeByTape(t *testing.T) {
	l := []api.Tape{
		rotten(tape(9, 4), 3, 1), tape(2, 3), lost(tape(8, 2)), lost(api.Tape{Label: 1}), rotten(tape(3, 2), 0), {},
		{Label: 9}, lost(rotten(tape(7, 2), 0, 1)), rotten(tape(9, 2), 0), lost(tape(9, 2)), lost(api.Tape{}), rotten(tape(9, 4), 3, 1),
	}
	want := []api.Spot{{Label: 9, Block: 1}, {Label: 9, Block: 3}, {Label: 8, Block: -1}, {Label: 1, Block: -1}, {Label: 3, Block: 0},
		{Label: 7, Block: -1}, {Label: 9, Block: 0}, {Label: 9, Block: -1}, {Label: 0, Block: -1}, {Label: 9, Block: 1}, {Label: 9, Block: 3}}
	checkSpots(t, "many tapes", l, want...)
	for i := range l {
		for k := range i + 1 {
			part := l[k : i+1]
			checkSpots(t, fmt.Sprint("tapes ", k, " to ", i), part, spotsOf(part)...)
		}
	}
	slices.Reverse(l)
	checkSpots(t, "many tapes, backwards", l, spotsOf(l)...)
}

// states are the ways in which a member may be; false: it counts as lost.
func states(label int) []struct {
	l    []api.Tape
	good bool
} {
	return []struct {
		l    []api.Tape
		good bool
	}{
		{[]api.Tape{tape(label, 3)}, true},
		{[]api.Tape{{Label: label, Cap: 9}}, true},
		{[]api.Tape{lost(tape(label, 2))}, false},
		{nil, false},
		{[]api.Tape{rotten(tape(label, 4), 1, 3)}, false},
	}
}

// Each member is in each of the states, all of them beside each other; other tapes stand between.
func TestMembersInAllStates(t *testing.T) {
	labels := []int{6, 40, 3, 200}
	for mixed := range 5 * 5 * 5 * 5 {
		var l []api.Tape
		want, left := 0, mixed
		for _, label := range labels {
			state := states(label)[left%5]
			l = slices.Concat(l, state.l, []api.Tape{tape(label+1, 1), lost(tape(label+2, 1)), rotten(tape(label+300, 2), 0)})
			if !state.good {
				want++
			}
			left /= 5
		}
		what := fmt.Sprint("states ", mixed)
		checkLost(t, what, l, sealOf(labels...), want)
		slices.Reverse(l)
		checkLost(t, what+", backwards", l, sealOf(labels...), want)
		checkLost(t, what+", labels in another order", l, sealOf(3, 200, 6, 40), want)
	}
}

// As many members as there may be, so many of them lost.
func TestTheMostMembers(t *testing.T) {
	var labels []int
	var whole, gone []api.Tape
	for i := range 14 {
		labels = append(labels, 100-i)
		whole = append(whole, tape(100-i, 2))
		gone = append(gone, lost(tape(100-i, 2)))
	}
	for i := range 15 {
		what := fmt.Sprint(i, " of 14")
		checkLost(t, what+" lost", slices.Concat(gone[:i], whole[i:]), sealOf(labels...), i)
		checkLost(t, what+" not there", whole[i:], sealOf(labels...), i)
		checkLost(t, what+" asked, all lost", gone, sealOf(labels[:i]...), i)
		checkLost(t, what+" asked, no tapes", nil, sealOf(labels[:i]...), i)
		checkLost(t, what+" asked, none lost", whole, sealOf(labels[:i]...), 0)
	}
}

// Of two tapes of one label the first is meant, whatever it is.
func TestLabelsThatTwoHave(t *testing.T) {
	for i, first := range states(5) {
		for k, second := range states(5) {
			for m, third := range states(5) {
				l := slices.Concat([]api.Tape{tape(4, 1)}, first.l, []api.Tape{lost(tape(3, 1))}, second.l, third.l)
				at := slices.IndexFunc(l, func(x api.Tape) bool { return x.Label == 5 })
				want := 1
				if at >= 0 && !l[at].Lost && len(spotsOf(l[at:at+1])) == 0 {
					want = 0
				}
				checkLost(t, fmt.Sprint("tapes in states ", i, k, m), l, sealOf(5), want)
				checkLost(t, fmt.Sprint("tapes in states ", i, k, m, ", and two more"), l, sealOf(4, 5, 3), want+1)
			}
		}
	}
}

// Of a seal the labels alone are looked at, and each place in them is a member.
func TestSealsThatAreNotRight(t *testing.T) {
	l := []api.Tape{tape(1, 2), lost(tape(2, 2)), rotten(tape(3, 2), 1), {Label: 0}, lost(api.Tape{Label: -4})}
	numbers := []int{0, 1, 2, 3, 14, 256, -1, math.MinInt, math.MaxInt}
	for _, number := range numbers {
		for _, other := range numbers {
			s := api.Seal{Number: number, Index: other, Data: number, Parity: other, Labels: []int{1, 2, 3}}
			checkLost(t, fmt.Sprint("a seal of ", number, " and ", other), l, s, 2)
			s.Labels = nil
			checkLost(t, fmt.Sprint("a seal without labels, of ", number, " and ", other), l, s, 0)
			checkLost(t, "no tapes, no labels", nil, s, 0)
		}
	}
	checkLost(t, "labels there more than once", l, sealOf(1, 2, 1, 2, 2, 9, 1, 9), 5)
	checkLost(t, "labels that can't be", l, sealOf(0, -4, -5, math.MinInt, math.MaxInt, 1<<32+1, 1), 5)
	checkLost(t, "an empty list of labels", l, api.Seal{Number: 1, Data: 1, Parity: 1, Labels: []int{}}, 0)
}

// Far more tapes and members than a library has.
func TestManyMembers(t *testing.T) {
	const many = 60_000
	labels, l := make([]int, many), make([]api.Tape, many)
	want := 0
	for i := range many {
		labels[i], l[i] = i+1, api.Tape{Label: many - i, Lost: i%3 == 0}
		if l[i].Lost {
			want++
		}
	}
	if got := verify.Lost(l, sealOf(labels...)); got != want {
		t.Errorf("P1601: Lost of many members: %d, not %d", got, want)
	}
	if got := verify.Spots(l); len(got) != want {
		t.Errorf("P1601: Spots of many tapes: %d, not %d", len(got), want)
	}
	for i := range labels {
		labels[i] = 5
	}
	if got := verify.Lost([]api.Tape{tape(5, 300)}, sealOf(labels...)); got != 0 {
		t.Errorf("P1601: Lost of one member, many times: %d", got)
	}
	if got := verify.Lost([]api.Tape{rotten(tape(5, 300), 299)}, sealOf(labels...)); got != many {
		t.Errorf("P1601: Lost of one rotten member, many times: %d", got)
	}
}

// ask is what is handed in to the calls.
type ask struct {
	what string
	l    []api.Tape
	s    api.Seal
}

// told is what they answer.
type told struct {
	spots []api.Spot
	lost  int
}

func tell(x ask) told { return told{verify.Spots(x.l), verify.Lost(x.l, x.s)} }

func (a told) same(b told) bool { return a.lost == b.lost && slices.Equal(a.spots, b.spots) }

func (a told) copied() told { return told{slices.Clone(a.spots), a.lost} }

// scribble writes over all that an answer's memory holds, its spare room too.
func (a told) scribble() {
	spots := a.spots[:cap(a.spots)]
	for i := range spots {
		spots[i] = api.Spot{Label: ^spots[i].Label, Block: ^spots[i].Block}
	}
}

func asks() []ask {
	bad := rotten(tape(5, 7), 0, 2, 6)
	return []ask{
		{"whole tapes", []api.Tape{tape(1, 3), tape(2, 7), tape(3, 1)}, sealOf(1, 2, 3)},
		{"a rotten one", []api.Tape{tape(1, 3), bad, tape(3, 1)}, sealOf(1, 5, 3)},
		{"lost ones", []api.Tape{lost(tape(1, 3)), bad, lost(tape(3, 1))}, sealOf(3, 1, 5, 9)},
		{"one twice", []api.Tape{tape(5, 2), bad, bad, lost(bad)}, sealOf(5, 5, 4)},
		{"odd blocks", []api.Tape{instead(bad, 1, nil), instead(bad, 3, filled(1, 300)), {}}, sealOf(5, 0)},
		{"no labels", []api.Tape{bad, lost(bad)}, api.Seal{}},
	}
}

// guarded is the same ask in memory that has spare room, all of it filled: tapes, blocks, bytes and labels.
func guarded(x ask) ask {
	l := make([]api.Tape, 0, len(x.l)+2)
	for _, y := range x.l {
		blocks := make([][]byte, 0, len(y.Blocks)+2)
		for _, b := range y.Blocks {
			blocks = append(blocks, slices.Concat(b, filled(1, wide))[:len(b)])
		}
		y.Blocks = append(blocks, filled(2, thin), filled(3, thin))[:len(blocks)]
		l = append(l, y)
	}
	x.l = append(l, tape(9, 2), lost(tape(8, 1)))[:len(l)]
	x.s.Labels = slices.Concat(x.s.Labels, []int{71, 72, 73})[:len(x.s.Labels)]
	return x
}

// whole is all that is handed in, its spare room too, in memory of its own.
func whole(x ask) ask {
	l := slices.Clone(x.l[:cap(x.l)])
	for i, y := range l {
		l[i].Blocks = slices.Clone(y.Blocks[:cap(y.Blocks)])
		for n, b := range l[i].Blocks {
			l[i].Blocks[n] = bytes.Clone(b[:cap(b)])
		}
	}
	x.l, x.s.Labels = l, slices.Clone(x.s.Labels[:cap(x.s.Labels)])
	return x
}

func sameAsk(a, b ask) bool {
	return sameTapes(a.l, b.l) && slices.Equal(a.s.Labels, b.s.Labels)
}

func TestWhatIsHandedInStays(t *testing.T) {
	for _, x := range asks() {
		y := guarded(x)
		was := whole(y)
		got := tell(y)
		if !sameAsk(whole(y), was) {
			t.Errorf("P1602: %s: what was handed in has changed", x.what)
		}
		// Only now is it asked without spare room: a call that turns what it is handed would else have done so ahead of the copy.
		if !got.same(tell(x)) {
			t.Errorf("P1602: %s: an answer hangs on spare room", x.what)
		}
		got.scribble()
		if !sameAsk(whole(y), was) {
			t.Errorf("P1602: %s: an answer shares memory with what was handed in", x.what)
		}
	}
}

// Who owns what was handed in turns it: no answer is turned by that, and none comes from what was.
func TestWhatIsHandedInIsNotKept(t *testing.T) {
	for _, x := range asks() {
		y := x
		y.l, y.s.Labels = clones(x.l), slices.Clone(x.s.Labels)
		got := tell(y)
		was := got.copied()
		for i := range y.l {
			for _, b := range y.l[i].Blocks {
				clear(b)
			}
			y.l[i].Lost, y.l[i].Blocks = false, nil
		}
		clear(y.s.Labels)
		if again := verify.Spots(y.l); len(again) != 0 {
			t.Errorf("P1602: %s: Spots of what is blank by now: %v", x.what, again)
		}
		if again, want := verify.Lost(y.l, y.s), lostOf(y.l, y.s.Labels); again != want {
			t.Errorf("P1602: %s: Lost of what is blank by now: %d, not %d", x.what, again, want)
		}
		if !got.same(was) || !tell(x).same(was) {
			t.Errorf("P1602: %s: what was handed in is kept", x.what)
		}
	}
}

func TestAnswersAreNewMemory(t *testing.T) {
	for _, x := range asks() {
		first, second := tell(x), tell(x)
		want := first.copied()
		first.scribble()
		if !second.same(want) || !tell(x).same(want) {
			t.Errorf("P1602: %s: two answers share memory", x.what)
		}
	}
}

func everything(l []ask) []told {
	var out []told
	for _, x := range l {
		out = append(out, tell(x))
	}
	return out
}

func TestAnswersHangOnArgumentsAlone(t *testing.T) {
	l := asks()
	first := everything(l)
	slices.Reverse(l)
	backwards := everything(l)
	slices.Reverse(backwards)
	if !slices.EqualFunc(backwards, first, told.same) {
		t.Error("P1602: the same calls in another order answer otherwise")
	}
}

// All of them ask the same, beside each other.
func TestAnswersBesideOneAnother(t *testing.T) {
	l := asks()
	first := everything(l)
	var alike [4]bool
	var workers sync.WaitGroup
	for i := range alike {
		workers.Go(func() { alike[i] = slices.EqualFunc(everything(l), first, told.same) })
	}
	workers.Wait()
	for i, ok := range alike {
		if !ok {
			t.Errorf("P1602: worker %d was answered otherwise", i)
		}
	}
}
