package mend_test

import (
	"bytes"
	"fmt"
	"math"
	"slices"
	"sync"
	"testing"

	"cartridge/api"
	"cartridge/frame"
	"cartridge/gf"
	"cartridge/group"
	"cartridge/mend"
	"cartridge/record"
	"cartridge/volume"
)

const (
	greatest = 1<<31 - 1 // that a label may be
	highest  = 1 << 30   // that a group's number may be
	wide     = 79        // bytes of a row
)

func TestTheLimits(t *testing.T) {
	if api.Frame != wide || api.MaxParts != 14 {
		t.Error("the numbers of package api are others")
	}
	if api.ErrArg != 1 || api.ErrNone != 5 || api.ErrMany != 10 {
		t.Error("the errors of package api are others")
	}
}

// filled makes bytes, none of them 0, that hang on seed alone.
func filled(seed, size int) []byte {
	b := make([]byte, size)
	for i := range b {
		b[i] = byte((i*7+seed*31)%255) + 1
	}
	return b
}

// block is a good one of the tape of that label.
func block(kind, label, number int, load []byte) []byte {
	b, e := frame.Put(api.Unit{Kind: kind, Label: label, Number: number, Load: load})
	if e != api.OK {
		panic(fmt.Sprint("a block that can't be: ", kind, label, number, len(load)))
	}
	return b
}

// with answers a tape that has a good block more.
func with(x api.Tape, kind int, load []byte) api.Tape {
	x = clone(x)
	x.Blocks = append(x.Blocks, block(kind, x.Label, len(x.Blocks), load))
	return x
}

// instead answers a tape of which block n is another one.
func instead(x api.Tape, n int, b []byte) api.Tape {
	x = clone(x)
	x.Blocks[n] = b
	return x
}

// turned answers a tape of which one bit of block n is another one.
func turned(x api.Tape, n, bit int) api.Tape {
	x = clone(x)
	x.Blocks[n][bit/8] ^= 1 << (bit % 8)
	return x
}

// tape is one of so many good blocks, of all kinds but parity's; the Caps of two are unlike.
func tape(label, blocks int) api.Tape {
	x := api.Tape{Label: label, Cap: 1000 + label}
	for n := range blocks {
		x = with(x, 1+n%5, filled(label+n, (n*13+label)%65))
	}
	return x
}

// tapes are some of so many blocks; their labels fall.
func tapes(lengths ...int) []api.Tape {
	var l []api.Tape
	for i, n := range lengths {
		l = append(l, tape(200-7*i, n))
	}
	return l
}

// madeOf is a group that was made: data's tapes, then parity's, and its seal.
func madeOf(t *testing.T, parity int, data ...api.Tape) ([]api.Tape, api.Seal) {
	t.Helper()
	var more []api.Tape
	for i := range parity {
		more = append(more, api.Tape{Label: i*5%14 + 1, Cap: 90})
	}
	made, e := group.Make(data, more, 7)
	if e != api.OK {
		t.Fatalf("P1401: Make: error %d", e)
	}
	s := api.Seal{Number: 7, Data: len(data), Parity: parity}
	l := slices.Concat(data, made)
	for _, x := range l {
		s.Labels = append(s.Labels, x.Label)
	}
	return l, s
}

// made is such a group, of tapes of these lengths.
func made(t *testing.T, parity int, lengths ...int) ([]api.Tape, api.Seal) {
	t.Helper()
	return madeOf(t, parity, tapes(lengths...)...)
}

func lost(x api.Tape) api.Tape {
	x.Lost = true
	return x
}

// gone answers the tapes, of which the one in that place is lost with all that it had, but for its Cap.
func gone(l []api.Tape, places ...int) []api.Tape {
	l = clones(l)
	for _, i := range places {
		l[i] = api.Tape{Label: l[i].Label, Cap: l[i].Cap, Lost: true}
	}
	return l
}

func clone(x api.Tape) api.Tape {
	l := make([][]byte, len(x.Blocks))
	for i, b := range x.Blocks {
		l[i] = bytes.Clone(b)
	}
	x.Blocks = l
	return x
}

func clones(l []api.Tape) []api.Tape {
	var out []api.Tape
	for _, x := range l {
		out = append(out, clone(x))
	}
	return out
}

func sameTape(a, b api.Tape) bool {
	return a.Label == b.Label && a.Cap == b.Cap && a.Lost == b.Lost && slices.EqualFunc(a.Blocks, b.Blocks, bytes.Equal)
}

func sameTapes(a, b []api.Tape) bool { return slices.EqualFunc(a, b, sameTape) }

func sameSeal(a, b api.Seal) bool {
	return a.Number == b.Number && a.Index == b.Index && a.Data == b.Data && a.Parity == b.Parity && slices.Equal(a.Labels, b.Labels)
}

// isRight tells by other means whether s is a seal.
func isRight(s api.Seal) bool {
	for i, a := range s.Labels {
		for _, b := range s.Labels[:i] {
			if a == b {
				return false
			}
		}
		if a < 1 || a > greatest {
			return false
		}
	}
	all := len(s.Labels)
	return s.Number >= 1 && s.Number <= highest && s.Data > 0 && s.Parity > 0 && s.Data == all-s.Parity && all <= 14 && s.Index >= 0 && s.Index < all
}

// memberOf is the tape that a label means.
func memberOf(l []api.Tape, label int) (api.Tape, bool) {
	for _, x := range l {
		if x.Label == label {
			return x, true
		}
	}
	return api.Tape{Label: label, Lost: true}, false
}

// rowsOf is how many rows a group has, or what is to be told instead.
func rowsOf(l []api.Tape, s api.Seal, label int) (int, api.Errno) {
	if !isRight(s) || !slices.Contains(s.Labels[:s.Data], label) {
		return 0, api.ErrArg
	}
	for _, member := range s.Labels[s.Data:] {
		x, _ := memberOf(l, member)
		if _, ok := volume.Sealed(x); !ok {
			continue
		}
		if len(x.Blocks) == 1 {
			return 0, api.ErrMany
		}
		return len(x.Blocks) - 2, api.OK
	}
	return 0, api.ErrMany
}

// rowOf is what tells of row n in member i; nil: it is missing.
func rowOf(l []api.Tape, s api.Seal, i, n int) []byte {
	x, _ := memberOf(l, s.Labels[i])
	if i >= s.Data {
		if u, ok := volume.Good(x, n+1); ok && u.Kind == api.FParity && len(u.Load) == wide {
			return u.Load
		}
		return nil
	}
	if !x.Lost && len(x.Blocks) <= n {
		return make([]byte, wide)
	}
	if u, ok := volume.Good(x, n); ok && u.Kind != api.FParity {
		return x.Blocks[n]
	}
	return nil
}

// reduce makes one line of lines 1 in its own column, and all others 0 there.
func reduce(lines [][]byte, own int) {
	at := own
	for lines[at][own] == 0 {
		at++
	}
	lines[own], lines[at] = lines[at], lines[own]
	factor := gf.Inv(lines[own][own])
	for i, c := range lines[own] {
		lines[own][i] = gf.Mul(factor, c)
	}
	for k, line := range lines {
		factor := line[own]
		for i, c := range lines[own] {
			if k != own {
				line[i] ^= gf.Mul(factor, c)
			}
		}
	}
}

// solved is one of data's rows by elimination: of the rows that are there the first ones count, as many as data has.
func solved(have [][]byte, data, place int) ([]byte, api.Errno) {
	parity := len(have) - data
	var lines [][]byte // the factors of data's rows, and what they sum up to
	for i, b := range have {
		if b == nil || len(lines) == data {
			continue
		}
		line := make([]byte, data)
		for j := range line {
			if i >= data {
				line[j] = gf.Inv(byte(i-data) ^ byte(parity+j))
			} else if i == j {
				line[j] = 1
			}
		}
		lines = append(lines, slices.Concat(line, b))
	}
	if len(lines) < data {
		return nil, api.ErrMany
	}
	for own := range data {
		reduce(lines, own)
	}
	return lines[place][data:], api.OK
}

// blockOf is what Block is to answer.
func blockOf(l []api.Tape, s api.Seal, label, n int) ([]byte, api.Errno) {
	rows, e := rowsOf(l, s, label)
	if e != api.OK {
		return nil, e
	}
	if n < 0 || n >= rows {
		return nil, api.ErrNone
	}
	var have [][]byte
	for i := range s.Labels {
		have = append(have, rowOf(l, s, i, n))
	}
	return solved(have, s.Data, slices.Index(s.Labels, label))
}

// tapeOf is what Tape is to answer.
func tapeOf(l []api.Tape, s api.Seal, label int) (api.Tape, api.Errno) {
	rows, e := rowsOf(l, s, label)
	if e != api.OK {
		return api.Tape{}, e
	}
	x := api.Tape{Label: label, Cap: rows}
	if y, ok := memberOf(l, label); ok {
		x.Cap = y.Cap
	}
	for n := range rows {
		b, e := blockOf(l, s, label, n)
		if e != api.OK {
			return api.Tape{}, e
		}
		x.Blocks = append(x.Blocks, b)
	}
	for len(x.Blocks) > 0 && bytes.Equal(x.Blocks[len(x.Blocks)-1], make([]byte, wide)) {
		x.Blocks = x.Blocks[:len(x.Blocks)-1]
	}
	return x, api.OK
}

// checkBlock holds Block against its meaning.
func checkBlock(t *testing.T, what string, l []api.Tape, s api.Seal, label, n int) {
	t.Helper()
	want, f := blockOf(l, s, label, n)
	if got, e := mend.Block(l, s, label, n); e != f || !bytes.Equal(got, want) {
		t.Errorf("P1501: %s: Block of %d, %d: %v, error %d, not %v, error %d", what, label, n, got, e, want, f)
	}
}

// checkTape holds Tape against its meaning.
func checkTape(t *testing.T, what string, l []api.Tape, s api.Seal, label int) {
	t.Helper()
	want, f := tapeOf(l, s, label)
	if got, e := mend.Tape(l, s, label); e != f || !sameTape(got, want) {
		t.Errorf("P1501: %s: Tape of %d: %v, error %d, not %v, error %d", what, label, got, e, want, f)
	}
}

// checkAll holds both against their meaning: all labels of the seal, and all rows that there might be.
func checkAll(t *testing.T, what string, l []api.Tape, s api.Seal) {
	t.Helper()
	rows := 1
	for _, x := range l {
		rows = max(rows, len(x.Blocks)+1)
	}
	for _, label := range s.Labels {
		checkTape(t, what, l, s, label)
		for n := -1; n <= rows; n++ {
			checkBlock(t, what, l, s, label, n)
		}
	}
}

// checkTold: of all data members all is told as it was, tape by tape and row by row.
func checkTold(t *testing.T, what string, l []api.Tape, s api.Seal, was []api.Tape) {
	t.Helper()
	rows := len(was[s.Data].Blocks) - 2
	for _, x := range was[:s.Data] {
		if got, e := mend.Tape(l, s, x.Label); e != api.OK || !sameTape(got, x) {
			t.Errorf("P1501: %s: Tape of %d: %v, error %d, not %v", what, x.Label, got, e, x)
		}
		for n := range rows {
			want := make([]byte, wide)
			if n < len(x.Blocks) {
				want = x.Blocks[n]
			}
			if got, e := mend.Block(l, s, x.Label, n); e != api.OK || !bytes.Equal(got, want) {
				t.Errorf("P1502: %s: Block of %d, %d: %v, error %d, not %v", what, x.Label, n, got, e, want)
			}
		}
	}
	checkAll(t, what, l, s)
}

// checkMany: of each data member ErrMany is told of the rows that are named; of all others what was there.
func checkMany(t *testing.T, what string, l []api.Tape, s api.Seal, was []api.Tape, many ...int) {
	t.Helper()
	for _, x := range was[:s.Data] {
		if got, e := mend.Tape(l, s, x.Label); e != api.ErrMany || !sameTape(got, api.Tape{}) {
			t.Errorf("P1501: %s: Tape of %d: %v, error %d, not nothing, error %d", what, x.Label, got, e, api.ErrMany)
		}
		for n, want := range x.Blocks {
			f := api.OK
			if slices.Contains(many, n) {
				want, f = nil, api.ErrMany
			}
			if got, e := mend.Block(l, s, x.Label, n); e != f || !bytes.Equal(got, want) {
				t.Errorf("P1501: %s: Block of %d, %d: %v, error %d, not %v, error %d", what, x.Label, n, got, e, want, f)
			}
		}
	}
	checkAll(t, what, l, s)
}

// checkRefused: of that label both tell this error, whatever the row.
func checkRefused(t *testing.T, what string, l []api.Tape, s api.Seal, label int, want api.Errno) {
	t.Helper()
	if x, e := mend.Tape(l, s, label); e != want || !sameTape(x, api.Tape{}) {
		t.Errorf("P1501: %s: Tape of %d: %v, error %d, not nothing, error %d", what, label, x, e, want)
	}
	for _, n := range []int{0, 1, 2, 3, 100, math.MaxInt, -1, math.MinInt} {
		if b, e := mend.Block(l, s, label, n); e != want || len(b) != 0 {
			t.Errorf("P1501: %s: Block of %d, %d: %v, error %d, not nothing, error %d", what, label, n, b, e, want)
		}
	}
	if _, e := rowsOf(l, s, label); e != want {
		t.Errorf("the tests are of two minds of %s", what)
	}
}

// Block of no seal: ErrArg.
func TestTheExample(t *testing.T) {
	if b, e := mend.Block(nil, api.Seal{}, 0, 0); e != api.ErrArg || len(b) != 0 {
		t.Errorf("P1501: Block of no seal: %v, error %d", b, e)
	}
	checkRefused(t, "no seal", tapes(1, 2), api.Seal{}, 200, api.ErrArg)
}

// One of data and one of parity: the parity is the data's own blocks.
func TestByHand(t *testing.T) {
	first, second := filled(1, wide), filled(2, wide)
	s := api.Seal{Number: 4, Index: 1, Data: 1, Parity: 1, Labels: []int{3, 9}}
	parity := api.Tape{Label: 9, Cap: 4, Blocks: [][]byte{
		block(api.FLabel, 9, 0, []byte("P")),
		block(api.FParity, 9, 1, first),
		block(api.FParity, 9, 2, second),
		block(api.FSeal, 9, 3, []byte{0, 0, 0, 4, 1, 1, 1, 0, 0, 0, 3, 0, 0, 0, 9}),
	}}
	l := []api.Tape{parity}
	for n, want := range [][]byte{first, second} {
		if b, e := mend.Block(l, s, 3, n); e != api.OK || !bytes.Equal(b, want) {
			t.Errorf("P1501: Block of 3, %d: %v, error %d, not %v", n, b, e, want)
		}
	}
	want := api.Tape{Label: 3, Cap: 2, Blocks: [][]byte{first, second}}
	if x, e := mend.Tape(l, s, 3); e != api.OK || !sameTape(x, want) {
		t.Errorf("P1501: Tape of 3: %v, error %d, not %v", x, e, want)
	}
}

func TestNothingLost(t *testing.T) {
	for _, lengths := range [][]int{{1}, {4}, {2, 2}, {1, 4}, {4, 1}, {3, 0}, {0, 3}, {2, 5, 1}, {0, 0, 2}, {5, 5, 5}, {1, 2, 3, 4, 5, 6}} {
		for parity := 1; parity < 5; parity++ {
			l, s := made(t, parity, lengths...)
			what := fmt.Sprint("tapes of ", lengths, ", ", parity, " of parity")
			checkTold(t, what, l, s, l)
			// The tapes may stand in any order, with others between them, and the seal may be any member's.
			other := slices.Concat(tapes(1, 2, 3, 4, 5, 6, 7, 8)[7:], l, []api.Tape{lost(tape(300, 2)), {}})
			slices.Reverse(other)
			for s.Index = range s.Labels {
				checkTold(t, what+", in another order", other, s, l)
			}
		}
	}
	l, s := made(t, 3, 64, 63, 64)
	checkTold(t, "whole tapes", l, s, l)
}

// chosen are the places of which the bits of mask are set.
func chosen(mask, most int) []int {
	var places []int
	for i := range most {
		if mask>>i&1 == 1 {
			places = append(places, i)
		}
	}
	return places
}

// without are the tapes but those in these places.
func without(l []api.Tape, places []int) []api.Tape {
	var out []api.Tape
	for i, x := range l {
		if !slices.Contains(places, i) {
			out = append(out, x)
		}
	}
	return out
}

// Each choice of members is lost: with their blocks, or with none, or they are not there at all.
func TestEachChoiceOfLostMembers(t *testing.T) {
	for _, x := range []struct {
		parity  int
		lengths []int
	}{{1, []int{3}}, {3, []int{2}}, {1, []int{2, 4}}, {2, []int{3, 1}}, {2, []int{1, 3, 2}}, {3, []int{2, 0, 3, 1}}, {4, []int{2, 2}}} {
		l, s := made(t, x.parity, x.lengths...)
		all := len(l)
		for mask := range 1 << all {
			places := chosen(mask, all)
			what := fmt.Sprint("tapes of ", x.lengths, ", ", x.parity, " of parity: lost ", places)
			parityLost := len(chosen(mask>>s.Data, s.Parity))
			hurt := gone(l, places...)
			kept := clones(l)
			for _, i := range places {
				kept[i].Lost = true
			}
			switch {
			case parityLost == s.Parity:
				checkNothingTells(t, what, hurt, s)
				checkNothingTells(t, what+", with their blocks", kept, s)
				checkNothingTells(t, what+", not there", without(l, places), s)
			case len(places) <= s.Parity:
				checkTold(t, what, hurt, s, l)
				checkTold(t, what+", with their blocks", kept, s, l)
				checkAll(t, what+", not there", without(l, places), s)
			default:
				checkMany(t, what, hurt, s, l, 0, 1, 2, 3)
				checkMany(t, what+", with their blocks", kept, s, l, 0, 1, 2, 3)
				checkMany(t, what+", not there", without(l, places), s, l, 0, 1, 2, 3)
			}
		}
	}
}

// checkNothingTells: nothing tells how many rows there are, so that whatever is asked is ErrMany.
func checkNothingTells(t *testing.T, what string, l []api.Tape, s api.Seal) {
	t.Helper()
	for _, label := range s.Labels[:s.Data] {
		checkRefused(t, what, l, s, label, api.ErrMany)
	}
}

// Groups of as many members as there may be.
func TestTheMostMembers(t *testing.T) {
	for parity := 1; parity < 14; parity++ {
		var lengths []int
		for i := range 14 - parity {
			lengths = append(lengths, 1+i%3)
		}
		l, s := made(t, parity, lengths...)
		what := fmt.Sprint(len(lengths), " of data, ", parity, " of parity, lost from ")
		checkTold(t, what+"none on", l, s, l)
		// As many as there is parity, one behind the other; the last member's seal is there.
		for _, from := range []int{0, (14 - parity) / 2, 13 - parity} {
			var places []int
			for i := range parity {
				places = append(places, from+i)
			}
			checkTold(t, fmt.Sprint(what, from, " on"), gone(l, places...), s, l)
			if next := from + parity; next < 13 {
				checkMany(t, fmt.Sprint(what, from, " on, and one more"), gone(l, append(places, next)...), s, l, 0, 1, 2)
			}
		}
	}
}

// badBlocks are instead of block n of a tape, and none of them tells of its row: most are not good.
func badBlocks(x api.Tape, n int, isData bool) map[string][]byte {
	b := x.Blocks[n]
	u, _ := frame.Get(b)
	l := map[string][]byte{
		"nil": nil, "empty": {}, "one byte": {5}, "bytes 0": make([]byte, len(b)),
		"one byte short": b[:len(b)-1], "without its first byte": b[1:], "one byte more": append(bytes.Clone(b), 0),
		"another label": block(u.Kind, x.Label+1, n, u.Load), "another number": block(u.Kind, x.Label, n+1, u.Load), "a number far off": block(u.Kind, x.Label, n+256, u.Load),
	}
	for _, at := range []int{0, 4, 8, 10, 30, len(b) - 4, len(b) - 1} {
		l[fmt.Sprint("byte ", at, " turned")] = turned(x, n, 8*at+3).Blocks[n]
	}
	if isData {
		l["parity"] = block(api.FParity, x.Label, n, b)
		l["parity of nothing"] = block(api.FParity, x.Label, n, nil)
		return l
	}
	for _, size := range []int{0, 1, 64, wide - 1} {
		l[fmt.Sprint("parity of ", size, " bytes")] = block(api.FParity, x.Label, n, u.Load[:size])
	}
	for kind := 1; kind <= 5; kind++ {
		l[fmt.Sprint("kind ", kind)] = block(kind, x.Label, n, u.Load[:64])
	}
	return l
}

// In each member one block in turn is missing, in whatever way; the last one of parity is whole.
func TestOneBlockMissing(t *testing.T) {
	l, s := made(t, 2, 3, 3, 3)
	for place, x := range l[:4] {
		for n := range 3 {
			at := n
			if place >= s.Data {
				at++
			}
			for what, b := range badBlocks(x, at, place < s.Data) {
				hurt := clones(l)
				hurt[place] = instead(x, at, b)
				what = fmt.Sprint(what, ", row ", n, " of member ", place)
				checkTold(t, what, hurt, s, l)
				// Beside as many as there is parity it is one too many: in its row alone.
				for _, others := range [][]int{{0, 1}, {1, 2}, {2, 3}} {
					if slices.Contains(others, place) {
						checkTold(t, what+", of one that is lost", gone(hurt, others...), s, l)
					} else {
						checkMany(t, fmt.Sprint(what, ", and lost ", others), gone(hurt, others...), s, l, n)
					}
				}
			}
		}
	}
	// Nothing hangs on the parity tapes' first blocks, their labels' frames.
	for bit := 0; bit < wide*8; bit += 7 {
		hurt := gone(l, 0, 2)
		hurt[3], hurt[4] = turned(l[3], 0, bit), turned(l[4], 0, bit)
		checkTold(t, fmt.Sprint("labels of parity tapes turned, bit ", bit), hurt, s, l)
	}
}

// rot turns row n of a member.
func rot(l []api.Tape, s api.Seal, place, n int) {
	at := n
	if place >= s.Data {
		at++
	}
	l[place] = turned(l[place], at, 5+8*(place+n)%600)
}

func TestBlocksThatAreNotGood(t *testing.T) {
	for _, parity := range []int{1, 2, 3} {
		l, s := made(t, parity, 4, 4, 4)
		all := len(l)
		for mask := range 1 << all {
			places := chosen(mask, all)
			what := fmt.Sprint(parity, " of parity, not good in ", places)
			for n := range 4 {
				// All in one row.
				hurt := clones(l)
				for _, i := range places {
					rot(hurt, s, i, n)
				}
				if len(places) <= parity {
					checkTold(t, fmt.Sprint(what, ", row ", n), hurt, s, l)
				} else {
					checkMany(t, fmt.Sprint(what, ", row ", n), hurt, s, l, n)
				}
				// Each in another one: there are never more than there is parity in a row.
				hurt = clones(l)
				for k, i := range places {
					rot(hurt, s, i, (n+k)%4)
				}
				if len(places) <= 4*parity {
					checkTold(t, fmt.Sprint(what, ", from row ", n, " on"), hurt, s, l)
				}
			}
		}
	}
}

// Two rows of the same group: too many are not good in one of them, as many as there may be in the others.
func TestOneRowTooMany(t *testing.T) {
	l, s := made(t, 2, 5, 5, 5, 5)
	for bad := range 5 {
		hurt := clones(l)
		for n := range 5 {
			rot(hurt, s, n%4, n)
			rot(hurt, s, 4+n%2, n)
		}
		rot(hurt, s, (bad+1)%4, bad)
		checkMany(t, fmt.Sprint("too many in row ", bad), hurt, s, l, bad)
		// That a member's own row is there is of no use to it then.
		for _, x := range hurt[:4] {
			if b, e := mend.Block(hurt, s, x.Label, bad); e != api.ErrMany || len(b) != 0 {
				t.Errorf("P1501: Block of %d, %d: error %d", x.Label, bad, e)
			}
		}
	}
}

// Where no row at all is there it is ErrMany too.
func TestNoRowIsThere(t *testing.T) {
	for parity := 1; parity < 4; parity++ {
		l, s := made(t, parity, 3, 3)
		hurt := clones(l)
		for i := range l {
			rot(hurt, s, i, 1)
		}
		checkMany(t, fmt.Sprint(parity, " of parity, no row 1"), hurt, s, l, 1)
		hurt = gone(hurt, 0, 1)
		if b, e := mend.Block(hurt, s, l[0].Label, 1); e != api.ErrMany || len(b) != 0 {
			t.Errorf("P1501: Block of a row of which nothing is there: %v, error %d", b, e)
		}
		checkAll(t, "no row 1, and data lost", hurt, s)
	}
}

// checkSeals: each parity tape is changed, by which its seal is none; then each but one.
func checkSeals(t *testing.T, what string, l []api.Tape, s api.Seal, change func(x api.Tape) api.Tape) {
	t.Helper()
	bad := clones(l)
	for i := s.Data; i < len(bad); i++ {
		bad[i] = change(bad[i])
	}
	checkNothingTells(t, "each seal: "+what, bad, s)
	for whole := s.Data; whole < len(l); whole++ {
		bad := clones(bad)
		bad[whole] = l[whole]
		checkTold(t, fmt.Sprint("each seal but that of ", whole, ": ", what), bad, s, l)
		checkTold(t, fmt.Sprint("each seal but that of ", whole, ", a lost one: ", what), gone(bad, whole%s.Data), s, l)
		checkAll(t, fmt.Sprint("each seal but that of ", whole, ", data lost: ", what), gone(bad, chosen(1<<s.Data-1, s.Data)...), s)
	}
}

// A parity tape may be cut, or something stand behind its seal, or another block stand there: it has none.
func TestSealsThatAreNone(t *testing.T) {
	for parity := 1; parity < 4; parity++ {
		l, s := made(t, parity, 3, 2)
		last := len(l[2].Blocks) - 1
		for what, change := range map[string]func(x api.Tape) api.Tape{
			"lost":            lost,
			"blank":           func(x api.Tape) api.Tape { return api.Tape{Label: x.Label, Cap: x.Cap} },
			"cut":             func(x api.Tape) api.Tape { x.Blocks = x.Blocks[:last]; return x },
			"cut within":      func(x api.Tape) api.Tape { return instead(x, last, x.Blocks[last][:40]) },
			"a block behind":  func(x api.Tape) api.Tape { return with(x, api.FMark, nil) },
			"a bad one":       func(x api.Tape) api.Tape { return instead(with(x, api.FMark, nil), last+1, nil) },
			"an empty seal":   func(x api.Tape) api.Tape { return sealed(x, nil) },
			"one byte more":   func(x api.Tape) api.Tape { return sealed(x, append(sealOf(x), 0)) },
			"a bad seal":      func(x api.Tape) api.Tape { return sealed(x, []byte{0, 0, 0, 4, 2, 1, 1, 0, 0, 0, 3, 0, 0, 0, 9}) },
			"another kind":    func(x api.Tape) api.Tape { return instead(x, last, block(api.FData, x.Label, last, sealOf(x))) },
			"another tape's":  func(x api.Tape) api.Tape { return instead(x, last, block(api.FSeal, x.Label+1, last, sealOf(x))) },
			"another place's": func(x api.Tape) api.Tape { return instead(x, last, block(api.FSeal, x.Label, last+1, sealOf(x))) },
			"another label":   func(x api.Tape) api.Tape { x.Label += 50; return x },
		} {
			checkSeals(t, fmt.Sprint(what, ", of ", parity), l, s, change)
		}
	}
}

// A seal that is unlike what it was in one bit is none.
func TestSealsOfWhichOneBitIsTurned(t *testing.T) {
	l, s := made(t, 2, 2, 1)
	last := len(l[2].Blocks) - 1
	for bit := range wide * 8 {
		checkSeals(t, fmt.Sprint("bit ", bit), l, s, func(x api.Tape) api.Tape { return turned(x, last, bit) })
	}
}

// sealOf are the bytes of the seal that a tape ends with.
func sealOf(x api.Tape) []byte {
	s, _ := volume.Sealed(x)
	return record.SealBytes(s)
}

// sealed answers a tape with other bytes instead of its seal's.
func sealed(x api.Tape, load []byte) api.Tape {
	n := len(x.Blocks) - 1
	return instead(x, n, block(api.FSeal, x.Label, n, load))
}

// Whole seals of other groups, and of other members, tell it as well: only that there is one is asked.
func TestAnySealCounts(t *testing.T) {
	l, s := made(t, 2, 3, 2)
	for what, load := range map[string][]byte{
		"another number": {0, 0, 0, 9, 2, 2, 2, 0, 0, 0, 200, 0, 0, 0, 193, 0, 0, 0, 1, 0, 0, 0, 6},
		"another member": {0, 0, 0, 7, 0, 2, 2, 0, 0, 0, 200, 0, 0, 0, 193, 0, 0, 0, 1, 0, 0, 0, 6},
		"another group":  {0, 0, 0, 4, 1, 1, 1, 0, 0, 0, 3, 0, 0, 0, 9},
	} {
		hurt := clones(l)
		hurt[2], hurt[3] = sealed(l[2], load), sealed(l[3], load)
		checkTold(t, what, hurt, s, l)
		checkTold(t, what+", data lost", gone(hurt, 0, 1), s, l)
	}
	// A data member's seal is none of theirs, nor is that of a tape that is no member.
	own := with(l[0], api.FSeal, sealOf(l[2]))
	checkNothingTells(t, "a data member with a seal", []api.Tape{own, l[1], lost(l[2]), lost(l[3])}, s)
	other := with(tape(77, 4), api.FSeal, sealOf(l[2]))
	checkNothingTells(t, "another tape with a seal", []api.Tape{other, l[0], l[1], lost(l[2]), lost(l[3])}, s)
}

// parityTape is one of so many rows, its label's frame ahead of them and a seal behind.
func parityTape(label, rows int, s api.Seal) api.Tape {
	x := api.Tape{Label: label, Cap: 64}
	x = with(x, api.FLabel, []byte("P"))
	for n := range rows {
		x = with(x, api.FParity, filled(label+n, wide))
	}
	return with(x, api.FSeal, record.SealBytes(s))
}

// The first member of parity that has a seal tells how many rows there are: by the seal's labels, not by the tapes' order.
func TestWhoTellsTheRows(t *testing.T) {
	s := api.Seal{Number: 3, Index: 2, Data: 2, Parity: 3, Labels: []int{40, 41, 50, 51, 52}}
	first, second, third := parityTape(50, 2, s), parityTape(51, 4, s), parityTape(52, 1, s)
	cut := clone(first)
	cut.Blocks = cut.Blocks[:3]
	data := []api.Tape{tape(40, 6), tape(41, 3)}
	for what, x := range map[string]struct {
		l    []api.Tape
		rows int
	}{
		"in order":                   {[]api.Tape{first, second, third}, 2},
		"backwards":                  {[]api.Tape{third, second, first}, 2},
		"the first one lost":         {[]api.Tape{lost(first), second, third}, 4},
		"the first one cut":          {[]api.Tape{cut, third, second}, 4},
		"the first one not there":    {[]api.Tape{third, second}, 4},
		"the last one alone":         {[]api.Tape{third, cut}, 1},
		"the second one twice":       {[]api.Tape{cut, parityTape(51, 3, s), second}, 3},
		"the first one, lost, twice": {[]api.Tape{lost(first), first, third}, 1},
		"the second one alone":       {[]api.Tape{second}, 4},
	} {
		for _, l := range [][]api.Tape{slices.Concat(x.l, data), slices.Concat(data, x.l)} {
			checkAll(t, what, l, s)
			checkAll(t, what+", data lost", slices.Concat(gone(data, 0, 1), x.l), s)
			for n := range 8 {
				want, f := []byte(nil), api.ErrNone
				if n < x.rows {
					want, f = data[0].Blocks[n], api.OK
				}
				if b, e := mend.Block(l, s, 40, n); e != f || !bytes.Equal(b, want) {
					t.Errorf("P1501: %s: Block of 40, %d: %v, error %d, not %v, error %d", what, n, b, e, want, f)
				}
			}
			want := api.Tape{Label: 40, Cap: data[0].Cap, Blocks: data[0].Blocks[:x.rows]}
			if y, e := mend.Tape(l, s, 40); e != api.OK || !sameTape(y, want) {
				t.Errorf("P1501: %s: Tape of 40: %v, error %d, not %v", what, y, e, want)
			}
		}
	}
}

func TestUnlikeLengths(t *testing.T) {
	for _, lengths := range [][]int{{5, 2}, {2, 5}, {1, 2, 3}, {3, 2, 1}, {4, 0}, {0, 4}, {0, 0, 1}, {6, 0, 3, 0}} {
		l, s := made(t, 2, lengths...)
		for i, x := range l[:s.Data] {
			for _, hurt := range [][]api.Tape{l, gone(l, i), gone(l, i, 2), gone(l, (i+1)%s.Data), gone(l, i, (i+1)%s.Data)} {
				if slices.ContainsFunc(hurt[s.Data:], func(x api.Tape) bool { return x.Lost }) {
					hurt[s.Data] = lost(l[s.Data])
				}
				what := fmt.Sprint("tapes of ", lengths)
				checkTold(t, what, hurt, s, l)
				for n := len(x.Blocks); n < slices.Max(lengths); n++ {
					if b, e := mend.Block(hurt, s, x.Label, n); e != api.OK || !bytes.Equal(b, make([]byte, wide)) {
						t.Errorf("P1501: %s: Block of %d, %d: %v, error %d", what, x.Label, n, b, e)
					}
				}
				if y, e := mend.Tape(hurt, s, x.Label); e != api.OK || len(y.Blocks) != lengths[i] || y.Cap != x.Cap {
					t.Errorf("P1501: %s: Tape of %d: %d blocks, Cap %d, error %d", what, x.Label, len(y.Blocks), y.Cap, e)
				}
			}
		}
	}
}

// Bytes 0 within a tape stay, those at its end go: what a lost tape had is reckoned from the rows alone.
func TestBytesZero(t *testing.T) {
	s := api.Seal{Number: 3, Index: 1, Data: 1, Parity: 1, Labels: []int{40, 50}}
	zero, some, end := make([]byte, wide), filled(4, wide), append(make([]byte, wide-1), 1)
	for what, rows := range map[string][][]byte{
		"all 0":              {zero, zero, zero},
		"0 at the end":       {some, zero, zero},
		"0 at the beginning": {zero, zero, some},
		"0 within":           {some, zero, some, zero},
		"one byte at last":   {zero, end, zero},
		"one byte at first":  {append([]byte{1}, zero[1:]...), zero},
		"no 0":               {some, some},
		"one row of 0":       {zero},
	} {
		x := with(api.Tape{Label: 50, Cap: 64}, api.FLabel, []byte("P"))
		for _, b := range rows {
			x = with(x, api.FParity, b)
		}
		x = with(x, api.FSeal, record.SealBytes(s))
		last := len(rows)
		for last > 0 && bytes.Equal(rows[last-1], zero) {
			last--
		}
		for _, room := range []int{0, -1, 1, 64, math.MinInt, math.MaxInt} {
			l := []api.Tape{x, {Label: 40, Cap: room, Lost: true}}
			want := api.Tape{Label: 40, Cap: room, Blocks: rows[:last]}
			if y, e := mend.Tape(l, s, 40); e != api.OK || !sameTape(y, want) {
				t.Errorf("P1501: %s: Tape: %v, error %d, not %v", what, y, e, want)
			}
			checkAll(t, what, l, s)
		}
		checkAll(t, what+", no tape", []api.Tape{x}, s)
		checkAll(t, what+", a tape of no blocks", []api.Tape{{Label: 40}, x}, s)
	}
}

func TestLabelsThatAreNoDataMembers(t *testing.T) {
	l, s := made(t, 3, 2, 3)
	l = append(l, tape(77, 3))
	for _, label := range slices.Concat(s.Labels[s.Data:], []int{77, 78, 0, -1, -200, math.MinInt, math.MaxInt, 200 + 1<<32, 193 - 1<<32, greatest, greatest + 1}) {
		checkRefused(t, "no data member", l, s, label, api.ErrArg)
		checkRefused(t, "no data member, no tapes", nil, s, label, api.ErrArg)
	}
	// Labels may be as small and as great as any.
	for _, labels := range [][2]int{{1, greatest}, {greatest, 1}, {highest, 255}, {256, highest + 1}} {
		s := api.Seal{Number: highest, Index: 0, Data: 1, Parity: 1, Labels: labels[:]}
		l := []api.Tape{tape(labels[0], 3), parityTape(labels[1], 3, s)}
		checkAll(t, "labels as they may be", l, s)
		if y, e := mend.Tape(l, s, labels[0]); e != api.OK || !sameTape(y, l[0]) {
			t.Errorf("P1501: Tape of %d: %v, error %d", labels[0], y, e)
		}
		checkRefused(t, "a parity member's label", l, s, labels[1], api.ErrArg)
	}
}

// badSeals are each unlike s in one thing, and not right.
func badSeals(s api.Seal) map[string]api.Seal {
	l := make(map[string]api.Seal)
	for _, n := range []int{0, -1, math.MinInt, highest + 1, math.MaxInt, 7 + 1<<32} {
		l[fmt.Sprint("Number ", n)] = api.Seal{Number: n, Index: s.Index, Data: s.Data, Parity: s.Parity, Labels: s.Labels}
	}
	for _, n := range []int{-1, math.MinInt, len(s.Labels), len(s.Labels) + 1, 256, math.MaxInt} {
		l[fmt.Sprint("Index ", n)] = api.Seal{Number: s.Number, Index: n, Data: s.Data, Parity: s.Parity, Labels: s.Labels}
	}
	for _, n := range []int{0, -1, math.MinInt, s.Data - 1, s.Data + 1, len(s.Labels), len(s.Labels) + 1, 256 + s.Data, math.MaxInt} {
		l[fmt.Sprint("Data ", n)] = api.Seal{Number: s.Number, Index: s.Index, Data: n, Parity: s.Parity, Labels: s.Labels}
	}
	for _, n := range []int{0, -1, math.MinInt, s.Parity - 1, s.Parity + 1, 256 + s.Parity, math.MaxInt} {
		l[fmt.Sprint("Parity ", n)] = api.Seal{Number: s.Number, Index: s.Index, Data: s.Data, Parity: n, Labels: s.Labels}
	}
	for i := range s.Labels {
		for _, n := range []int{0, -1, math.MinInt, greatest + 1, math.MaxInt, s.Labels[(i+1)%len(s.Labels)]} {
			labels := slices.Clone(s.Labels)
			labels[i] = n
			l[fmt.Sprint("label ", n, " in place ", i)] = api.Seal{Number: s.Number, Index: s.Index, Data: s.Data, Parity: s.Parity, Labels: labels}
		}
	}
	l["all data"] = api.Seal{Number: s.Number, Data: len(s.Labels), Labels: s.Labels}
	l["all parity"] = api.Seal{Number: s.Number, Parity: len(s.Labels), Labels: s.Labels}
	l["no labels"] = api.Seal{Number: s.Number, Index: s.Index, Data: s.Data, Parity: s.Parity}
	l["one label less"] = api.Seal{Number: s.Number, Data: s.Data, Parity: s.Parity, Labels: s.Labels[:len(s.Labels)-1]}
	l["one label more"] = api.Seal{Number: s.Number, Data: s.Data, Parity: s.Parity, Labels: append(slices.Clone(s.Labels), 99)}
	return l
}

func TestSealsThatAreNotRight(t *testing.T) {
	l, s := made(t, 2, 2, 3, 1)
	checkTold(t, "a seal that is right", l, s, l)
	for what, bad := range badSeals(s) {
		for _, label := range append(slices.Clone(s.Labels), 0, 99) {
			checkRefused(t, what, l, bad, label, api.ErrArg)
			checkRefused(t, what+", no tapes", nil, bad, label, api.ErrArg)
		}
	}
	// One member more than there may be.
	many := api.Seal{Number: 1, Data: 10, Parity: 5}
	for i := range 15 {
		many.Labels = append(many.Labels, i+1)
	}
	checkRefused(t, "15 members", nil, many, 1, api.ErrArg)
}

func TestRowsThatAreNone(t *testing.T) {
	for _, lengths := range [][]int{{1}, {3, 2}, {1, 4, 0}} {
		l, s := made(t, 2, lengths...)
		rows := slices.Max(lengths)
		for _, hurt := range [][]api.Tape{l, gone(l, 0), gone(l, s.Data), gone(l, 0, s.Data), gone(l, chosen(1<<s.Data-1, s.Data)...), l[s.Data:]} {
			for _, label := range s.Labels[:s.Data] {
				for _, n := range []int{-1, -2, -rows, math.MinInt, math.MinInt + 1, rows, rows + 1, rows + 2, 1 << 32, math.MaxInt - 1, math.MaxInt} {
					if b, e := mend.Block(hurt, s, label, n); e != api.ErrNone || len(b) != 0 {
						t.Errorf("P1501: tapes of %v: Block of %d, %d: %v, error %d", lengths, label, n, b, e)
					}
					checkBlock(t, "no row", hurt, s, label, n)
				}
			}
		}
	}
}

// A parity tape of a label and a seal has 0 rows; one of a seal alone doesn't tell how many.
func TestNoRows(t *testing.T) {
	s := api.Seal{Number: 3, Index: 1, Data: 2, Parity: 2, Labels: []int{40, 41, 50, 51}}
	none := parityTape(50, 0, s)
	for what, data := range map[string][]api.Tape{
		"whole tapes": {tape(40, 3), tape(41, 2)}, "lost ones": gone([]api.Tape{tape(40, 3), tape(41, 2)}, 0, 1), "no tapes": nil, "blank ones": tapes(0, 0),
	} {
		for _, l := range [][]api.Tape{append(clones(data), none), append(clones(data), none, parityTape(51, 3, s)), append(clones(data), lost(parityTape(51, 3, s)), none)} {
			for _, n := range []int{0, 1, -1, -2, math.MinInt, math.MaxInt} {
				if b, e := mend.Block(l, s, 40, n); e != api.ErrNone || len(b) != 0 {
					t.Errorf("P1501: %s, no rows: Block of 40, %d: %v, error %d", what, n, b, e)
				}
			}
			want := api.Tape{Label: 40}
			if x, ok := memberOf(l, 40); ok {
				want.Cap = x.Cap
			}
			if x, e := mend.Tape(l, s, 40); e != api.OK || !sameTape(x, want) {
				t.Errorf("P1501: %s, no rows: Tape of 40: %v, error %d, not %v", what, x, e, want)
			}
			checkAll(t, what+", no rows", l, s)
		}
		alone := with(api.Tape{Label: 50, Cap: 9}, api.FSeal, record.SealBytes(s))
		if _, ok := volume.Sealed(alone); !ok {
			t.Error("P1102: Sealed of a seal alone")
		}
		checkNothingTells(t, what+", a seal alone", append(clones(data), alone), s)
		checkNothingTells(t, what+", a seal alone, and another behind", append(clones(data), alone, parityTape(51, 3, s)), s)
		checkNothingTells(t, what+", a seal alone, and another ahead", append([]api.Tape{parityTape(51, 3, s), alone}, data...), s)
	}
}

// Of two tapes of one label the first is meant, whatever it is.
func TestLabelsThatTwoHave(t *testing.T) {
	l, s := made(t, 2, 3, 2, 3)
	for place, x := range l {
		blank := api.Tape{Label: x.Label, Cap: 5}
		for what, y := range map[string]api.Tape{"lost": {Label: x.Label, Cap: 5, Lost: true}, "blank": blank, "other blocks": with(with(blank, api.FData, []byte("a")), api.FMark, nil), "whole": x, "lost, with its blocks": lost(x)} {
			what = fmt.Sprint(what, ", member ", place)
			checkAll(t, what+", ahead", append([]api.Tape{y}, l...), s)
			checkTold(t, what+", behind", append(clones(l), y), s, l)
			checkAll(t, what+", instead of those behind", append([]api.Tape{y}, l[:place]...), s)
		}
	}
	// Too many of the first ones are lost, though whole ones stand behind.
	ahead := gone(l, 0, 1, 2)[:3]
	checkMany(t, "lost ones ahead", append(ahead, l...), s, l, 0, 1, 2)
	if x, e := mend.Tape(append(gone(l, 1)[1:2], l...), s, l[1].Label); e != api.OK || !sameTape(x, l[1]) {
		t.Errorf("P1501: Tape of one that is lost ahead: %v, error %d", x, e)
	}
	small := api.Tape{Label: l[1].Label, Cap: 2, Lost: true}
	if x, e := mend.Tape(append([]api.Tape{small}, l...), s, l[1].Label); e != api.OK || x.Cap != 2 || len(x.Blocks) != 2 {
		t.Errorf("P1501: Tape of one that is lost ahead: Cap %d, error %d", x.Cap, e)
	}
}

// A label that no tape has is as that of one that is lost, but for Cap.
func TestLabelsThatNoneHas(t *testing.T) {
	for _, lengths := range [][]int{{3, 1, 0}, {1, 3, 2}, {2, 0, 5}, {0, 0, 1}} {
		l, s := made(t, 2, lengths...)
		rows := slices.Max(lengths)
		for mask := range 1 << s.Data {
			places := chosen(mask, s.Data)
			left := without(l, places)
			for i, x := range l[:s.Data] {
				want, f := clone(x), api.OK
				if slices.Contains(places, i) {
					want.Cap = rows
				}
				if len(places) > s.Parity {
					want, f = api.Tape{}, api.ErrMany
				}
				if y, e := mend.Tape(left, s, x.Label); e != f || !sameTape(y, want) {
					t.Errorf("P1501: tapes of %v, none of %v: Tape of %d: %v, error %d, not %v, error %d", lengths, places, x.Label, y, e, want, f)
				}
			}
			checkAll(t, fmt.Sprint("tapes of ", lengths, ", none of ", places), left, s)
		}
		checkNothingTells(t, "no parity member", l[:s.Data], s)
		checkNothingTells(t, "no tapes", nil, s)
		checkNothingTells(t, "an empty list", []api.Tape{}, s)
	}
}

// flaw is one thing that is wrong with what is asked, and what is told of it alone.
type flaw struct {
	what string
	make func(x *ask)
	want api.Errno
}

// flaws are such, in the order in which they are looked for.
func flaws() []flaw {
	return []flaw{
		{"a seal that is not right", func(x *ask) { x.s.Number = 0 }, api.ErrArg},
		{"a parity member's label", func(x *ask) { x.label = x.s.Labels[3] }, api.ErrArg},
		{"no member's label", func(x *ask) { x.label = 0 }, api.ErrArg},
		{"parity lost", func(x *ask) { x.l = gone(x.l, 3, 4) }, api.ErrMany},
		{"a row below 0", func(x *ask) { x.n = -1 }, api.ErrNone},
		{"a row too far", func(x *ask) { x.n = 4 }, api.ErrNone},
		{"data lost", func(x *ask) { x.l = gone(x.l, 0, 1, 2) }, api.ErrMany},
		{"row 1 not good", func(x *ask) {
			x.l = clones(x.l)
			for i := range 3 {
				x.l[i] = instead(x.l[i], 1, []byte{1})
			}
		}, api.ErrMany},
	}
}

// Of two things that are wrong at once the first one is told.
func TestWhichErrorComes(t *testing.T) {
	for i, first := range flaws() {
		for _, second := range flaws()[i:] {
			l, s := made(t, 2, 4, 4, 4)
			x := ask{l: l, s: s, label: s.Labels[1], n: 1}
			second.make(&x)
			first.make(&x)
			b, e := mend.Block(x.l, x.s, x.label, x.n)
			if e != first.want || len(b) != 0 {
				t.Errorf("P1501: %s, and %s: Block: %v, error %d, not nothing, error %d", first.what, second.what, b, e, first.want)
			}
			checkBlock(t, first.what+", and "+second.what, x.l, x.s, x.label, x.n)
			checkTape(t, first.what+", and "+second.what, x.l, x.s, x.label)
			// Tape is asked of no row: that one is none is nothing to it.
			if y, e := mend.Tape(x.l, x.s, x.label); first.want != api.ErrNone && (e != first.want || !sameTape(y, api.Tape{})) {
				t.Errorf("P1501: %s, and %s: Tape: error %d, not %d", first.what, second.what, e, first.want)
			}
		}
	}
	// A row that is none is none though too many are lost, but not though nothing tells how many there are.
	l, s := made(t, 1, 3, 3)
	for _, n := range []int{-1, 3, math.MinInt, math.MaxInt} {
		if b, e := mend.Block(gone(l, 0, 1), s, s.Labels[0], n); e != api.ErrNone || len(b) != 0 {
			t.Errorf("P1501: all data lost, row %d: error %d", n, e)
		}
		if b, e := mend.Block(gone(l, 2), s, s.Labels[0], n); e != api.ErrMany || len(b) != 0 {
			t.Errorf("P1501: all parity lost, row %d: error %d", n, e)
		}
	}
}

// chance makes numbers.
type chance uint32

func (c *chance) next(most int) int {
	*c = *c*1664525 + 1013904223
	return int(*c>>9) % most
}

// anything answers something that a block might be.
func (c *chance) anything(label, n int) []byte {
	switch c.next(8) {
	case 0:
		return nil
	case 1:
		return filled(c.next(100), c.next(100))
	case 2:
		return block(api.FParity, label, n, filled(c.next(100), c.next(80)))
	case 3:
		return block(1+c.next(6), label, n+c.next(2), filled(n, c.next(65)))
	case 4, 5:
		return block(api.FParity, label, n, filled(c.next(100), wide))
	default:
		return block(1+c.next(5), label, n, filled(n, c.next(65)))
	}
}

// Tapes that are no group of anything, with seals or without: what is answered is what the words say.
func TestAnyTapes(t *testing.T) {
	c := chance(1501)
	for round := range 1500 {
		s := api.Seal{Number: 1 + c.next(3), Data: 1 + c.next(4), Parity: 1 + c.next(3)}
		for i := range s.Data + s.Parity {
			s.Labels = append(s.Labels, 10+i)
		}
		var l []api.Tape
		for range c.next(12) {
			x := api.Tape{Label: 9 + c.next(9), Cap: c.next(20) - 5, Lost: c.next(6) == 0}
			for range c.next(6) {
				x.Blocks = append(x.Blocks, c.anything(x.Label, len(x.Blocks)))
			}
			if c.next(3) > 0 {
				x = with(x, api.FSeal, record.SealBytes(s))
			}
			l = append(l, x)
		}
		checkAll(t, fmt.Sprint("round ", round), l, s)
		if t.Failed() {
			return
		}
	}
}

// Groups that were made, of which anything but one seal of parity may have gone: what is told is what was there.
func TestAnyLoss(t *testing.T) {
	c := chance(1502)
	for round := range 80 {
		lengths := make([]int, 1+c.next(8))
		for i := range lengths {
			lengths[i] = c.next(7)
		}
		lengths[c.next(len(lengths))] = 1 + c.next(8)
		l, s := made(t, 1+c.next(5), lengths...)
		hurt, rows := clones(l), slices.Max(lengths)
		whole := s.Data + c.next(s.Parity)
		lostOnes := c.next(s.Parity + 1)
		for range lostOnes {
			if i := c.next(len(l)); i != whole {
				hurt = gone(hurt, i)
			}
		}
		for n := range rows {
			for range s.Parity - lostOnes {
				i := c.next(len(l))
				at := n
				if i >= s.Data {
					at++
				}
				if at < len(hurt[i].Blocks) && !hurt[i].Lost {
					hurt[i] = instead(hurt[i], at, filled(round+n, c.next(100)))
				}
			}
		}
		checkTold(t, fmt.Sprint("round ", round), hurt, s, l)
		if t.Failed() {
			return
		}
	}
}

// ask is a call of each kind.
type ask struct {
	what     string
	l        []api.Tape
	s        api.Seal
	label, n int
}

func asks(t *testing.T) []ask {
	t.Helper()
	one, first := made(t, 1, 3)
	l, s := made(t, 3, 4, 2, 3, 0)
	bad := s
	bad.Number = 0
	hurt := clones(l)
	rot(hurt, s, 0, 1)
	rot(hurt, s, 2, 1)
	rot(hurt, s, 5, 1)
	none := api.Seal{Number: 3, Index: 1, Data: 1, Parity: 1, Labels: []int{40, 50}}
	out := []ask{
		{"nothing", nil, api.Seal{}, 0, 0},
		{"one and one", one, first, 200, 2},
		{"one and one, lost", gone(one, 0), first, 200, 1},
		{"one and one, not there", one[1:], first, 200, 0},
		{"one and one, no parity", one[:1], first, 200, 0},
		{"a seal that is not right", l, bad, 200, 1},
		{"a parity member", l, s, s.Labels[4], 1},
		{"a row that is none", l, s, 200, 4},
		{"a member of no blocks", l, s, s.Labels[3], 0},
		{"bytes 0", l, s, s.Labels[1], 3},
		{"too many", gone(l, 0, 1, 2, 4), s, 200, 1},
		{"no rows", []api.Tape{tape(40, 2), parityTape(50, 0, none)}, none, 40, 0},
	}
	for i := range 24 {
		x := [][]api.Tape{l, gone(l, 0, 1, 2), hurt, gone(l, 0, 4, 6), gone(hurt, 3, 0), l[1:]}[i%6]
		out = append(out, ask{fmt.Sprint("some, ", i), x, s, s.Labels[i%4], i / 6})
	}
	return out
}

// told is all that the calls answer of one ask.
type told struct {
	block []byte
	e     api.Errno
	tape  api.Tape
	f     api.Errno
}

func tell(x ask) told {
	var a told
	a.block, a.e = mend.Block(x.l, x.s, x.label, x.n)
	a.tape, a.f = mend.Tape(x.l, x.s, x.label)
	return a
}

func (a told) copied() told {
	a.block, a.tape = bytes.Clone(a.block), clone(a.tape)
	return a
}

func (a told) same(b told) bool {
	return a.e == b.e && a.f == b.f && bytes.Equal(a.block, b.block) && sameTape(a.tape, b.tape)
}

func turn(b []byte) {
	for i := range b[:cap(b)] {
		b[:cap(b)][i] ^= 0xff
	}
}

// scribble writes over all that an answer's memory holds, its spare room too.
func (a told) scribble() {
	turn(a.block)
	for _, b := range a.tape.Blocks[:cap(a.tape.Blocks)] {
		turn(b)
	}
	clear(a.tape.Blocks[:cap(a.tape.Blocks)])
}

// guarded is the same ask in memory that has spare room, all of it filled: tapes, blocks, bytes and labels.
func guarded(x ask) ask {
	l := make([]api.Tape, 0, len(x.l)+20)
	for _, y := range x.l {
		blocks := make([][]byte, 0, len(y.Blocks)+2)
		for _, b := range y.Blocks {
			blocks = append(blocks, slices.Concat(b, filled(1, 94))[:len(b)])
		}
		y.Blocks = append(blocks, filled(2, wide), filled(3, wide))[:len(blocks)]
		l = append(l, y)
	}
	for i := range 20 {
		l = append(l, tape(200-7*i, 2))
	}
	x.l = l[:len(x.l)]
	x.s.Labels = slices.Concat(x.s.Labels, []int{51, 52, 53, 54})[:len(x.s.Labels)]
	return x
}

// whole is all that is handed in, its spare room too, in memory of its own.
func (x ask) whole() ask {
	var l []api.Tape
	for _, y := range x.l[:cap(x.l)] {
		y.Blocks = slices.Clone(y.Blocks[:cap(y.Blocks)])
		for i, b := range y.Blocks {
			y.Blocks[i] = bytes.Clone(b[:cap(b)])
		}
		l = append(l, y)
	}
	x.l = l
	x.s.Labels = slices.Clone(x.s.Labels[:cap(x.s.Labels)])
	return x
}

func (x ask) sameWhole(was ask) bool {
	now := x.whole()
	return sameTapes(now.l, was.l) && sameSeal(now.s, was.s)
}

func TestWhatIsHandedInStays(t *testing.T) {
	for _, x := range asks(t) {
		y := guarded(x)
		was := y.whole()
		got := tell(y)
		if !y.sameWhole(was) {
			t.Errorf("P1502: %s: what was handed in has changed", x.what)
		}
		// Only now is it asked without spare room: a call that turns what it is handed would else have done so ahead of the copy.
		if !got.same(tell(x)) {
			t.Errorf("P1502: %s: an answer hangs on spare room", x.what)
		}
		got.scribble()
		if !y.sameWhole(was) {
			t.Errorf("P1502: %s: an answer shares memory with what was handed in", x.what)
		}
	}
}

// Who owns what was handed in turns it: no answer is turned by that, and none comes from what was.
func TestWhatIsHandedInIsNotKept(t *testing.T) {
	for _, x := range asks(t) {
		y := guarded(x)
		got := tell(y)
		was := got.copied()
		for i := range y.l {
			for _, b := range y.l[i].Blocks {
				turn(b)
			}
			y.l[i] = api.Tape{}
		}
		if again := tell(y); again.e != api.ErrMany && again.e != api.ErrArg || again.f != again.e || len(again.block) != 0 || !sameTape(again.tape, api.Tape{}) {
			t.Errorf("P1502: %s: of tapes that are none by now something is told", x.what)
		}
		clear(y.s.Labels)
		if again := tell(y); again.e != api.ErrArg || again.f != api.ErrArg {
			t.Errorf("P1502: %s: of a seal that is none by now something is told", x.what)
		}
		if !got.same(was) || !tell(x).same(was) {
			t.Errorf("P1502: %s: what was handed in is kept", x.what)
		}
	}
}

func TestAnswersAreNewMemory(t *testing.T) {
	for _, x := range asks(t) {
		first, second := tell(x), tell(x)
		want := first.copied()
		first.scribble()
		if !second.same(want) || !tell(x).same(want) {
			t.Errorf("P1502: %s: two answers share memory", x.what)
		}
	}
}

// Each block of a tape that is answered is written over, and something laid behind it: no other one sees that.
func TestListsOfAnAnswerAreTheirOwn(t *testing.T) {
	for _, x := range asks(t) {
		a := tell(x)
		for n := range a.tape.Blocks {
			was := a.copied()
			turn(a.tape.Blocks[n])
			_ = append(a.tape.Blocks[n], filled(1, 94)...)
			for i, c := range was.tape.Blocks[n] {
				was.tape.Blocks[n][i] = ^c
			}
			if !a.same(was) {
				t.Fatalf("P1502: %s: two blocks of an answer share memory", x.what)
			}
		}
	}
}

func everything(l []ask) []told {
	var out []told
	for _, x := range l {
		out = append(out, tell(x))
	}
	return out
}

func TestAnswersHangOnArgumentsAlone(t *testing.T) {
	l := asks(t)
	first := everything(l)
	if !slices.EqualFunc(everything(l), first, told.same) {
		t.Error("P1502: the same calls once more answer otherwise")
	}
	slices.Reverse(l)
	backwards := everything(l)
	slices.Reverse(backwards)
	if !slices.EqualFunc(backwards, first, told.same) {
		t.Error("P1502: the same calls in another order answer otherwise")
	}
}

// All of them ask the same, beside each other.
func TestAnswersBesideOneAnother(t *testing.T) {
	l := asks(t)
	first := everything(l)
	var alike [4]bool
	var workers sync.WaitGroup
	for i := range alike {
		workers.Go(func() { alike[i] = slices.EqualFunc(everything(l), first, told.same) })
	}
	workers.Wait()
	for i, ok := range alike {
		if !ok {
			t.Errorf("P1502: worker %d was answered otherwise", i)
		}
	}
}
