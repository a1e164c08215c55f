package tape_test

import (
	"bytes"
	"fmt"
	"math"
	"slices"
	"sync"
	"testing"

	"cartridge/api"
	"cartridge/tape"
)

// block answers n bytes that no block of another seed has.
func block(n, seed int) []byte {
	b := make([]byte, n)
	for i := range b {
		b[i] = byte(i*7 + seed*31 + 1)
	}
	return b
}

// rows answers blocks of these lengths.
func rows(lengths ...int) [][]byte {
	var l [][]byte
	for i, n := range lengths {
		l = append(l, block(n, i))
	}
	return l
}

func many(n, length int) [][]byte {
	return rows(slices.Repeat([]int{length}, n)...)
}

func cloneRows(l [][]byte) [][]byte {
	var out [][]byte
	for _, b := range l {
		out = append(out, bytes.Clone(b))
	}
	return out
}

func cloneTape(t api.Tape) api.Tape {
	t.Blocks = cloneRows(t.Blocks)
	return t
}

func sameTape(a, b api.Tape) bool {
	return a.Label == b.Label && a.Cap == b.Cap && a.Lost == b.Lost && slices.EqualFunc(a.Blocks, b.Blocks, bytes.Equal)
}

// roomy answers a copy of b with spare room behind, all of it 0xee, and the whole of that memory.
func roomy(b []byte) (row, whole []byte) {
	whole = append(bytes.Clone(b), bytes.Repeat([]byte{0xee}, 100)...)
	return whole[:len(b)], whole
}

// goodTapes are blank ones, full ones and some between, with blocks of all lengths that may be.
func goodTapes() []api.Tape {
	var each [][]byte
	for n := range api.MaxBlocks {
		each = append(each, block(n+1+(api.Wide-api.MaxBlocks)*(n%2), n))
	}
	return []api.Tape{
		{Label: 1}, {Label: 1, Cap: 1}, {Label: 2, Cap: api.MaxBlocks}, {Label: math.MaxInt, Cap: 7}, {Label: 3, Cap: 4, Blocks: [][]byte{}},
		{Label: 1, Cap: 1, Blocks: rows(1)}, {Label: 1, Cap: 1, Blocks: rows(api.Wide)}, {Label: 5, Cap: 2, Blocks: rows(3)},
		{Label: 4, Cap: 4, Blocks: rows(3, 1, 94, 79)}, {Label: 25, Cap: 5, Blocks: rows(94, 1, 15)}, {Label: 9, Cap: 6, Blocks: [][]byte{{0}, {0, 0}, bytes.Repeat([]byte{255}, 94)}},
		{Label: 1 << 40, Cap: api.MaxBlocks, Blocks: each}, {Label: 6, Cap: api.MaxBlocks, Blocks: each[:63]}, {Label: 7, Cap: api.MaxBlocks, Blocks: many(64, 94)},
	}
}

// wrongTapes can't be, each for one cause alone.
func wrongTapes() []api.Tape {
	l := []api.Tape{
		{Label: 0, Cap: 3}, {Label: -1, Cap: 3}, {Label: math.MinInt, Cap: 3}, {}, {Label: 0, Cap: 3, Blocks: rows(1, 2)},
		{Label: 1, Cap: -1}, {Label: 1, Cap: math.MinInt}, {Label: 1, Cap: api.MaxBlocks + 1}, {Label: 1, Cap: math.MaxInt}, {Label: 1, Cap: 65, Blocks: rows(1, 2)}, {Label: 1, Cap: 100, Blocks: many(65, 1)},
		{Label: 1, Cap: 0, Blocks: rows(1)}, {Label: 1, Cap: 1, Blocks: rows(1, 2)}, {Label: 1, Cap: 3, Blocks: rows(1, 2, 3, 4)}, {Label: 1, Cap: 64, Blocks: many(65, 94)}, {Label: 1, Cap: 2, Blocks: many(5000, 1)},
	}
	for _, bad := range [][]byte{nil, {}, block(api.Wide+1, 0), block(1000, 0)} {
		for _, at := range []int{0, 1, 2} {
			blocks := rows(1, 94, 3)
			blocks[at] = bad
			l = append(l, api.Tape{Label: 1, Cap: 3, Blocks: blocks}, api.Tape{Label: 1, Cap: 64, Blocks: blocks})
		}
	}
	return l
}

func mustLoad(t *testing.T, x api.Tape) *tape.Drive {
	t.Helper()
	d, e := tape.Load(x)
	if d == nil || e != api.OK {
		t.Fatalf("P801: Load of %d blocks of %d: %v", len(x.Blocks), x.Cap, e)
	}
	return d
}

// check holds all that can be asked of a drive against the tape that it should have.
func check(t *testing.T, what string, d *tape.Drive, want api.Tape) {
	t.Helper()
	if got := d.Tape(); !sameTape(got, want) {
		t.Errorf("P801: %s: Tape: %v, want %v", what, got, want)
	}
	if d.Len() != len(want.Blocks) || d.Room() != want.Cap-len(want.Blocks) {
		t.Errorf("P801: %s: Len %d, Room %d, want %d of %d", what, d.Len(), d.Room(), len(want.Blocks), want.Cap)
	}
	for n, b := range want.Blocks {
		if got, e := d.Read(n); e != api.OK || !bytes.Equal(got, b) {
			t.Errorf("P801: %s: Read(%d): %v, %v, want %v", what, n, got, e, b)
		}
	}
	for _, n := range noBlocks(len(want.Blocks)) {
		if got, e := d.Read(n); e != api.ErrNone || got != nil {
			t.Errorf("P801: %s: Read(%d): %v, %v, want ErrNone", what, n, got, e)
		}
	}
}

// noBlocks are numbers of blocks that a tape of so many has not.
func noBlocks(count int) []int {
	return []int{-1, count, count + 1, -2, api.MaxBlocks, api.MaxBlocks + 1, -api.MaxBlocks, 1 << 32, -1 << 32, math.MinInt, math.MinInt + 1, math.MaxInt, math.MaxInt - 1}
}

func TestExample(t *testing.T) {
	d := mustLoad(t, api.Tape{Label: 1, Cap: 5})
	if d.Len() != 0 {
		t.Errorf("P801: Len of a blank tape: %d", d.Len())
	}
}

func TestLoadGood(t *testing.T) {
	for i, x := range goodTapes() {
		check(t, fmt.Sprintf("good tape %d", i), mustLoad(t, x), cloneTape(x))
	}
}

func checkRefused(t *testing.T, what string, x api.Tape, want api.Errno) {
	t.Helper()
	was := cloneTape(x)
	if d, e := tape.Load(x); d != nil || e != want {
		t.Errorf("P801: Load of %s: a drive: %v, %v, want %v", what, d != nil, e, want)
	}
	if !sameTape(x, was) {
		t.Errorf("P802: Load of %s has turned it", what)
	}
}

func TestLoadWrong(t *testing.T) {
	for i, x := range wrongTapes() {
		checkRefused(t, fmt.Sprintf("wrong tape %d", i), x, api.ErrArg)
		x.Lost = true
		checkRefused(t, fmt.Sprintf("wrong tape %d, lost", i), x, api.ErrArg)
	}
	for i, x := range goodTapes() {
		x.Lost = true
		checkRefused(t, fmt.Sprintf("good tape %d, lost", i), x, api.ErrLost)
	}
}

// TestLoadLengths goes through all lengths of a block, and all numbers of blocks.
func TestLoadLengths(t *testing.T) {
	for n := range api.Wide + 3 {
		x := api.Tape{Label: 1, Cap: 2, Blocks: [][]byte{block(n, 1)}}
		if n < 1 || n > api.Wide {
			checkRefused(t, fmt.Sprintf("a block of %d", n), x, api.ErrArg)
			continue
		}
		check(t, fmt.Sprintf("a block of %d", n), mustLoad(t, x), x)
	}
	for most := range api.MaxBlocks + 1 {
		for count := range api.MaxBlocks + 2 {
			x := api.Tape{Label: 1, Cap: most, Blocks: many(count, 2)}
			if d, e := tape.Load(x); (e == api.OK) != (count <= most) || (d == nil) != (count > most) || (e != api.OK && e != api.ErrArg) {
				t.Errorf("P801: Load of %d blocks of %d: %v", count, most, e)
			}
		}
	}
}

func TestAppend(t *testing.T) {
	for i, x := range goodTapes() {
		want := cloneTape(x)
		d := mustLoad(t, x)
		for round := range 4 {
			for _, n := range []int{0, api.Wide + 1, 1, api.Wide, 0, 17, api.Wide + 2, 10000} {
				b := block(n, round+n)
				e := api.OK
				switch {
				case n == 0 || n > api.Wide:
					e = api.ErrArg
				case len(want.Blocks) == want.Cap:
					e = api.ErrFull
				default:
					want.Blocks = append(want.Blocks, bytes.Clone(b))
				}
				if got := d.Append(b); got != e {
					t.Errorf("P801: tape %d: Append of %d bytes: %v, want %v", i, n, got, e)
				}
				check(t, fmt.Sprintf("tape %d behind Append of %d bytes", i, n), d, want)
			}
		}
		if e := d.Append(nil); e != api.ErrArg {
			t.Errorf("P801: tape %d: Append of nil: %v", i, e)
		}
	}
}

// TestAppendTillFull goes from a blank tape to a full one.
func TestAppendTillFull(t *testing.T) {
	for most := range api.MaxBlocks + 1 {
		want := api.Tape{Label: 3, Cap: most}
		d := mustLoad(t, want)
		for n := range most {
			b := block(1+n%api.Wide, n)
			want.Blocks = append(want.Blocks, b)
			if e := d.Append(b); e != api.OK || d.Len() != n+1 || d.Room() != most-n-1 {
				t.Errorf("P801: Append of block %d of %d: %v", n, most, e)
			}
		}
		for _, x := range []struct {
			b []byte
			e api.Errno
		}{{[]byte{1}, api.ErrFull}, {block(94, 1), api.ErrFull}, {nil, api.ErrArg}, {[]byte{}, api.ErrArg}, {block(95, 1), api.ErrArg}} {
			if e := d.Append(x.b); e != x.e {
				t.Errorf("P801: Append of %d bytes to a full tape of %d: %v, want %v", len(x.b), most, e, x.e)
			}
		}
		check(t, fmt.Sprintf("a full tape of %d", most), d, want)
	}
}

// cutTape is the rule of Cut once more, by other means.
func cutTape(x api.Tape, n, some int) api.Tape {
	out := api.Tape{Label: x.Label, Cap: x.Cap}
	for i, b := range x.Blocks {
		switch {
		case i < n:
			out.Blocks = append(out.Blocks, bytes.Clone(b))
		case (i == n || i == 0) && some > 0:
			for len(b) > some {
				b = b[:len(b)-1]
			}
			out.Blocks = append(out.Blocks, bytes.Clone(b))
		}
	}
	return out
}

// cutAt are numbers below 0, each that there may be, and more.
func cutAt() []int {
	l := []int{math.MinInt, math.MinInt + 1, -64, -2, 65, 1 << 32, math.MaxInt - 1, math.MaxInt}
	for n := -1; n <= api.MaxBlocks; n++ {
		l = append(l, n)
	}
	return l
}

func TestCut(t *testing.T) {
	for i, x := range goodTapes() {
		for _, n := range cutAt() {
			for _, some := range []int{math.MinInt, -94, -1, 0, 1, 2, 3, 4, 14, 15, 16, 78, 79, 80, 93, 94, 95, 1 << 32, math.MaxInt} {
				what := fmt.Sprintf("tape %d behind Cut(%d, %d)", i, n, some)
				d, want := mustLoad(t, x), cutTape(x, n, some)
				d.Cut(n, some)
				check(t, what, d, want)
				if len(want.Blocks) < want.Cap {
					want.Blocks = append(want.Blocks, []byte{9, 8})
					if e := d.Append([]byte{9, 8}); e != api.OK {
						t.Errorf("P801: %s: Append: %v", what, e)
					}
					check(t, what+" and Append", d, want)
				}
			}
		}
	}
}

// TestCutPlainly says what the rule does, in answers written out.
func TestCutPlainly(t *testing.T) {
	all := [][]byte{{1, 2, 3}, {4, 5}, {6}}
	for _, x := range []struct {
		n, some int
		want    [][]byte
	}{
		{-1, 0, nil}, {-1, 2, [][]byte{{1, 2}}}, {-1, 3, all[:1]}, {0, -1, nil}, {0, 0, nil}, {0, 1, [][]byte{{1}}}, {0, 3, all[:1]}, {0, 4, all[:1]},
		{1, -1, all[:1]}, {1, 0, all[:1]}, {1, 1, [][]byte{{1, 2, 3}, {4}}}, {1, 2, all[:2]}, {1, 3, all[:2]}, {2, 0, all[:2]}, {2, 1, all}, {3, 0, all}, {3, 1, all}, {4, -1, all},
	} {
		d := mustLoad(t, api.Tape{Label: 1, Cap: 4, Blocks: all})
		d.Cut(x.n, x.some)
		check(t, fmt.Sprintf("Cut(%d, %d)", x.n, x.some), d, api.Tape{Label: 1, Cap: 4, Blocks: x.want})
	}
}

// TestGoneIsNotKept: nothing is left in a drive of the blocks that are gone.
func TestGoneIsNotKept(t *testing.T) {
	for i, x := range goodTapes() {
		blank := api.Tape{Label: x.Label, Cap: x.Cap}
		d := mustLoad(t, x)
		if d.Erase(); *d != *mustLoad(t, blank) {
			t.Errorf("P801: tape %d behind Erase is not as a blank one", i)
		}
		d = mustLoad(t, x)
		if d.Cut(1, 2); *d != *mustLoad(t, cutTape(x, 1, 2)) {
			t.Errorf("P801: tape %d behind Cut(1, 2) is not as one of what is left", i)
		}
	}
}

// TestCutTwice: what a cut has taken does not come again.
func TestCutTwice(t *testing.T) {
	d := mustLoad(t, api.Tape{Label: 1, Cap: 4, Blocks: rows(9, 9, 9)})
	want := api.Tape{Label: 1, Cap: 4, Blocks: [][]byte{block(9, 0), block(9, 1)[:5]}}
	d.Cut(1, 5)
	check(t, "Cut(1, 5)", d, want)
	d.Cut(1, 9)
	check(t, "Cut(1, 5) and Cut(1, 9)", d, want)
	d.Cut(3, 9)
	check(t, "a Cut behind the end", d, want)
	d.Cut(1, 2)
	want.Blocks[1] = want.Blocks[1][:2]
	check(t, "Cut(1, 2)", d, want)
	d.Rot(1, bytes.Repeat([]byte{255}, 94))
	want.Blocks[1] = []byte{^want.Blocks[1][0], ^want.Blocks[1][1]}
	check(t, "Rot of what a cut has left", d, want)
}

func turns() [][]byte {
	return [][]byte{nil, {}, {0}, {1}, {255}, {0, 0, 128}, {0xf0, 0x0f, 1}, bytes.Repeat([]byte{255}, 79), block(93, 5), block(94, 6), block(95, 7), block(3000, 8)}
}

func xored(b, turn []byte) []byte {
	out := bytes.Clone(b)
	for i := range out {
		if i < len(turn) {
			out[i] = out[i] ^ turn[i]
		}
	}
	return out
}

func TestRot(t *testing.T) {
	for i, x := range goodTapes() {
		for k, turn := range turns() {
			for n, b := range x.Blocks {
				what := fmt.Sprintf("tape %d behind Rot of block %d with turn %d", i, n, k)
				d, want := mustLoad(t, x), cloneTape(x)
				want.Blocks[n] = xored(b, turn)
				if e := d.Rot(n, turn); e != api.OK {
					t.Errorf("P801: %s: %v", what, e)
				}
				check(t, what, d, want)
				if e := d.Rot(n, turn); e != api.OK {
					t.Errorf("P801: %s, twice: %v", what, e)
				}
				check(t, what+", twice", d, x)
			}
			d := mustLoad(t, x)
			for _, n := range noBlocks(len(x.Blocks)) {
				if e := d.Rot(n, turn); e != api.ErrNone {
					t.Errorf("P801: tape %d: Rot of block %d: %v, want ErrNone", i, n, e)
				}
			}
			check(t, fmt.Sprintf("tape %d behind Rot of blocks that are not there", i), d, x)
		}
	}
}

// TestRotPlainly says what the rule does, in answers written out.
func TestRotPlainly(t *testing.T) {
	for i, x := range []struct{ b, turn, want []byte }{
		{[]byte{1, 2, 3}, nil, []byte{1, 2, 3}}, {[]byte{1, 2, 3}, []byte{0xf0, 1}, []byte{0xf1, 3, 3}}, {[]byte{1, 2, 3}, []byte{1, 2, 3}, []byte{0, 0, 0}},
		{[]byte{1, 2, 3}, []byte{0, 0, 1, 7}, []byte{1, 2, 2}}, {[]byte{255}, []byte{128, 1}, []byte{127}},
	} {
		d := mustLoad(t, api.Tape{Label: 1, Cap: 2, Blocks: [][]byte{{77}, x.b}})
		if e := d.Rot(1, x.turn); e != api.OK {
			t.Errorf("P801: Rot %d: %v", i, e)
		}
		check(t, fmt.Sprintf("Rot %d", i), d, api.Tape{Label: 1, Cap: 2, Blocks: [][]byte{{77}, x.want}})
	}
}

func TestErase(t *testing.T) {
	for i, x := range goodTapes() {
		d := mustLoad(t, x)
		want := api.Tape{Label: x.Label, Cap: x.Cap}
		for range 2 {
			if e := d.Erase(); e != api.OK {
				t.Errorf("P801: tape %d: Erase: %v", i, e)
			}
			check(t, fmt.Sprintf("tape %d behind Erase", i), d, want)
		}
		d.Cut(0, 94)
		check(t, fmt.Sprintf("tape %d behind Erase and Cut", i), d, want)
		for n := range x.Cap {
			b := block(1+n, n+3)
			want.Blocks = append(want.Blocks, b)
			if e := d.Append(b); e != api.OK {
				t.Errorf("P801: tape %d: Append behind Erase: %v", i, e)
			}
		}
		check(t, fmt.Sprintf("tape %d, erased and written", i), d, want)
		if again, e := tape.Load(d.Tape()); e != api.OK || !sameTape(again.Tape(), want) {
			t.Errorf("P801: tape %d: a tape of a drive, Loaded: %v", i, e)
		}
	}
}

func TestNilDrive(t *testing.T) {
	var d *tape.Drive
	for range 2 {
		if x := d.Tape(); !sameTape(x, api.Tape{}) {
			t.Errorf("P802: Tape of a nil one: %v", x)
		}
		if d.Len() != 0 || d.Room() != 0 {
			t.Errorf("P802: Len and Room of a nil one: %d, %d", d.Len(), d.Room())
		}
		for _, n := range append(noBlocks(0), 1, 5) {
			if b, e := d.Read(n); b != nil || e != api.ErrNone {
				t.Errorf("P802: Read(%d) of a nil one: %v, %v", n, b, e)
			}
			for _, turn := range turns() {
				if e := d.Rot(n, turn); e != api.ErrNone {
					t.Errorf("P802: Rot(%d) of a nil one: %v", n, e)
				}
			}
			for _, some := range []int{math.MinInt, -1, 0, 1, math.MaxInt} {
				d.Cut(n, some)
			}
		}
		for _, n := range []int{0, 1, 94, 95} {
			if e := d.Append(block(n, 1)); e != api.ErrNone {
				t.Errorf("P802: Append of %d bytes to a nil one: %v", n, e)
			}
		}
		if e := d.Erase(); e != api.ErrNone {
			t.Errorf("P802: Erase of a nil one: %v", e)
		}
	}
}

// turnAll makes each call that turns a drive, and leaves a tape that is turned in each of its blocks.
func turnAll(d *tape.Drive) {
	d.Rot(0, []byte{1, 2, 3})
	d.Rot(1, block(94, 3))
	d.Cut(2, 1)
	d.Append([]byte{1, 2, 3})
	d.Rot(2, []byte{255})
}

// TestTwoDrives: of two drives of one tape one is turned, and a copy of a drive goes on by itself.
func TestTwoDrives(t *testing.T) {
	x := api.Tape{Label: 4, Cap: 6, Blocks: rows(5, 94, 7, 1)}
	a, b := mustLoad(t, x), mustLoad(t, x)
	copied := *a
	turnAll(a)
	check(t, "P802: a drive beside one that was turned", b, x)
	check(t, "P802: a copy of a drive that was turned", &copied, x)
	was := a.Tape()
	copied.Append([]byte{4})
	turnAll(&copied)
	copied.Erase()
	check(t, "P802: a drive whose copy was turned", a, was)
	b.Erase()
	check(t, "P802: a drive beside one that was erased", a, was)
	a.Erase()
	for n := range 6 {
		a.Append([]byte{byte(n), 1})
		b.Append([]byte{byte(n), 2})
	}
	check(t, "P802: two drives written side by side", a, api.Tape{Label: 4, Cap: 6, Blocks: [][]byte{{0, 1}, {1, 1}, {2, 1}, {3, 1}, {4, 1}, {5, 1}}})
	check(t, "P802: two drives written side by side", b, api.Tape{Label: 4, Cap: 6, Blocks: [][]byte{{0, 2}, {1, 2}, {2, 2}, {3, 2}, {4, 2}, {5, 2}}})
}

// TestDriveOfDrive: a drive of another's tape has nothing in common with it.
func TestDriveOfDrive(t *testing.T) {
	x := api.Tape{Label: 4, Cap: 6, Blocks: rows(5, 94, 7)}
	a := mustLoad(t, x)
	b := mustLoad(t, a.Tape())
	turnAll(b)
	check(t, "P802: a drive whose tape was turned in another one", a, x)
}

// TestLoadNotKept: what is handed in to Load stays as it is, with its spare room, and its owner may turn it.
func TestLoadNotKept(t *testing.T) {
	first, firstWhole := roomy([]byte{1, 2, 3})
	second, secondWhole := roomy([]byte{4})
	spare := []byte{9, 9}
	room := [][]byte{first, second, spare, nil}
	want := api.Tape{Label: 2, Cap: 4, Blocks: [][]byte{{1, 2, 3}, {4}}}
	d := mustLoad(t, api.Tape{Label: 2, Cap: 4, Blocks: room[:2]})
	d.Append([]byte{7, 7, 7})
	d.Rot(0, []byte{1, 1, 1, 1})
	d.Rot(1, []byte{1})
	d.Cut(0, 1)
	d.Erase()
	d.Append([]byte{8})
	whole := slices.Concat(firstWhole, secondWhole)
	if !bytes.Equal(whole, slices.Concat([]byte{1, 2, 3}, bytes.Repeat([]byte{0xee}, 100), []byte{4}, bytes.Repeat([]byte{0xee}, 100))) {
		t.Errorf("P802: a block that was handed in to Load, or its spare room, has turned: %v", whole)
	}
	if !slices.EqualFunc(room, [][]byte{{1, 2, 3}, {4}, {9, 9}, nil}, bytes.Equal) || &room[0][0] != &first[0] || &room[2][0] != &spare[0] {
		t.Errorf("P802: the row of blocks that was handed in to Load, or its spare room, has turned: %v", room)
	}
	d = mustLoad(t, api.Tape{Label: 2, Cap: 4, Blocks: room[:2]})
	first[0], second[0], room[0] = 99, 99, []byte{77}
	check(t, "P802: a tape whose owner has turned it", d, want)
}

// TestAppendRotNotKept: what is handed in to Append and Rot, likewise.
func TestAppendRotNotKept(t *testing.T) {
	d := mustLoad(t, api.Tape{Label: 2, Cap: 4, Blocks: rows(5)})
	b, whole := roomy([]byte{1, 2, 3})
	was := bytes.Clone(whole)
	d.Append(b)
	d.Rot(1, []byte{8, 8, 8, 8})
	d.Cut(1, 2)
	if !bytes.Equal(whole, was) {
		t.Errorf("P802: what was handed in to Append, or its spare room, has turned: %v", whole)
	}
	b[0], b[1] = 99, 99
	check(t, "P802: a block whose owner has turned it", d, api.Tape{Label: 2, Cap: 4, Blocks: [][]byte{block(5, 0), {9, 10}}})
	turn, whole := roomy([]byte{1, 2})
	was = bytes.Clone(whole)
	d.Rot(1, turn)
	d.Rot(0, turn)
	if !bytes.Equal(whole, was) {
		t.Errorf("P802: what was handed in to Rot, or its spare room, has turned: %v", whole)
	}
	turn[0], turn[1] = 99, 99
	check(t, "P802: a turn whose owner has turned it", d, api.Tape{Label: 2, Cap: 4, Blocks: [][]byte{xored(block(5, 0), []byte{1, 2}), {8, 8}}})
}

// TestAppendOfOwn: a block that was read is appended and rots another one.
func TestAppendOfOwn(t *testing.T) {
	d := mustLoad(t, api.Tape{Label: 2, Cap: 4, Blocks: rows(5, 3)})
	b, _ := d.Read(0)
	d.Append(b)
	d.Rot(0, b)
	d.Rot(2, []byte{1})
	check(t, "P802: a block that was read, appended", d, api.Tape{Label: 2, Cap: 4, Blocks: [][]byte{make([]byte, 5), block(3, 1), xored(block(5, 0), []byte{1})}})
	if !bytes.Equal(b, block(5, 0)) {
		t.Errorf("P802: a block that was read has turned: %v", b)
	}
}

// scribble turns all of a list, its spare room too.
func scribble(b []byte) {
	b = b[:cap(b)]
	for i := range b {
		b[i] = 0x5a
	}
}

// TestAnswersAreNew: who has an answer turns it, and neither the drive nor another answer is turned by that.
func TestAnswersAreNew(t *testing.T) {
	x := api.Tape{Label: 4, Cap: 64, Blocks: rows(5, 94, 7, 1, 33, 32, 8)}
	d := mustLoad(t, x)
	kept := d.Tape()
	keptBlock, _ := d.Read(1)
	for n := range x.Blocks {
		answer := d.Tape()
		scribble(answer.Blocks[n])
		for k, b := range answer.Blocks {
			if k != n && !bytes.Equal(b, x.Blocks[k]) {
				t.Errorf("P802: blocks %d and %d of one answer share memory", n, k)
			}
		}
		clear(answer.Blocks)
		_ = append(answer.Blocks[:0], []byte{1}, []byte{2})
		b, _ := d.Read(n)
		scribble(b)
	}
	check(t, "P802: a drive whose answers were turned", d, x)
	turnAll(d)
	d.Erase()
	d.Append([]byte{1})
	if !sameTape(kept, x) || !bytes.Equal(keptBlock, x.Blocks[1]) {
		t.Error("P802: an answer has turned with its drive")
	}
}

// TestErrorsTurnNothing: behind calls that answer an error a drive is as it was.
func TestErrorsTurnNothing(t *testing.T) {
	for i, x := range goodTapes() {
		d := mustLoad(t, x)
		for range 3 {
			d.Append(nil)
			d.Append(block(95, 1))
			d.Rot(-1, []byte{1})
			d.Rot(len(x.Blocks), []byte{1})
			d.Read(-1)
			d.Read(len(x.Blocks))
			d.Cut(len(x.Blocks), 1)
			d.Cut(math.MaxInt, 0)
			if len(x.Blocks) == x.Cap {
				d.Append([]byte{1})
			}
		}
		check(t, fmt.Sprintf("tape %d behind calls that answer errors", i), d, x)
	}
}

// walk makes a row of calls that hangs on seed alone, beside the same done to a tape by other means.
func walk(t *testing.T, seed, steps int) api.Tape {
	next := uint32(seed)*2654435761 + 1
	pick := func(n int) int {
		next = next*1664525 + 1013904223
		return int(next>>8) % n
	}
	want := api.Tape{Label: 1 + seed, Cap: pick(api.MaxBlocks + 1)}
	d, e := tape.Load(want)
	if e != api.OK {
		t.Errorf("P801: walk %d: Load: %v", seed, e)
		return api.Tape{}
	}
	for step := range steps {
		what := fmt.Sprintf("walk %d, step %d", seed, step)
		switch n, some := pick(api.MaxBlocks+4)-2, pick(api.Wide+4)-1; pick(12) {
		case 0:
			want = cutTape(want, n, some)
			d.Cut(n, some)
		case 1:
			if pick(8) == 0 {
				want.Blocks = nil
				d.Erase()
			}
		case 2, 3, 4:
			e, turn := api.ErrNone, block(max(some, 0), step)
			if n >= 0 && n < len(want.Blocks) {
				want.Blocks[n] = xored(want.Blocks[n], turn)
				e = api.OK
			}
			if got := d.Rot(n, turn); got != e {
				t.Errorf("P801: %s: Rot(%d): %v, want %v", what, n, got, e)
			}
		default:
			b := block(max(some, 0), step)
			if len(b) >= 1 && len(b) <= api.Wide && len(want.Blocks) < want.Cap {
				want.Blocks = append(want.Blocks, bytes.Clone(b))
			}
			d.Append(b)
			scribble(b)
		}
		check(t, what, d, want)
	}
	return d.Tape()
}

func TestWalks(t *testing.T) {
	for seed := range 40 {
		if a, b := walk(t, seed, 150), walk(t, seed, 150); !sameTape(a, b) {
			t.Errorf("P802: walk %d ends otherwise the second time", seed)
		}
	}
}

// TestBesideOthers: drives in goroutines of their own, and one that all ask.
func TestBesideOthers(t *testing.T) {
	x := goodTapes()[11]
	shared := mustLoad(t, x)
	var all sync.WaitGroup
	for worker := range 8 {
		all.Go(func() {
			for round := range 4 {
				walk(t, worker*10+round, 60)
				check(t, "one that all ask", shared, x)
			}
		})
	}
	all.Wait()
}
