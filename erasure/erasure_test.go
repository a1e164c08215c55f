package erasure_test

import (
	"bytes"
	"math"
	"math/bits"
	"slices"
	"sync"
	"testing"

	"cartridge/api"
	"cartridge/erasure"
	"cartridge/gf"
	"cartridge/matrix"
)

// filled makes rows of bytes that hang on seed alone.
func filled(seed uint32, rows, size int) [][]byte {
	l := make([][]byte, rows)
	for i := range l {
		l[i] = make([]byte, size)
		for at := range l[i] {
			seed = seed*1664525 + 1013904223
			l[i][at] = byte(seed >> 20)
		}
	}
	return l
}

// parityOf reckons parity by the meaning of a Cauchy's row, so that nothing here leans on what is
// tested.
func parityOf(data [][]byte, parity int) [][]byte {
	rows := make([][]byte, parity)
	for i := range rows {
		rows[i] = make([]byte, len(data[0]))
		for j, row := range data {
			factor := gf.Inv(byte(i) ^ byte(parity+j))
			for at, b := range row {
				rows[i][at] ^= gf.Mul(factor, b)
			}
		}
	}
	return rows
}

func same(a, b [][]byte) bool { return slices.EqualFunc(a, b, bytes.Equal) }

func copied(l [][]byte) [][]byte {
	rows := make([][]byte, len(l))
	for i, row := range l {
		rows[i] = slices.Clone(row)
	}
	return rows
}

// without answers a copy of all rows, those of a number's bits missing.
func without(all [][]byte, number int) [][]byte {
	rows := copied(all)
	for i := range rows {
		if number>>i&1 == 1 {
			rows[i] = nil
		}
	}
	return rows
}

func refused(t *testing.T, what string, got [][]byte, err, want api.Errno) {
	t.Helper()
	if err != want {
		t.Errorf("P301: %s: error %d, not %d", what, err, want)
	}
	if len(got) != 0 {
		t.Errorf("P301: %s: an answer beside error %d", what, err)
	}
}

func encoded(t *testing.T, data [][]byte, parity int) [][]byte {
	t.Helper()
	got, err := erasure.Encode(data, parity)
	if err != api.OK {
		t.Fatalf("P301: Encode of %d rows, parity %d: error %d", len(data), parity, err)
	}
	return got
}

func TestEncodeByHand(t *testing.T) {
	for _, c := range []struct {
		data, want [][]byte
	}{
		{[][]byte{{1, 2, 255}}, [][]byte{{1, 2, 255}}},     // 1 / (0 + 1)
		{[][]byte{{1, 2}}, [][]byte{{142, 1}, {244, 245}}}, // 1 / 2 and 1 / 3
		{[][]byte{{5}, {0}}, [][]byte{{5}}},                // 1 / 1 times 5
		{[][]byte{{0}, {2}}, [][]byte{{1}}},                // 1 / 2 times 2
		{[][]byte{{5}, {2}}, [][]byte{{4}}},                // both
		{[][]byte{{2, 0}, {0, 3}}, [][]byte{{1, 1}, {245, 143}}},
		{[][]byte{{0, 0}, {0, 0}}, [][]byte{{0, 0}, {0, 0}, {0, 0}}},
	} {
		got, err := erasure.Encode(c.data, len(c.want))
		if err != api.OK || !same(got, c.want) {
			t.Errorf("P301: Encode of %v: %v, error %d", c.data, got, err)
		}
	}
}

func TestEncode(t *testing.T) {
	for data := 1; data <= 6; data++ {
		for parity := range 6 {
			for _, size := range []int{0, 1, 2, 17, 255, 256, 300} {
				checkEncode(t, data, parity, size)
			}
		}
	}
	// All that there may be, and one less, from either end.
	for _, c := range [][2]int{{1, 253}, {1, 254}, {2, 253}, {128, 127}, {127, 128}, {253, 2}, {254, 1}, {253, 1}, {255, 0}, {254, 0}} {
		checkEncode(t, c[0], c[1], 3)
		checkEncode(t, c[0], c[1], 0)
	}
}

func checkEncode(t *testing.T, data, parity, size int) {
	t.Helper()
	rows := filled(uint32(data*31+parity*7+size), data, size)
	got := encoded(t, rows, parity)
	if !same(got, parityOf(rows, parity)) {
		t.Errorf("P301: Encode of %d rows of %d, parity %d", data, size, parity)
	}
	for i, row := range got {
		if len(row) != size {
			t.Errorf("P301: Encode of rows of %d bytes: row %d has %d", size, i, len(row))
		}
	}
}

func TestEncodeIsApplyOfCauchy(t *testing.T) {
	data := filled(1, 5, 4)
	got := encoded(t, data, 3)
	rule, err := matrix.Cauchy(5, 3)
	if err != api.OK {
		t.Fatalf("Cauchy: error %d", err)
	}
	for at := range data[0] {
		var column, want []byte
		for _, row := range data {
			column = append(column, row[at])
		}
		for _, row := range got {
			want = append(want, row[at])
		}
		if made, err := matrix.Apply(rule, column); err != api.OK || !bytes.Equal(made, want) {
			t.Errorf("P301: Encode, byte %d: %v, and by Apply %v", at, want, made)
		}
	}
}

func TestEncodeOfOneRowTwice(t *testing.T) {
	row := []byte{1, 2, 3}
	if got := encoded(t, [][]byte{row, row, row}, 2); !same(got, parityOf([][]byte{row, row, row}, 2)) {
		t.Errorf("P301: Encode of one row three times: %v", got)
	}
}

func TestEncodeRefusesRows(t *testing.T) {
	for _, c := range []struct {
		name string
		data [][]byte
	}{
		{"nil", nil},
		{"no rows", [][]byte{}},
		{"first shorter", [][]byte{{1}, {1, 2}, {1, 2}}},
		{"first longer", [][]byte{{1, 2, 3}, {1, 2}, {1, 2}}},
		{"first nil", [][]byte{nil, {1, 2}}},
		{"middle shorter", [][]byte{{1, 2}, {1}, {1, 2}}},
		{"middle longer", [][]byte{{1, 2}, {1, 2, 3}, {1, 2}}},
		{"last shorter", [][]byte{{1, 2}, {1, 2}, {1}}},
		{"last longer", [][]byte{{1, 2}, {1, 2}, {1, 2, 3}}},
		{"last empty", [][]byte{{1}, {}}},
		{"last of empty ones not", [][]byte{nil, {}, {1}}},
		{"256 rows", filled(2, 256, 1)},
		{"256 rows of no bytes", make([][]byte, 256)},
		{"257 rows", filled(2, 257, 1)},
		{"512 rows", filled(2, 512, 1)},
	} {
		for _, parity := range []int{0, 1, 2, -1, math.MinInt, math.MaxInt, -255, -256} {
			got, err := erasure.Encode(c.data, parity)
			refused(t, "Encode of "+c.name, got, err, api.ErrArg)
		}
	}
}

func TestEncodeRefusesParity(t *testing.T) {
	for _, rows := range []int{1, 2, 3, 127, 128, 253, 254, 255} {
		for _, parity := range []int{
			256 - rows, 257 - rows, 255, 256, 257, 512, 512 - rows, 1 << 32, math.MaxInt - 255, math.MaxInt - rows, math.MaxInt - 1, math.MaxInt,
			-1, -2, -rows, -255, -256, -257, -1 << 32, math.MinInt + 255, math.MinInt + 1, math.MinInt,
		} {
			for _, size := range []int{0, 1, 2} {
				got, err := erasure.Encode(filled(3, rows, size), parity)
				refused(t, "Encode, another parity", got, err, api.ErrArg)
			}
		}
	}
}

// Each choice of missing rows of each small Encode: as many as there is parity, and more.
func TestDecodeOfEachChoice(t *testing.T) {
	for data := 1; data <= 5; data++ {
		for parity := 0; parity <= 5; parity++ {
			rows := filled(uint32(data*10+parity), data, 3)
			all := slices.Concat(rows, encoded(t, rows, parity))
			for missing := range 1 << len(all) {
				checkChoice(t, rows, without(all, missing), bits.OnesCount(uint(missing)))
			}
		}
	}
}

func checkChoice(t *testing.T, data, have [][]byte, missing int) {
	t.Helper()
	got, err := erasure.Decode(have, len(data))
	switch {
	case missing == len(have):
		refused(t, "Decode, none there", got, err, api.ErrArg)
	case missing > len(have)-len(data):
		refused(t, "Decode, too many missing", got, err, api.ErrMany)
	case err != api.OK || !same(got, data):
		t.Fatalf("P302: Decode of %v: %v, error %d, not %v", have, got, err, data)
	}
}

func TestDecodeOfTheExample(t *testing.T) {
	row := []byte{7, 0, 200}
	parity := encoded(t, [][]byte{row}, 1)
	got, err := erasure.Decode([][]byte{nil, parity[0]}, 1)
	if err != api.OK || !same(got, [][]byte{row}) {
		t.Errorf("P302: Decode of one parity row alone: %v, error %d", got, err)
	}
}

// span makes a row missing from place from up to place to.
func span(all [][]byte, from, to int) [][]byte {
	rows := copied(all)
	clear(rows[from:to])
	return rows
}

func TestDecodeOfGreatOnes(t *testing.T) {
	for _, c := range [][2]int{{1, 254}, {2, 253}, {128, 127}, {127, 128}, {253, 2}, {254, 1}} {
		data, parity := c[0], c[1]
		rows := filled(4, data, 3)
		all := slices.Concat(rows, encoded(t, rows, parity))
		checkChoice(t, rows, all, 0)
		checkChoice(t, rows, span(all, 0, parity), parity)
		checkChoice(t, rows, span(all, data, 255), parity)
		checkChoice(t, rows, span(all, 255-parity-1, 254), parity)
		checkChoice(t, rows, span(all, 0, parity+1), parity+1)
		checkChoice(t, rows, span(all, data-1, 255), parity+1)
		checkChoice(t, rows, span(all, 0, 255), 255)
	}
}

func TestDecodeOfLongRows(t *testing.T) {
	rows := filled(5, 3, 1000)
	all := slices.Concat(rows, encoded(t, rows, 2))
	checkChoice(t, rows, without(all, 0b00101), 2)
}

func TestDecodeOfAllThatMayBe(t *testing.T) {
	rows := filled(6, 255, 2)
	got, err := erasure.Decode(rows, 255)
	if err != api.OK || !same(got, rows) {
		t.Errorf("P301: Decode of 255 data rows: error %d", err)
	}
	rows[254] = nil
	got, err = erasure.Decode(rows, 255)
	refused(t, "Decode of 255 data rows, the last one missing", got, err, api.ErrMany)
	got, err = erasure.Decode(rows, 254)
	if err != api.OK || !same(got, rows[:254]) {
		t.Errorf("P301: Decode of 254 data rows, parity missing: error %d", err)
	}
}

// Rows may be missing as nil, as an empty list, and as one that has room.
func TestDecodeOfWaysToBeMissing(t *testing.T) {
	rows := filled(7, 3, 4)
	all := slices.Concat(rows, encoded(t, rows, 3))
	for _, none := range [][]byte{nil, {}, make([]byte, 0, 4), []byte{9, 9, 9, 9, 9}[:0]} {
		have := [][]byte{none, all[1], none, all[3], none, all[5]}
		got, err := erasure.Decode(have, 3)
		if err != api.OK || !same(got, rows) {
			t.Errorf("P302: Decode: %v, error %d", got, err)
		}
		got, err = erasure.Decode([][]byte{none, none, none}, 2)
		refused(t, "Decode, none there", got, err, api.ErrArg)
		got, err = erasure.Decode([][]byte{none, {1}, none}, 2)
		refused(t, "Decode, too many missing", got, err, api.ErrMany)
	}
}

// A row of bytes 0 is there.
func TestDecodeOfZeros(t *testing.T) {
	have := [][]byte{{0, 0}, nil, {0, 0}}
	got, err := erasure.Decode(have, 2)
	if err != api.OK || !same(got, [][]byte{{0, 0}, {0, 0}}) {
		t.Errorf("P301: Decode of bytes 0: %v, error %d", got, err)
	}
}

// The rows are of no Encode, so that which of them are used is to be seen: the answer has the data
// rows that are used, its parity is the parity rows that are used, and no other answer has both.
func TestDecodeUsesTheFirst(t *testing.T) {
	for data := 1; data <= 4; data++ {
		for parity := 0; parity <= 4; parity++ {
			all := filled(uint32(data*100+parity), data+parity, 2)
			for missing := range 1 << len(all) {
				if bits.OnesCount(uint(missing)) <= parity {
					checkFirst(t, without(all, missing), data)
				}
			}
		}
	}
}

func checkFirst(t *testing.T, have [][]byte, data int) {
	t.Helper()
	got, err := erasure.Decode(have, data)
	if err != api.OK || len(got) != data || len(got[0]) != 2 {
		t.Fatalf("P301: Decode of %v: %v, error %d", have, got, err)
	}
	whole := slices.Concat(got, parityOf(got, len(have)-data))
	used := 0
	for i, row := range have {
		if len(row) == 0 || used == data {
			continue
		}
		used++
		if !bytes.Equal(whole[i], row) {
			t.Fatalf("P301: Decode of %v: %v, which makes row %d %v", have, got, i, whole[i])
		}
	}
}

func TestDecodeHangsOnNoOtherRow(t *testing.T) {
	rows := filled(8, 3, 2)
	all := slices.Concat(rows, encoded(t, rows, 4))
	for missing := range 1 << len(all) {
		have := without(all, missing)
		if len(have)-bits.OnesCount(uint(missing)) < 4 {
			continue
		}
		used := 0
		for i, row := range have {
			if len(row) > 0 && used == 3 {
				have[i] = []byte{row[0] ^ 0x55, row[1] ^ 1}
			} else if len(row) > 0 {
				used++
			}
		}
		got, err := erasure.Decode(have, 3)
		if err != api.OK || !same(got, rows) {
			t.Fatalf("P301: Decode of %v: %v, error %d: not the first ones are used", have, got, err)
		}
	}
}

func TestDecodeRefusesData(t *testing.T) {
	for _, count := range []int{0, 1, 2, 3, 254, 255} {
		for _, data := range []int{0, -1, -2, -255, -256, math.MinInt, math.MinInt + 1, count + 1, count + 2, 256, 257, 1 << 32, math.MaxInt - 1, math.MaxInt} {
			got, err := erasure.Decode(filled(9, count, 2), data)
			refused(t, "Decode, another number of data", got, err, api.ErrArg)
			// Here fewer than data are there, too, and that is told last.
			got, err = erasure.Decode(append(filled(9, 1, 2), make([][]byte, max(count, 1)-1)...), min(data, -data))
			refused(t, "Decode, data below 1, all but one missing", got, err, api.ErrArg)
		}
	}
	got, err := erasure.Decode([][]byte{{1}, nil, nil}, 4)
	refused(t, "Decode, data above how many there are", got, err, api.ErrArg)
	got, err = erasure.Decode([][]byte{{1}, nil, nil}, 3)
	refused(t, "Decode, as many data as there are", got, err, api.ErrMany)
}

func TestDecodeRefusesMoreThan255(t *testing.T) {
	for _, count := range []int{256, 257, 512} {
		for _, data := range []int{1, 2, 3, 127, 254, 255, 256, count, count + 1, 0, -1} {
			got, err := erasure.Decode(filled(10, count, 2), data)
			refused(t, "Decode of more than 255", got, err, api.ErrArg)
			got, err = erasure.Decode(make([][]byte, count), data)
			refused(t, "Decode of more than 255, none there", got, err, api.ErrArg)
			got, err = erasure.Decode(append(make([][]byte, count-1), []byte{1}), data)
			refused(t, "Decode of more than 255, one there", got, err, api.ErrArg)
		}
	}
}

func TestDecodeRefusesUnlikeRows(t *testing.T) {
	for _, c := range []struct {
		name string
		have [][]byte
	}{
		{"first shorter", [][]byte{{1}, {1, 2}, {1, 2}}},
		{"first longer", [][]byte{{1, 2, 3}, {1, 2}, {1, 2}}},
		{"middle shorter", [][]byte{{1, 2}, {1}, {1, 2}}},
		{"last shorter", [][]byte{{1, 2}, {1, 2}, {1}}},
		{"last longer", [][]byte{{1, 2}, {1, 2}, {1, 2, 3}}},
		{"missing ones between", [][]byte{nil, {1, 2}, nil, nil, {1}, nil}},
		{"last of many", append(filled(11, 254, 2), []byte{1})},
	} {
		// Each number of data: those that leave the unlike row unused, and those that are too many.
		for data := 1; data <= len(c.have); data++ {
			got, err := erasure.Decode(c.have, data)
			refused(t, "Decode, "+c.name, got, err, api.ErrArg)
		}
	}
}

func TestDecodeRefusesWhereNoneIsThere(t *testing.T) {
	for _, count := range []int{0, 1, 2, 3, 255} {
		for data := range count + 2 {
			got, err := erasure.Decode(make([][]byte, count), data)
			refused(t, "Decode, none there", got, err, api.ErrArg)
		}
	}
	// Rows of no bytes are none that are there, though an Encode made them.
	all := slices.Concat(make([][]byte, 2), encoded(t, make([][]byte, 2), 2))
	got, err := erasure.Decode(all, 2)
	refused(t, "Decode of rows of no bytes", got, err, api.ErrArg)
}

// guarded lays l into lists that have spare room, rows and list alike, all of it filled.
func guarded(l [][]byte) [][]byte {
	rows := make([][]byte, 0, len(l)+2)
	for i, row := range l {
		wide := append(slices.Clone(row), 0xa5, byte(i), 0x5a)
		rows = append(rows, wide[:len(row):len(row)+3])
	}
	spare := append(rows, []byte{1, 2}, []byte{3})
	return spare[:len(l)]
}

// whole answers all that l's memory holds, its spare room too, in memory of its own.
func whole(l [][]byte) [][]byte {
	var rows [][]byte
	for _, row := range l[:cap(l)] {
		rows = append(rows, slices.Clone(row[:cap(row)]))
	}
	return rows
}

func turn(row []byte) {
	for at := range row[:cap(row)] {
		row[:cap(row)][at] ^= 0xff
	}
}

// scribble writes over all that memory holds, its spare room too.
func scribble(l [][]byte) {
	for _, row := range l {
		turn(row)
	}
	clear(l[:cap(l)])
}

type call struct {
	name string
	do   func(l [][]byte, n int) ([][]byte, api.Errno)
	rows [][]byte
	n    int
}

// calls answers calls that are answered, and calls that are refused for each reason.
func calls() []call {
	rows := filled(12, 3, 5)
	all := slices.Concat(rows, parityOf(rows, 3))
	unlike := append(filled(13, 2, 2), []byte{1})
	row := []byte{1, 2, 3}
	return []call{
		{"Encode", erasure.Encode, rows, 3},
		{"Encode, one parity", erasure.Encode, rows, 1},
		{"Encode, one row and one parity", erasure.Encode, rows[:1], 1},
		{"Encode, no parity", erasure.Encode, rows, 0},
		{"Encode of one row twice", erasure.Encode, [][]byte{row, row}, 2},
		{"Encode of rows of no bytes", erasure.Encode, make([][]byte, 2), 2},
		{"Encode of nothing", erasure.Encode, nil, 1},
		{"Encode of unlike rows", erasure.Encode, unlike, 1},
		{"Encode, parity below 0", erasure.Encode, rows, -1},
		{"Encode, more than 255", erasure.Encode, rows, 253},
		{"Decode, all there", erasure.Decode, all, 3},
		{"Decode, data alone", erasure.Decode, rows, 3},
		{"Decode, one row", erasure.Decode, rows[:1], 1},
		{"Decode, parity alone", erasure.Decode, without(all, 0b000111), 3},
		{"Decode, some there", erasure.Decode, without(all, 0b010010), 3},
		{"Decode, just enough", erasure.Decode, without(all, 0b100101), 3},
		{"Decode, one parity row alone", erasure.Decode, [][]byte{nil, row}, 1},
		{"Decode of one row twice", erasure.Decode, [][]byte{row, row, nil}, 2},
		{"Decode, too many missing", erasure.Decode, without(all, 0b011011), 3},
		{"Decode, none there", erasure.Decode, make([][]byte, 4), 3},
		{"Decode of nothing", erasure.Decode, nil, 1},
		{"Decode, data below 1", erasure.Decode, all, 0},
		{"Decode, data above", erasure.Decode, all, 7},
		{"Decode, more than 255", erasure.Decode, filled(14, 256, 1), 3},
		{"Decode of unlike rows", erasure.Decode, unlike, 1},
	}
}

func TestWhatIsHandedInStays(t *testing.T) {
	for _, c := range calls() {
		l := guarded(c.rows)
		rows := slices.Clone(l[:cap(l)])
		was := whole(l)
		got, _ := c.do(l, c.n)
		if !same(whole(l), was) {
			t.Errorf("P302: %s changed what was handed in", c.name)
		}
		for i, row := range l[:cap(l)] {
			if &row[:1][0] != &rows[i][:1][0] || len(row) != len(rows[i]) || cap(row) != cap(rows[i]) {
				t.Errorf("P302: %s laid another row into what was handed in", c.name)
			}
		}
		scribble(got)
		if !same(whole(l), was) {
			t.Errorf("P302: what %s answers shares memory with what was handed in", c.name)
		}
	}
}

func TestAnswersAreNewMemory(t *testing.T) {
	for _, c := range calls() {
		for _, l := range [][][]byte{guarded(c.rows), copied(c.rows), c.rows} {
			first, err := c.do(l, c.n)
			want := copied(first)
			scribble(first)
			second, again := c.do(l, c.n)
			if again != err || !same(second, want) {
				t.Fatalf("P302: %s answers otherwise behind a change of its answer", c.name)
			}
			// What is handed in is not kept either: a change of it doesn't reach the answer.
			was := copied(l)
			for _, row := range l {
				turn(row)
			}
			if !same(second, want) {
				t.Errorf("P302: %s keeps what was handed in", c.name)
			}
			for i, row := range l {
				copy(row, was[i])
			}
		}
	}
}

// One row handed in twice is two lists in an answer.
func TestRowsOfAnAnswerAreTheirOwn(t *testing.T) {
	for _, c := range calls() {
		got, _ := c.do(c.rows, c.n)
		for i, row := range got {
			was := copied(got)
			turn(row)
			for k := range got {
				if k != i && !bytes.Equal(got[k], was[k]) {
					t.Fatalf("P302: rows %d and %d of what %s answers share memory", i, k, c.name)
				}
			}
		}
	}
}

type told struct {
	rows [][]byte
	err  api.Errno
}

func everything(backwards bool) []told {
	list := calls()
	if backwards {
		slices.Reverse(list)
	}
	var answers []told
	for _, c := range list {
		rows, err := c.do(c.rows, c.n)
		answers = append(answers, told{rows, err})
	}
	if backwards {
		slices.Reverse(answers)
	}
	return answers
}

func sameTold(a, b []told) bool {
	return slices.EqualFunc(a, b, func(x, y told) bool { return x.err == y.err && same(x.rows, y.rows) })
}

func TestAnswersHangOnArgumentsAlone(t *testing.T) {
	first := everything(false)
	if !sameTold(everything(false), first) {
		t.Error("P302: the same calls once more answer otherwise")
	}
	if !sameTold(everything(true), first) {
		t.Error("P302: the same calls in another order answer otherwise")
	}
	var alike [4]bool
	var workers sync.WaitGroup
	for i := range alike {
		workers.Go(func() { alike[i] = sameTold(everything(false), first) })
	}
	workers.Wait()
	for i, ok := range alike {
		if !ok {
			t.Errorf("P302: worker %d was answered otherwise", i)
		}
	}
}
