package matrix_test

import (
	"bytes"
	"math"
	"slices"
	"sync"
	"testing"

	"cartridge/api"
	"cartridge/gf"
	"cartridge/matrix"
)

// filled makes rows of elements that hang on seed alone.
func filled(seed uint32, rows, columns int) [][]byte {
	m := make([][]byte, rows)
	for i := range m {
		m[i] = make([]byte, columns)
		for j := range m[i] {
			seed = seed*1664525 + 1013904223
			m[i][j] = byte(seed >> 20)
		}
	}
	return m
}

// product multiplies by the meaning of a product, element by element.
func product(a, b [][]byte) [][]byte {
	var rows [][]byte
	for i := range a {
		var row []byte
		for j := range b[0] {
			var sum byte
			for k := range b {
				sum = gf.Add(sum, gf.Mul(a[i][k], b[k][j]))
			}
			row = append(row, sum)
		}
		rows = append(rows, row)
	}
	return rows
}

func asColumn(v []byte) [][]byte {
	var rows [][]byte
	for _, element := range v {
		rows = append(rows, []byte{element})
	}
	return rows
}

// diagonal has these elements where row and column are one, else 0.
func diagonal(elements ...byte) [][]byte {
	rows := make([][]byte, len(elements))
	for i, element := range elements {
		rows[i] = make([]byte, len(elements))
		rows[i][i] = element
	}
	return rows
}

func unit(n int) [][]byte { return diagonal(bytes.Repeat([]byte{1}, n)...) }

func same(a, b [][]byte) bool { return slices.EqualFunc(a, b, bytes.Equal) }

func copied(m [][]byte) [][]byte {
	rows := make([][]byte, len(m))
	for i, row := range m {
		rows[i] = slices.Clone(row)
	}
	return rows
}

// without answers m without a row and a column.
func without(m [][]byte, row, column int) [][]byte {
	rows := slices.Delete(copied(m), row, row+1)
	for i := range rows {
		rows[i] = slices.Delete(rows[i], column, column+1)
	}
	return rows
}

// determinant is 0 where there is no inverse, and nowhere else. (Signs mean nothing in this field.)
func determinant(m [][]byte) byte {
	if len(m) == 1 {
		return m[0][0]
	}
	var sum byte
	for j, element := range m[0] {
		if element != 0 {
			sum = gf.Add(sum, gf.Mul(element, determinant(without(m, 0, j))))
		}
	}
	return sum
}

// unlike answers rows of so many elements, but one row.
func unlike(rows, columns, at, other int) [][]byte {
	m := filled(9, rows, columns)
	m[at] = make([]byte, other)
	return m
}

type named struct {
	name string
	m    [][]byte
}

func wrong() []named {
	return []named{
		{"nil", nil},
		{"no rows", [][]byte{}},
		{"one nil row", [][]byte{nil}},
		{"one row of no elements", [][]byte{{}}},
		{"255 rows of no elements", make([][]byte, 255)},
		{"a row of 256", filled(1, 1, 256)},
		{"a row of 512", filled(1, 1, 512)},
		{"255 rows of 256", filled(1, 255, 256)},
		{"256 rows of 1", filled(1, 256, 1)},
		{"257 rows of 1", filled(1, 257, 1)},
		{"256 rows of 255", filled(1, 256, 255)},
		{"256 rows of 256", filled(1, 256, 256)},
		{"first row shorter", unlike(3, 3, 0, 2)},
		{"first row longer", unlike(3, 3, 0, 4)},
		{"middle row shorter", unlike(3, 3, 1, 2)},
		{"middle row longer", unlike(3, 3, 1, 4)},
		{"last row shorter", unlike(3, 3, 2, 2)},
		{"last row longer", unlike(3, 3, 2, 4)},
		{"first row empty", unlike(2, 1, 0, 0)},
		{"last row empty", unlike(2, 1, 1, 0)},
		{"last of 255 rows shorter", unlike(255, 255, 254, 254)},
		{"last of 255 rows longer", unlike(255, 255, 254, 256)},
	}
}

func right() []named {
	return []named{
		{"the single 0", [][]byte{{0}}},
		{"the single 1", [][]byte{{1}}},
		{"1 row of 2", filled(2, 1, 2)},
		{"2 rows of 1", filled(2, 2, 1)},
		{"2 rows of 3", filled(2, 2, 3)},
		{"1 row of 255", filled(2, 1, 255)},
		{"255 rows of 1", filled(2, 255, 1)},
		{"254 rows of 255", filled(2, 254, 255)},
		{"255 rows of 254", filled(2, 255, 254)},
		{"255 rows of 255", filled(2, 255, 255)},
		{"bytes 0 alone", [][]byte{{0, 0}, {0, 0}}},
	}
}

func refused[T any](t *testing.T, what string, got []T, err, want api.Errno) {
	t.Helper()
	if err != want {
		t.Errorf("P201: %s: error %d, not %d", what, err, want)
	}
	if len(got) != 0 {
		t.Errorf("P201: %s: an answer beside error %d", what, err)
	}
}

func TestRight(t *testing.T) {
	for _, c := range right() {
		if !matrix.Right(c.m) {
			t.Errorf("P201: %s is Right", c.name)
		}
	}
	for _, c := range wrong() {
		if matrix.Right(c.m) {
			t.Errorf("P201: %s is not Right", c.name)
		}
	}
}

// Each wrong one stands beside what fits it in height and width, so that nothing else is to blame.
func TestWhatIsNotRightIsRefused(t *testing.T) {
	for _, c := range wrong() {
		width := 0
		if len(c.m) > 0 {
			width = len(c.m[0])
		}
		got, err := matrix.Mul(c.m, filled(3, width, 2))
		refused(t, "Mul, first "+c.name, got, err, api.ErrArg)
		got, err = matrix.Mul(filled(3, 2, len(c.m)), c.m)
		refused(t, "Mul, second "+c.name, got, err, api.ErrArg)
		got, err = matrix.Mul(c.m, c.m)
		refused(t, "Mul, both "+c.name, got, err, api.ErrArg)
		got, err = matrix.Inverse(c.m)
		refused(t, "Inverse of "+c.name, got, err, api.ErrArg)
		column, err := matrix.Apply(c.m, make([]byte, width))
		refused(t, "Apply of "+c.name, column, err, api.ErrArg)
	}
}

func TestMulByHand(t *testing.T) {
	for _, c := range []struct{ a, b, want [][]byte }{
		{[][]byte{{2}}, [][]byte{{128}}, [][]byte{{29}}},
		{[][]byte{{1, 2}}, [][]byte{{3}, {4}}, [][]byte{{11}}},
		{[][]byte{{3}, {4}}, [][]byte{{1, 2}}, [][]byte{{3, 6}, {4, 8}}},
		{[][]byte{{1, 2}, {3, 4}}, [][]byte{{5, 6}, {7, 8}}, [][]byte{{11, 22}, {19, 42}}},
		{[][]byte{{1, 0, 0}}, [][]byte{{7, 8}, {9, 10}, {11, 12}}, [][]byte{{7, 8}}},
		{[][]byte{{0, 0}}, [][]byte{{7}, {9}}, [][]byte{{0}}},
	} {
		got, err := matrix.Mul(c.a, c.b)
		if err != api.OK || !same(got, c.want) {
			t.Errorf("P201: Mul(%v, %v): %v, error %d", c.a, c.b, got, err)
		}
	}
}

func TestMul(t *testing.T) {
	sizes := []int{1, 2, 3, 5, 16}
	for _, height := range sizes {
		for _, between := range sizes {
			for _, width := range sizes {
				checkMul(t, filled(4, height, between), filled(5, between, width))
			}
		}
	}
	checkMul(t, filled(4, 255, 1), filled(5, 1, 255))
	checkMul(t, filled(4, 1, 255), filled(5, 255, 1))
	checkMul(t, filled(4, 2, 255), filled(5, 255, 255))
	checkMul(t, filled(4, 255, 255), filled(5, 255, 2))
}

func checkMul(t *testing.T, a, b [][]byte) {
	t.Helper()
	got, err := matrix.Mul(a, b)
	if err != api.OK || !same(got, product(a, b)) {
		t.Errorf("P201: Mul of %d by %d and %d by %d: error %d, or another product", len(a), len(a[0]), len(b), len(b[0]), err)
	}
}

func TestMulOfItself(t *testing.T) {
	m := filled(6, 5, 5)
	checkMul(t, m, m)
	row := []byte{1, 2, 3}
	checkMul(t, [][]byte{row, row, row}, [][]byte{row, row, row})
}

func TestMulOfAnotherHeight(t *testing.T) {
	for width := 1; width <= 255; width += 6 {
		for _, height := range []int{1, 2, width - 1, width + 1, 255} {
			if height == width || height < 1 || height > 255 {
				continue
			}
			got, err := matrix.Mul(filled(7, 2, width), filled(8, height, 2))
			refused(t, "Mul of another height", got, err, api.ErrArg)
		}
	}
	// The other way round these would fit.
	got, err := matrix.Mul(filled(7, 2, 3), filled(8, 1, 2))
	refused(t, "Mul of the two turned about", got, err, api.ErrArg)
	got, err = matrix.Mul(filled(7, 2, 3), filled(8, 2, 3))
	refused(t, "Mul of two that are alike, but not as high as wide", got, err, api.ErrArg)
}

func TestApply(t *testing.T) {
	for _, size := range [][2]int{{1, 1}, {1, 2}, {2, 1}, {3, 5}, {5, 3}, {16, 16}, {1, 255}, {255, 1}, {255, 255}} {
		m, v := filled(10, size[0], size[1]), filled(11, 1, size[1])[0]
		got, err := matrix.Apply(m, v)
		if err != api.OK || !same(asColumn(got), product(m, asColumn(v))) {
			t.Errorf("P201: Apply of %v: error %d, or another column", size, err)
		}
	}
	got, err := matrix.Apply([][]byte{{1, 2}, {3, 4}}, []byte{5, 6})
	if err != api.OK || !bytes.Equal(got, []byte{9, 23}) {
		t.Errorf("P201: Apply by hand: %v, error %d", got, err)
	}
	m := filled(12, 4, 4)
	got, err = matrix.Apply(m, m[1])
	if err != api.OK || !same(asColumn(got), product(m, asColumn(m[1]))) {
		t.Errorf("P201: Apply of a matrix to its own row: %v, error %d", got, err)
	}
}

func TestApplyOfAnotherLength(t *testing.T) {
	for _, size := range [][2]int{{1, 1}, {2, 3}, {3, 2}, {4, 4}, {255, 1}, {1, 255}, {255, 255}} {
		for _, length := range []int{0, 1, size[1] - 1, size[1] + 1, size[0], 255, 256, 257} {
			if length == size[1] {
				continue
			}
			got, err := matrix.Apply(filled(13, size[0], size[1]), make([]byte, length))
			refused(t, "Apply of another length", got, err, api.ErrArg)
		}
	}
	got, err := matrix.Apply([][]byte{{1}}, nil)
	refused(t, "Apply to nil", got, err, api.ErrArg)
}

// checkInverse tells whether there was one.
func checkInverse(t *testing.T, m [][]byte) bool {
	t.Helper()
	got, err := matrix.Inverse(m)
	if err == api.ErrEven {
		refused(t, "Inverse", got, err, api.ErrEven)
		return false
	}
	if err != api.OK || len(got) != len(m) || !matrix.Right(got) || len(got[0]) != len(m) {
		t.Fatalf("P201: Inverse of %d rows: error %d, %d rows", len(m), err, len(got))
	}
	if !same(product(m, got), unit(len(m))) {
		t.Fatalf("P201: Inverse of %v: %v", m, got)
	}
	return true
}

func TestInverseOfSingles(t *testing.T) {
	for a := range 256 {
		got, err := matrix.Inverse([][]byte{{byte(a)}})
		if a == 0 {
			refused(t, "Inverse of the single 0", got, err, api.ErrEven)
			continue
		}
		if err != api.OK || !same(got, [][]byte{{gf.Inv(byte(a))}}) {
			t.Errorf("P201: Inverse of the single %d: %v, error %d", a, got, err)
		}
	}
}

// eachSmall goes through all n by n matrices of the first so many elements.
func eachSmall(n, elements int, do func(m [][]byte)) {
	m := unit(n)
	var from func(place int)
	from = func(place int) {
		if place == n*n {
			do(m)
			return
		}
		for element := range elements {
			m[place/n][place%n] = byte(element)
			from(place + 1)
		}
	}
	from(0)
}

func TestInverseOfSmallOnes(t *testing.T) {
	check := func(m [][]byte) {
		if checkInverse(t, m) != (determinant(m) != 0) {
			t.Fatalf("P201: Inverse of %v, whose determinant is %d", m, determinant(m))
		}
	}
	eachSmall(2, 9, check)
	eachSmall(3, 3, check)
	eachSmall(4, 2, check)
}

func TestInverseOfSome(t *testing.T) {
	for n := 1; n <= 5; n++ {
		for seed := range uint32(60) {
			m := filled(seed*7+uint32(n), n, n)
			if checkInverse(t, m) != (determinant(m) != 0) {
				t.Fatalf("P201: Inverse of %v", m)
			}
		}
	}
}

// dependent makes a row the sum of two others, each times something.
func dependent(n, row int) [][]byte {
	m := filled(14, n, n)
	for j := range m[row] {
		m[row][j] = gf.Add(gf.Mul(5, m[(row+1)%n][j]), gf.Mul(201, m[(row+2)%n][j]))
	}
	return m
}

func TestInverseWhereThereIsNone(t *testing.T) {
	for _, n := range []int{3, 4, 9, 40} {
		for row := range n {
			got, err := matrix.Inverse(dependent(n, row))
			refused(t, "Inverse of a row that comes from others", got, err, api.ErrEven)
			m := filled(15, n, n)
			for i := range m {
				m[i][row] = 0
			}
			got, err = matrix.Inverse(m)
			refused(t, "Inverse with a column of 0", got, err, api.ErrEven)
			m = filled(15, n, n)
			clear(m[row])
			got, err = matrix.Inverse(m)
			refused(t, "Inverse with a row of 0", got, err, api.ErrEven)
		}
	}
	got, err := matrix.Inverse(dependent(255, 254))
	refused(t, "Inverse of 255 rows, the last one from others", got, err, api.ErrEven)
	row := []byte{1, 2}
	got, err = matrix.Inverse([][]byte{row, row})
	refused(t, "Inverse of one row twice", got, err, api.ErrEven)
}

// Each of these has a 0 where its first elements stand: rows must change places.
func TestInverseWithZerosOnTheDiagonal(t *testing.T) {
	for n := 2; n <= 12; n++ {
		turned := unit(n)
		slices.Reverse(turned)
		around := append(unit(n)[1:], unit(n)[0])
		for _, m := range [][][]byte{turned, around} {
			if !checkInverse(t, m) {
				t.Errorf("P201: Inverse of %v: there is one", m)
			}
		}
	}
}

// mixed has an inverse: it is the product of two whose diagonals have no 0 and which have nothing
// above it, or nothing below it.
func mixed(n int) [][]byte {
	lower, upper := filled(16, n, n), filled(17, n, n)
	for i := range n {
		clear(lower[i][i+1:])
		clear(upper[i][:i])
		lower[i][i] |= 1
		upper[i][i] |= 1
	}
	return product(lower, upper)
}

func TestInverseOfGreatOnes(t *testing.T) {
	for _, n := range []int{40, 255} {
		if !checkInverse(t, mixed(n)) {
			t.Errorf("P201: Inverse of %d rows: there is one", n)
		}
	}
	elements := filled(18, 1, 255)[0]
	for i := range elements {
		elements[i] |= 1
	}
	if !checkInverse(t, diagonal(elements...)) {
		t.Error("P201: Inverse of a diagonal: there is one")
	}
}

func TestInverseOfWhatIsNotAsHighAsWide(t *testing.T) {
	for _, size := range [][2]int{{1, 2}, {2, 1}, {2, 3}, {3, 2}, {1, 255}, {255, 1}, {254, 255}, {255, 254}} {
		got, err := matrix.Inverse(filled(19, size[0], size[1]))
		refused(t, "Inverse of what is not as high as wide", got, err, api.ErrArg)
		// Here both errors hold, and the first one is told.
		got, err = matrix.Inverse(slices.Repeat([][]byte{make([]byte, size[1])}, size[0]))
		refused(t, "Inverse of 0 alone, not as high as wide", got, err, api.ErrArg)
	}
}

func TestCauchy(t *testing.T) {
	for _, c := range [][2]int{{1, 1}, {1, 2}, {2, 1}, {3, 2}, {2, 3}, {10, 4}, {253, 1}, {254, 1}, {1, 253}, {1, 254}, {128, 127}, {127, 128}, {200, 55}} {
		data, parity := c[0], c[1]
		got, err := matrix.Cauchy(data, parity)
		if err != api.OK || len(got) != parity {
			t.Fatalf("P201: Cauchy(%d, %d): error %d, %d rows", data, parity, err, len(got))
		}
		for i, row := range got {
			if len(row) != data {
				t.Fatalf("P201: Cauchy(%d, %d): row %d has %d elements", data, parity, i, len(row))
			}
			for j, element := range row {
				if gf.Mul(element, byte(i)^byte(parity+j)) != 1 {
					t.Fatalf("P201: Cauchy(%d, %d): row %d, column %d: %d", data, parity, i, j, element)
				}
			}
		}
	}
	got, err := matrix.Cauchy(2, 2)
	want := [][]byte{{gf.Inv(2), gf.Inv(3)}, {gf.Inv(3), gf.Inv(2)}}
	if err != api.OK || !same(got, want) {
		t.Errorf("P201: Cauchy(2, 2): %v, error %d", got, err)
	}
}

func TestCauchyRefuses(t *testing.T) {
	for data := 1; data <= 255; data++ {
		got, err := matrix.Cauchy(data, 256-data)
		refused(t, "Cauchy of 256 together", got, err, api.ErrArg)
	}
	ends := []int{math.MinInt, math.MinInt + 1, math.MinInt + 255, -256, -255, -1, 0, 256, 257, 512, math.MaxInt - 255, math.MaxInt - 1, math.MaxInt}
	others := append([]int{1, 2, 127, 254, 255}, ends...)
	for _, a := range ends {
		for _, b := range others {
			got, err := matrix.Cauchy(a, b)
			refused(t, "Cauchy", got, err, api.ErrArg)
			got, err = matrix.Cauchy(b, a)
			refused(t, "Cauchy", got, err, api.ErrArg)
		}
	}
	for _, c := range [][2]int{{255, 1}, {1, 255}, {255, 255}, {128, 128}} {
		got, err := matrix.Cauchy(c[0], c[1])
		refused(t, "Cauchy of more than 255 together", got, err, api.ErrArg)
	}
}

// chosen answers the places of the bits of a number.
func chosen(number, most int) []int {
	var places []int
	for i := range most {
		if number>>i&1 == 1 {
			places = append(places, i)
		}
	}
	return places
}

func part(m [][]byte, rows, columns []int) [][]byte {
	var out [][]byte
	for _, i := range rows {
		var row []byte
		for _, j := range columns {
			row = append(row, m[i][j])
		}
		out = append(out, row)
	}
	return out
}

func TestEachSquarePartOfACauchy(t *testing.T) {
	for data := 1; data <= 5; data++ {
		for parity := 1; parity <= 5; parity++ {
			m, err := matrix.Cauchy(data, parity)
			if err != api.OK {
				t.Fatalf("P201: Cauchy(%d, %d): error %d", data, parity, err)
			}
			checkParts(t, m, data, parity)
		}
	}
}

func checkParts(t *testing.T, m [][]byte, data, parity int) {
	t.Helper()
	for r := 1; r < 1<<parity; r++ {
		for c := 1; c < 1<<data; c++ {
			rows, columns := chosen(r, parity), chosen(c, data)
			if len(rows) == len(columns) && !checkInverse(t, part(m, rows, columns)) {
				t.Errorf("P202: Cauchy(%d, %d), rows %v, columns %v: no inverse", data, parity, rows, columns)
			}
		}
	}
}

func TestSquarePartsOfAGreatCauchy(t *testing.T) {
	m, err := matrix.Cauchy(128, 127)
	if err != api.OK {
		t.Fatalf("P201: Cauchy(128, 127): error %d", err)
	}
	all := chosen(-1, 63)
	for i := range all {
		all[i] *= 2
	}
	if !checkInverse(t, part(m, all, all)) {
		t.Error("P202: each second row and column: no inverse")
	}
	for i := range m {
		m[i] = m[i][1:]
	}
	if !checkInverse(t, m) {
		t.Error("P202: all rows, all columns but the first: no inverse")
	}
}

// guarded lays m into lists that have spare room, rows and list alike, all of it filled.
func guarded(m [][]byte) [][]byte {
	rows := make([][]byte, 0, len(m)+2)
	for i, row := range m {
		wide := append(slices.Clone(row), 0xa5, byte(i), 0x5a)
		rows = append(rows, wide[:len(row):len(row)+3])
	}
	spare := append(rows, []byte{1, 2}, []byte{3})
	return spare[:len(m)]
}

// whole answers all that m's memory holds, its spare room too, in memory of its own.
func whole(m [][]byte) [][]byte {
	var rows [][]byte
	for _, row := range m[:cap(m)] {
		rows = append(rows, slices.Clone(row[:cap(row)]))
	}
	return rows
}

// scribble writes over all that an answer's memory holds, its spare room too.
func scribble(m [][]byte) {
	for _, row := range m {
		for j := range row[:cap(row)] {
			row[:cap(row)][j] ^= 0xff
		}
	}
	clear(m[:cap(m)])
}

func one(row []byte) [][]byte {
	if row == nil {
		return nil
	}
	return [][]byte{row}
}

type call struct {
	name string
	do   func(a, b [][]byte, v []byte) ([][]byte, api.Errno)
}

// calls are all that take or answer memory, each of them told in rows.
func calls() []call {
	return []call{
		{"Right", func(a, b [][]byte, v []byte) ([][]byte, api.Errno) {
			if matrix.Right(a) {
				return [][]byte{{1}}, api.OK
			}
			return nil, api.OK
		}},
		{"Mul", func(a, b [][]byte, v []byte) ([][]byte, api.Errno) { return matrix.Mul(a, b) }},
		{"Inverse", func(a, b [][]byte, v []byte) ([][]byte, api.Errno) { return matrix.Inverse(a) }},
		{"Apply", func(a, b [][]byte, v []byte) ([][]byte, api.Errno) {
			got, err := matrix.Apply(a, v)
			return one(got), err
		}},
		{"Cauchy", func(a, b [][]byte, v []byte) ([][]byte, api.Errno) { return matrix.Cauchy(len(v), len(a)) }},
	}
}

// inputs answers what the calls answer, and what they refuse, for each reason.
func inputs() [][2][][]byte {
	turned := unit(4)
	slices.Reverse(turned)
	return [][2][][]byte{
		{filled(20, 3, 3), filled(21, 3, 4)},
		{turned, filled(21, 4, 4)},
		{mixed(6), unit(6)},
		{dependent(4, 3), filled(22, 4, 1)},
		{filled(23, 2, 3), filled(24, 3, 2)},
		{filled(23, 2, 3), filled(24, 2, 3)},
		{[][]byte{{1}}, [][]byte{{1}}},
		{unlike(3, 3, 2, 2), filled(25, 3, 3)},
		{filled(26, 256, 2), filled(27, 2, 2)},
		{nil, nil},
	}
}

func eachCall(do func(c call, a, b [][]byte, v []byte)) {
	for _, c := range calls() {
		for _, in := range inputs() {
			column := guarded([][]byte{bytes.Repeat([]byte{7}, len(in[1]))})[0]
			do(c, guarded(in[0]), guarded(in[1]), column)
		}
	}
}

func TestWhatIsHandedInStays(t *testing.T) {
	eachCall(func(c call, a, b [][]byte, v []byte) {
		wasA, wasB, wasV := whole(a), whole(b), whole([][]byte{v})
		got, _ := c.do(a, b, v)
		if !same(whole(a), wasA) || !same(whole(b), wasB) || !same(whole([][]byte{v}), wasV) {
			t.Errorf("P202: %s changed what was handed in", c.name)
		}
		scribble(got)
		if !same(whole(a), wasA) || !same(whole(b), wasB) || !same(whole([][]byte{v}), wasV) {
			t.Errorf("P202: what %s answers shares memory with what was handed in", c.name)
		}
	})
}

func TestRowsKeepTheirPlaces(t *testing.T) {
	eachCall(func(c call, a, b [][]byte, v []byte) {
		rows := slices.Concat(a, b)
		c.do(a, b, v)
		for i, row := range slices.Concat(a, b) {
			if &row[:1][0] != &rows[i][:1][0] {
				t.Errorf("P202: %s laid another row into what was handed in", c.name)
			}
		}
	})
}

func TestAnswersAreNewMemory(t *testing.T) {
	eachCall(func(c call, a, b [][]byte, v []byte) {
		first, err := c.do(a, b, v)
		want := copied(first)
		scribble(first)
		second, again := c.do(a, b, v)
		if again != err || !same(second, want) {
			t.Fatalf("P202: %s answers otherwise behind a change of its answer", c.name)
		}
		// What is handed in is not kept either: a change of it doesn't reach the answer.
		scribble(a)
		scribble(b)
		scribble([][]byte{v})
		if !same(second, want) {
			t.Errorf("P202: %s keeps what was handed in", c.name)
		}
	})
}

func TestRowsOfAnAnswerAreTheirOwn(t *testing.T) {
	eachCall(func(c call, a, b [][]byte, v []byte) {
		got, _ := c.do(a, b, v)
		for i, row := range got {
			was := copied(got)
			for j := range row[:cap(row)] {
				row[:cap(row)][j] ^= 0xff
			}
			for k := range got {
				if k != i && !bytes.Equal(got[k], was[k]) {
					t.Fatalf("P202: rows %d and %d of what %s answers share memory", i, k, c.name)
				}
			}
		}
	})
}

type told struct {
	rows [][]byte
	err  api.Errno
}

func everything(backwards bool) []told {
	var answers []told
	list, pairs := calls(), inputs()
	if backwards {
		slices.Reverse(list)
		slices.Reverse(pairs)
	}
	for _, c := range list {
		for _, in := range pairs {
			rows, err := c.do(in[0], in[1], make([]byte, len(in[1])))
			answers = append(answers, told{rows, err})
		}
	}
	if backwards {
		slices.Reverse(answers)
	}
	return answers
}

func sameTold(a, b []told) bool {
	return slices.EqualFunc(a, b, func(x, y told) bool { return x.err == y.err && same(x.rows, y.rows) })
}

func TestAnswersHangOnArgumentsAlone(t *testing.T) {
	first := everything(false)
	if !sameTold(everything(false), first) {
		t.Error("P202: the same calls once more answer otherwise")
	}
	if !sameTold(everything(true), first) {
		t.Error("P202: the same calls in another order answer otherwise")
	}
	var alike [4]bool
	var workers sync.WaitGroup
	for i := range alike {
		workers.Go(func() { alike[i] = sameTold(everything(false), first) })
	}
	workers.Wait()
	for i, ok := range alike {
		if !ok {
			t.Errorf("P202: worker %d was answered otherwise", i)
		}
	}
}
