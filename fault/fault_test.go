package fault_test

import (
	"errors"
	"fmt"
	"io"
	"math"
	"slices"
	"strings"
	"sync"
	"testing"
	"unsafe"

	"cartridge/api"
	"cartridge/fault"
)

// made is what an error of New is made of.
type made struct {
	code  api.Errno
	spot  api.Spot
	doing []string
}

func (m made) err() error   { return fault.New(m.code, m.spot, m.doing...) }
func (m made) text() string { return fault.Text(m.code, m.spot, m.doing...) }

// want is the text of the rule once more, by other means.
func (m made) want() string {
	if m.code == 0 {
		return ""
	}
	s := fmt.Sprintf("error %d at %d/%d", int(m.code), m.spot.Label, m.spot.Block)
	for _, word := range m.doing {
		s = word + ": " + s
	}
	return s
}

func (m made) like(o made) bool {
	return m.code == o.code && m.spot.Label == o.spot.Label && m.spot.Block == o.spot.Block
}

// codes are those of package api, but OK, and others: below 0, without a name, the least and the greatest.
func codes() []api.Errno {
	return []api.Errno{api.ErrArg, api.ErrBytes, api.ErrPath, api.ErrLong, api.ErrNone, api.ErrFull, api.ErrSpace, api.ErrBad, api.ErrLost, api.ErrMany, api.ErrState, api.ErrEven,
		-1, -2, -12, 13, 99, 1 << 32, -1 << 32, 1<<32 + 1, 1 << 8, math.MinInt, math.MinInt + 1, math.MaxInt, math.MaxInt - 1}
}

func spots() []api.Spot {
	numbers := []int{0, 1, -1, 2, 10, -10, 12, 1 << 32, math.MinInt, math.MaxInt}
	var l []api.Spot
	for _, label := range numbers {
		for _, block := range numbers {
			l = append(l, api.Spot{Label: label, Block: block})
		}
	}
	return l
}

func doings() [][]string {
	every := make([]byte, 256)
	for i := range every {
		every[i] = byte(i)
	}
	return [][]string{nil, {}, {"read"}, {"read", "restore"}, {"restore", "read"}, {"a", "b", "c"}, {"a", "a", "a", "a"}, {""}, {"", ""}, {"", "a", ""}, {"a", "", "b"},
		{": "}, {":"}, {"x: y"}, {"error 8 at 3/4"}, {"read: error 8 at 3/4", "x"}, {"é"}, {"\xff\xfe"}, {"\x00"}, {"\n", "%d", "%!s"}, {string(every)}, {strings.Repeat("long ", 1000), "b"}, strings.Split(strings.Repeat("w ", 300), " ")}
}

// someMade are errors of New that differ in each of the things that make them.
func someMade() []made {
	var l []made
	for _, c := range codes() {
		for i, d := range doings() {
			l = append(l, made{c, spots()[(i*7+int(uint(c)%31))%len(spots())], d})
		}
	}
	for _, s := range spots() {
		l = append(l, made{api.ErrBad, s, nil}, made{-1, s, []string{"read"}}, made{math.MinInt, s, []string{"a", "b"}})
	}
	return l
}

// own is another's wrapping, by a pointer; it has a Where that is not asked.
type own struct {
	inner error
	more  []int
}

func (o *own) Error() string           { return "own" }
func (o *own) Unwrap() error           { return o.inner }
func (o *own) Where() (api.Spot, bool) { return api.Spot{Label: 77, Block: 77}, true }

// ownValue is another's wrapping, by a value that can't be held against another one; it has a Code that is not asked.
type ownValue struct {
	inner error
	more  []int
}

func (o ownValue) Error() string   { return "own value" }
func (o ownValue) Unwrap() error   { return o.inner }
func (o ownValue) Code() api.Errno { return 77 }

// alike looks like an error of New, and is none.
type alike struct {
	code api.Errno
	spot api.Spot
}

func (a alike) Error() string           { return made{a.code, a.spot, nil}.want() }
func (a alike) Code() api.Errno         { return a.code }
func (a alike) Where() (api.Spot, bool) { return a.spot, true }
func (a alike) Unwrap() error           { return nil }

// wrappings are ways in which others may wrap an error.
func wrappings(err error) []error {
	var deep error = err
	for i := range 1000 {
		if i%2 == 0 {
			deep = &own{inner: deep}
		} else {
			deep = fmt.Errorf("layer %d: %w", i, deep)
		}
	}
	return []error{
		err,
		fmt.Errorf("more: %w", err),
		fmt.Errorf("%w", err),
		fmt.Errorf("a: %w", fmt.Errorf("b: %w", fmt.Errorf("c: %w", err))),
		&own{inner: err},
		ownValue{inner: err, more: []int{1}},
		&own{inner: ownValue{inner: fmt.Errorf("x: %w", &own{inner: err})}},
		errors.Join(err),
		errors.Join(errors.New("z"), err, io.EOF),
		errors.Join(errors.New("z"), errors.Join(&own{}, fmt.Errorf("b: %w", err))),
		fmt.Errorf("%w and %w", io.EOF, err),
		deep,
	}
}

// others are errors that are none of New, and wrap none.
func others() []error {
	return []error{
		errors.New("x"), errors.New(""), io.EOF, errors.New("read: error 8 at 3/4"), errors.New("error 8 at 3/4"),
		fmt.Errorf("y: %w", errors.New("x")), fmt.Errorf("a: %w", fmt.Errorf("b: %w", io.EOF)),
		fmt.Errorf("not wrapped: %v", fault.New(api.ErrBad, api.Spot{Label: 3, Block: 4})),
		alike{api.ErrBad, api.Spot{Label: 3, Block: 4}}, fmt.Errorf("w: %w", alike{api.ErrLost, api.Spot{Label: 1}}),
		&own{}, ownValue{}, ownValue{more: []int{1}}, &own{inner: &own{inner: io.EOF}},
		errors.Join(io.EOF, errors.New("x")), errors.Join(&own{}, alike{}),
	}
}

func checkCodeWhere(t *testing.T, what string, err error, code api.Errno, spot api.Spot, is bool) {
	t.Helper()
	if got := fault.Code(err); got != code {
		t.Errorf("P701: Code of %s: %d, want %d", what, got, code)
	}
	if got, ok := fault.Where(err); got != spot || ok != is {
		t.Errorf("P701: Where of %s: %v, %v, want %v, %v", what, got, ok, spot, is)
	}
}

func TestExample(t *testing.T) {
	spot := api.Spot{Label: 3, Block: 4}
	if s := fault.Text(api.ErrBad, spot, "read"); s != "read: error 8 at 3/4" {
		t.Errorf("P701: Text(ErrBad, {3, 4}, read): %q", s)
	}
	if err := fault.New(api.ErrBad, spot, "read"); err == nil || err.Error() != "read: error 8 at 3/4" {
		t.Errorf("P701: New(ErrBad, {3, 4}, read): %v", err)
	}
	if s := fault.Text(api.ErrLost, api.Spot{Label: 7, Block: -1}, "a", "b", "c"); s != "c: b: a: error 9 at 7/-1" {
		t.Errorf("P701: Text with three words: %q", s)
	}
}

func TestOK(t *testing.T) {
	for _, spot := range spots() {
		for _, doing := range doings() {
			if err := fault.New(api.OK, spot, doing...); err != nil {
				t.Errorf("P701: New(OK, %v) with %d words: %v", spot, len(doing), err)
			}
			if s := fault.Text(api.OK, spot, doing...); s != "" {
				t.Errorf("P701: Text(OK, %v) with %d words: %q", spot, len(doing), s)
			}
		}
	}
	checkCodeWhere(t, "New of OK", fault.New(api.OK, api.Spot{Label: 3}, "read"), api.OK, api.Spot{}, false)
}

func TestTextAndError(t *testing.T) {
	for _, m := range someMade() {
		err := m.err()
		if err == nil {
			t.Errorf("P701: New of %q: nil", m.want())
			continue
		}
		if err.Error() != m.want() {
			t.Errorf("P701: Error() of New: %q, want %q", err.Error(), m.want())
		}
		if m.text() != m.want() {
			t.Errorf("P701: Text: %q, want %q", m.text(), m.want())
		}
	}
}

// TestOnceForEach goes through an error layer by layer: each word is one of them, the last one outermost.
func TestOnceForEach(t *testing.T) {
	for _, m := range someMade() {
		err := m.err()
		for n := len(m.doing); n >= 0; n-- {
			left := made{m.code, m.spot, m.doing[:n]}
			if err == nil || err.Error() != left.want() {
				t.Errorf("P701: %q: with %d words left: %v", m.want(), n, err)
				break
			}
			checkCodeWhere(t, fmt.Sprintf("%d layers of %q", n, m.want()), err, m.code, m.spot, true)
			err = errors.Unwrap(err)
		}
		if err != nil {
			t.Errorf("P701: %q: wrapped more often than once for each word: %v is left", m.want(), err)
		}
	}
}

func TestCodeAndWhere(t *testing.T) {
	for _, m := range someMade() {
		for i, err := range wrappings(m.err()) {
			checkCodeWhere(t, fmt.Sprintf("%q, wrapping %d", m.want(), i), err, m.code, m.spot, true)
		}
	}
	var none error
	checkCodeWhere(t, "nil", nil, api.OK, api.Spot{}, false)
	checkCodeWhere(t, "a nil error", none, api.OK, api.Spot{}, false)
	for i, err := range others() {
		checkCodeWhere(t, fmt.Sprintf("another one, %d", i), err, api.ErrArg, api.Spot{}, false)
		for k, w := range wrappings(err) {
			checkCodeWhere(t, fmt.Sprintf("another one, %d, wrapping %d", i, k), w, api.ErrArg, api.Spot{}, false)
		}
	}
}

// TestFirstOfSeveral: an error that wraps several of New is the one that errors.As finds.
func TestFirstOfSeveral(t *testing.T) {
	a, b := made{api.ErrBad, api.Spot{Label: 1, Block: 2}, []string{"a"}}, made{api.ErrLost, api.Spot{Label: 3, Block: -1}, nil}
	checkCodeWhere(t, "a joined with b", errors.Join(a.err(), b.err()), a.code, a.spot, true)
	checkCodeWhere(t, "b joined with a", errors.Join(io.EOF, b.err(), a.err()), b.code, b.spot, true)
	checkCodeWhere(t, "a beside b in one layer", fmt.Errorf("%w: %w", errors.Join(&own{inner: a.err()}), b.err()), a.code, a.spot, true)
}

// bursts panics when it is looked into.
type bursts struct{ inner error }

func (b *bursts) Error() string { panic("Error") }
func (b *bursts) Unwrap() error { return b.inner }

// claims says that it is whatever is looked for, and gives nothing.
type claims struct{ inner error }

func (c claims) Error() string { return "claims" }
func (c claims) As(any) bool   { return true }
func (c claims) Unwrap() error { return c.inner }

// shouts panics when it is asked.
type shouts struct{ inner error }

func (s shouts) Error() string { return "shouts" }
func (s shouts) As(any) bool   { panic("As") }
func (s shouts) Unwrap() error { return s.inner }

// TestErrorsThatBreak: errors of others that panic, or claim what isn't so, are others, and no call panics.
func TestErrorsThatBreak(t *testing.T) {
	var nobody *own
	var blank *bursts
	m := made{api.ErrBad, api.Spot{Label: 3, Block: 4}, []string{"read"}}
	broken := []error{nobody, blank, &own{inner: nobody}, claims{}, shouts{}, &own{inner: claims{}}, fmt.Errorf("a: %w", shouts{}), errors.Join(io.EOF, blank)}
	for i, err := range broken {
		checkCodeWhere(t, fmt.Sprintf("a broken one, %d", i), err, api.ErrArg, api.Spot{}, false)
		if errors.Is(m.err(), err) {
			t.Errorf("P702: an error of New is a broken one, %d", i)
		}
	}
	// An error on the way whose own text can't be told is not asked for it.
	checkCodeWhere(t, "one with a text that panics around", &bursts{inner: m.err()}, m.code, m.spot, true)
	checkCodeWhere(t, "one that is found ahead of a broken one", errors.Join(m.err(), shouts{}, blank), m.code, m.spot, true)
	if !errors.Is(m.err(), &bursts{inner: m.err()}) {
		t.Error("P702: an error of New, and the same with one around whose text panics")
	}
}

// isMade are errors near to one another: in the code alone, the label alone, the block alone, or in the words alone.
func isMade() []made {
	var l []made
	for _, c := range []api.Errno{api.ErrBad, api.ErrLost, -api.ErrBad, math.MinInt, 1<<32 + api.ErrBad} {
		for _, s := range []api.Spot{{}, {Label: 1}, {Block: 1}, {Label: 1, Block: 2}, {Label: 2, Block: 1}, {Label: 1, Block: -2}, {Label: -1, Block: 2}, {Label: math.MinInt, Block: math.MaxInt}, {Label: 1, Block: 1<<32 + 2}} {
			for _, d := range [][]string{nil, {"read"}, {"read", "restore"}, {""}} {
				l = append(l, made{c, s, d})
			}
		}
	}
	return l
}

func TestIs(t *testing.T) {
	l := isMade()
	for _, a := range l {
		for _, b := range l {
			x, y, want := a.err(), b.err(), a.like(b)
			if errors.Is(x, y) != want || errors.Is(y, x) != want {
				t.Errorf("P702: %q and %q: %v and %v, want %v", x, y, errors.Is(x, y), errors.Is(y, x), want)
			}
		}
	}
}

func TestIsWhateverIsAround(t *testing.T) {
	first := made{api.ErrBad, api.Spot{Label: 1, Block: 2}, []string{"read"}}
	for _, other := range isMade() {
		want := first.like(other)
		for i, a := range wrappings(first.err()) {
			for k, b := range wrappings(other.err()) {
				if errors.Is(a, b) != want || errors.Is(b, a) != want {
					t.Errorf("P702: %q in wrapping %d and %q in wrapping %d: %v and %v, want %v", first.want(), i, other.want(), k, errors.Is(a, b), errors.Is(b, a), want)
				}
			}
		}
	}
}

func TestIsNone(t *testing.T) {
	for _, m := range isMade() {
		err := m.err()
		if !errors.Is(err, err) {
			t.Errorf("P702: %q is not itself", err)
		}
		if errors.Is(err, nil) || errors.Is(nil, err) {
			t.Errorf("P702: %q and nil", err)
		}
		for i, other := range append(others(), errors.New(m.want()), alike{m.code, m.spot}) {
			if errors.Is(err, other) || errors.Is(other, err) {
				t.Errorf("P702: %q and another one, %d", err, i)
			}
			if errors.Is(fmt.Errorf("a: %w", err), other) || errors.Is(err, fmt.Errorf("a: %w", other)) {
				t.Errorf("P702: %q and another one, %d, wrapped", err, i)
			}
		}
	}
}

// TestIsOfLayers: each layer of an error of New is the whole one, and the layers of another are not.
func TestIsOfLayers(t *testing.T) {
	whole := fault.New(api.ErrFull, api.Spot{Label: 5, Block: 6}, "a", "b", "c")
	other := fault.New(api.ErrFull, api.Spot{Label: 5, Block: 7}, "a", "b", "c")
	for inner := whole; inner != nil; inner = errors.Unwrap(inner) {
		if !errors.Is(inner, whole) || !errors.Is(whole, inner) {
			t.Errorf("P702: %q and its layer %q", whole, inner)
		}
		if errors.Is(inner, other) || errors.Is(other, inner) {
			t.Errorf("P702: %q and the layer %q", other, inner)
		}
	}
}

// TestMany: many words and many layers of others.
func TestMany(t *testing.T) {
	m := made{api.ErrBad, api.Spot{Label: 3, Block: 4}, slices.Repeat([]string{"w"}, 200000)}
	want := strings.Repeat("w: ", len(m.doing)) + "error 8 at 3/4"
	err := m.err()
	if err == nil || err.Error() != want || m.text() != want {
		t.Errorf("P701: an error with %d words", len(m.doing))
	}
	again := m.err()
	for range 200000 {
		again = &own{inner: again}
	}
	checkCodeWhere(t, "many layers", again, m.code, m.spot, true)
	if !errors.Is(err, again) || !errors.Is(again, err) {
		t.Error("P702: the same in many layers")
	}
	if other := fault.New(m.code, api.Spot{Label: 3, Block: 5}, m.doing...); errors.Is(other, again) || errors.Is(again, other) {
		t.Error("P702: another one in many layers")
	}
}

func TestHandedIn(t *testing.T) {
	row := []string{"a", "b", "c", "spare", "room"}
	was := slices.Clone(row)
	doing := row[:3]
	err := fault.New(api.ErrBad, api.Spot{Label: 1, Block: 2}, doing...)
	text := fault.Text(api.ErrBad, api.Spot{Label: 1, Block: 2}, doing...)
	fault.Code(err)
	fault.Where(err)
	if !slices.Equal(row, was) {
		t.Errorf("P702: the words that were handed in, or their spare room, have turned: %q", row)
	}
	want := "c: b: a: error 8 at 1/2"
	for i := range row {
		row[i] = "turned"
	}
	if err.Error() != want || text != want || errors.Unwrap(err).Error() != "b: a: error 8 at 1/2" {
		t.Errorf("P702: the row of words is kept: %v", err)
	}
}

// TestWordsNotKept turns the bytes that a word stood in.
func TestWordsNotKept(t *testing.T) {
	room := []byte("read this")
	word := unsafe.String(&room[0], len(room))
	err := fault.New(api.ErrBad, api.Spot{Label: 1, Block: 2}, word, "b")
	text := fault.Text(api.ErrBad, api.Spot{Label: 1, Block: 2}, word)
	for i := range room {
		room[i] = 'z'
	}
	if err.Error() != "b: read this: error 8 at 1/2" || text != "read this: error 8 at 1/2" {
		t.Errorf("P702: a word is kept: %v, %q", err, text)
	}
}

// TestErrorsAsTheyWere: asking turns nothing.
func TestErrorsAsTheyWere(t *testing.T) {
	inner := fault.New(api.ErrBad, api.Spot{Label: 1, Block: 2}, "a")
	o := &own{inner: inner, more: []int{1, 2}}
	for range 3 {
		checkCodeWhere(t, "own", o, api.ErrBad, api.Spot{Label: 1, Block: 2}, true)
		if o.inner != inner || !slices.Equal(o.more, []int{1, 2}) || inner.Error() != "a: error 8 at 1/2" {
			t.Error("P702: an error that was handed in has turned")
		}
	}
	// It is not kept either: what it wraps may be another one the next time.
	o.inner = fault.New(api.ErrLost, api.Spot{Label: 9, Block: -1})
	checkCodeWhere(t, "own, turned", o, api.ErrLost, api.Spot{Label: 9, Block: -1}, true)
	o.inner = nil
	checkCodeWhere(t, "own, of nothing", o, api.ErrArg, api.Spot{}, false)
}

// checkAll makes all calls with what m is made of.
func checkAll(t *testing.T, m made) {
	err := m.err()
	if err == nil || err.Error() != m.want() || m.text() != m.want() {
		t.Errorf("P702: New and Text of %q: %v", m.want(), err)
		return
	}
	checkCodeWhere(t, m.want(), err, m.code, m.spot, true)
	checkCodeWhere(t, "nil", nil, api.OK, api.Spot{}, false)
	checkCodeWhere(t, "io.EOF", io.EOF, api.ErrArg, api.Spot{}, false)
	same, another := fault.New(m.code, m.spot, "around"), fault.New(m.code, api.Spot{Label: m.spot.Label + 1, Block: m.spot.Block})
	if !errors.Is(err, same) || !errors.Is(same, err) || errors.Is(err, another) || errors.Is(another, err) {
		t.Errorf("P702: errors.Is of %q", m.want())
	}
}

func TestSameAgain(t *testing.T) {
	l := someMade()
	for _, m := range l {
		checkAll(t, m)
	}
	slices.Reverse(l)
	for _, m := range l {
		checkAll(t, m)
		checkAll(t, m)
	}
}

func TestBesideOthers(t *testing.T) {
	l := someMade()
	shared := l[40].err()
	var all sync.WaitGroup
	for worker := range 8 {
		all.Go(func() {
			for i := range l {
				checkAll(t, l[(i+worker*97)%len(l)])
				checkCodeWhere(t, "one that all ask", shared, l[40].code, l[40].spot, true)
				if shared.Error() != l[40].want() {
					t.Errorf("P702: Error() of one that all ask: %q", shared)
				}
			}
		})
	}
	all.Wait()
}
