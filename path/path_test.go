package path_test

import (
	"regexp"
	"slices"
	"strings"
	"sync"
	"testing"
	"unsafe"

	"cartridge/api"
	"cartridge/path"
)

// rightOnes is the rule of parts once more, as one pattern: a part begins with another byte than a dot,
// or with a dot and such a byte, or with two dots and any byte more. The length is held beside it.
var rightOnes = regexp.MustCompile(`\A(?:` + onePart + `)(?:/(?:` + onePart + `))*\z`)

const onePart = `[a-z0-9_-][a-z0-9._-]*|\.[a-z0-9_-][a-z0-9._-]*|\.\.[a-z0-9._-]+`

func isRight(s string) bool {
	return len(s) <= 24 && rightOnes.MatchString(s)
}

// cutUp answers the parts byte by byte, so that nothing here leans on what is tested.
func cutUp(s string) []string {
	if !isRight(s) {
		return nil
	}
	l := []string{""}
	for _, b := range []byte(s) {
		if b == '/' {
			l = append(l, "")
		} else {
			l[len(l)-1] += string([]byte{b})
		}
	}
	return l
}

// isWithin holds the parts against each other: those of dir are the first ones of s.
func isWithin(s, dir string) bool {
	long, short := cutUp(s), cutUp(dir)
	return len(short) > 0 && len(short) <= len(long) && slices.Equal(long[:len(short)], short)
}

// words answers all texts of these bytes, of 0 to most of them.
func words(of string, most int) []string {
	l := []string{""}
	for from := 0; most > 0; most-- {
		end := len(l)
		for ; from < end; from++ {
			for i := range len(of) {
				l = append(l, l[from]+of[i:i+1])
			}
		}
	}
	return l
}

func checkRight(t *testing.T, s string, want bool) {
	t.Helper()
	if got := path.Right(s); got != want {
		t.Errorf("P501: Right of %q: %v", s, got)
	}
}

func checkParts(t *testing.T, s string, want []string) {
	t.Helper()
	if got := path.Parts(s); !slices.Equal(got, want) {
		t.Errorf("P501: Parts of %q: %q, not %q", s, got, want)
	}
}

func checkWithin(t *testing.T, s, dir string, want bool) {
	t.Helper()
	if got := path.Within(s, dir); got != want {
		t.Errorf("P501: %q Within %q: %v", s, dir, got)
	}
}

// checkOne holds all that can be asked of one text against want, its parts: nothing, if it is not Right.
func checkOne(t *testing.T, s string, want ...string) {
	t.Helper()
	checkRight(t, s, len(want) > 0)
	checkParts(t, s, want)
	checkWithin(t, s, s, len(want) > 0)
}

func TestTheExample(t *testing.T) {
	checkOne(t, "a/b", "a", "b")
}

func TestTheLimit(t *testing.T) {
	if api.MaxPath != 24 {
		t.Fatalf("MaxPath: %d", api.MaxPath)
	}
}

func TestOneByteToMaxPathAndMore(t *testing.T) {
	checkOne(t, "")
	for n := 1; n <= 100; n++ {
		for _, part := range []string{"a", "z", "0", "9", "-", "_"} {
			s := strings.Repeat(part, n)
			if n <= 24 {
				checkOne(t, s, s)
			} else {
				checkOne(t, s)
			}
		}
	}
}

func TestMaxPathIsOfAllParts(t *testing.T) {
	eleven := slices.Repeat([]string{"a"}, 11)
	checkOne(t, strings.Join(eleven, "/")+"/bb", append(slices.Clone(eleven), "bb")...) // 24 bytes
	checkOne(t, strings.Join(eleven, "/")+"/b", append(slices.Clone(eleven), "b")...)   // 23
	checkOne(t, strings.Join(eleven, "/")+"/bbb")                                       // 25
	checkOne(t, strings.Join(eleven, "/")+"/b/b")                                       // 25
	for cut := 1; cut < 24; cut++ {
		first, second := strings.Repeat("p", cut), strings.Repeat("q", 24-cut)
		if cut < 23 {
			checkOne(t, first+"/"+second[1:], first, second[1:]) // 24 bytes
		}
		checkOne(t, first+"/"+second) // 25
	}
}

// Letters of more than one byte, few of them and many.
func TestOtherLetters(t *testing.T) {
	for _, one := range []string{"é", "ａ", "α", "\u0430", "\U0001d41a"} {
		for n := 1; n <= 25; n++ {
			checkOne(t, strings.Repeat(one, n))
		}
	}
}

func TestFarTooLong(t *testing.T) {
	for _, n := range []int{255, 256, 257, 256 + 24, 65536, 65536 + 1, 65536 + 24, 5_000_000} {
		for _, part := range []string{"a", "/", ".", "a/", "\x00"} {
			s := strings.Repeat(part, n)
			checkOne(t, s)
			checkWithin(t, s, "a", false)
			checkWithin(t, "a", s, false)
		}
	}
}

func TestEachByte(t *testing.T) {
	for v := range 256 {
		one := string([]byte{byte(v)})
		goes := strings.Contains("abcdefghijklmnopqrstuvwxyz0123456789-_", one)
		if goes {
			checkOne(t, one, one)
		} else {
			checkOne(t, one)
		}
		goes = goes || v == '.'
		for _, around := range [][2]string{{"a", "b"}, {"", "b"}, {"a", ""}, {"aaaaaaaaaaaaaaaaaaaaaaa", ""}, {"", "aaaaaaaaaaaaaaaaaaaaaaa"}, {"..", ""}} {
			s := around[0] + one + around[1]
			switch {
			case goes:
				checkOne(t, s, s)
				checkOne(t, "x/"+s[:min(22, len(s))], "x", s[:min(22, len(s))])
			case v == '/':
				checkOne(t, s, cutUp(s)...)
			default:
				checkOne(t, s)
				checkOne(t, s+"/x")
				checkOne(t, "x/"+s)
				checkOne(t, "x/"+s+"/y")
			}
		}
	}
}

func TestEachByteInEachPlace(t *testing.T) {
	for _, s := range []string{"abcdefghijklmnopqrstuvwx", "a/b/c.d-e_f/09z", "a", "ab", "a/b"} {
		for at := range len(s) {
			for v := range 256 {
				b := []byte(s)
				b[at] = byte(v)
				checkOne(t, string(b), cutUp(string(b))...)
			}
		}
	}
}

func TestSlashes(t *testing.T) {
	for _, s := range []string{"/", "//", "///", "/a", "a/", "/a/", "a//b", "a///b", "//a", "a//", "/a/b", "a/b/", "a/b//c", strings.Repeat("a/", 12), strings.Repeat("/", 24), "/" + strings.Repeat("a", 23), strings.Repeat("a", 23) + "/"} {
		checkOne(t, s)
	}
	checkOne(t, "a\\b")
	checkOne(t, "a\u2215b")
	checkOne(t, "a\xc0\xafb")
}

func TestDots(t *testing.T) {
	for _, dots := range []string{"", ".", ".."} {
		for _, s := range []string{dots, dots + "/a", "a/" + dots, "a/" + dots + "/b", dots + "/" + dots, "a/b/" + dots, dots + "/a/b", "/" + dots, dots + "/"} {
			checkOne(t, s)
		}
	}
	for _, part := range []string{"...", "....", ".a", "..a", "a.", "a..", "a.b", "a..b", ".-", "._", ".0", "..-", ".a.", "...a"} {
		checkOne(t, part, part)
		checkOne(t, part+"/a", part, "a")
		checkOne(t, "a/"+part, "a", part)
		checkOne(t, "a/"+part+"/b", "a", part, "b")
		checkOne(t, part+"/"+part, part, part)
		checkOne(t, part+"/.")
		checkOne(t, "../"+part)
	}
	checkOne(t, strings.Repeat(".", 24), strings.Repeat(".", 24))
	checkOne(t, strings.Repeat(".", 25))
}

func TestPartsOfOneAndOfMany(t *testing.T) {
	checkOne(t, "a", "a")
	checkOne(t, "report.txt", "report.txt")
	checkOne(t, "a/a", "a", "a")
	checkOne(t, "2026/11/notes-1_b.txt", "2026", "11", "notes-1_b.txt")
	for n := 1; n <= 12; n++ {
		want := strings.Split("abcdefghijkl"[:n], "")
		checkOne(t, strings.Join(want, "/"), want...)
	}
	checkOne(t, strings.Join(strings.Split("abcdefghijklm", ""), "/")) // 25 bytes
}

func TestPartsOfOneThatIsNotRight(t *testing.T) {
	for _, s := range []string{"", "/", "a/", "/a", "a//b", "a/..", "./a", "A", "a/B", "a b", "a\n", "\na", "a\x00", strings.Repeat("a", 25), "\xff", "é"} {
		if got := path.Parts(s); len(got) != 0 {
			t.Errorf("P501: Parts of %q: %q", s, got)
		}
		checkRight(t, s, false)
	}
}

// All texts of few kinds of bytes, one of them wrong.
func TestAllShortTexts(t *testing.T) {
	for _, s := range words("a./-A", 7) {
		checkOne(t, s, cutUp(s)...)
	}
}

// Texts that end as long as may be, or one byte on.
func TestTextsAtTheLimit(t *testing.T) {
	for _, s := range words("a./A", 5) {
		for _, n := range []int{17, 18, 19, 20, 21, 22, 23, 24} {
			ahead := strings.Repeat("x", n)
			checkOne(t, ahead+s, cutUp(ahead+s)...)
			checkOne(t, s+ahead, cutUp(s+ahead)...)
		}
	}
}

func TestWithinItsBeginnings(t *testing.T) {
	for _, s := range []string{"a/b", "a/b/c", "ab/cd/ef", ".../..a/.b", "a/a/a/a", strings.Repeat("a/", 11) + "bb"} {
		for end := range len(s) + 1 {
			// An end ahead of a / is one of a part.
			want := end == len(s) || s[end] == '/'
			checkWithin(t, s, s[:end], want)
			checkWithin(t, s[:end], s, end == len(s))
		}
		for from := 1; from <= len(s); from++ {
			checkWithin(t, s, s[from:], isWithin(s, s[from:]))
		}
	}
}

func TestWithinNot(t *testing.T) {
	for _, x := range [][2]string{
		{"ab", "a"}, {"ab/c", "a"}, {"a/bc", "a/b"}, {"a.b", "a"}, {"a-b/c", "a"}, {"a/b-c", "a/b"}, // the beginning ends within a part
		{"a", "ab"}, {"a", "a/b"}, {"a/b", "a/b/c"}, // the other way round
		{"a", "b"}, {"b/a", "a"}, {"a/b", "b"}, {"a/b", "b/a"}, {"a/b/c", "a/c"}, {"a/b", "a/c"}, {"c/a/b", "a/b"},
	} {
		checkWithin(t, x[0], x[1], false)
		checkWithin(t, x[0], x[0], true)
		checkWithin(t, x[1], x[1], true)
	}
}

func TestWithinWhereOneIsNotRight(t *testing.T) {
	for _, x := range [][2]string{
		{"a/b", ""}, {"a/b", "a/"}, {"a/b", "/"}, {"a/b", "."}, {"./a", "."}, {"../a", ".."}, {"/a", "/"}, {"/a/b", "/a"}, {"a//b", "a"}, {"a//b", "a/"}, {"a/b/", "a"}, {"a/b/", "a/b"},
		{"a/", "a"}, {"a/.", "a"}, {"a/..", "a"}, {"a/../b", "a"}, {"a/B", "a"}, {"A/b", "A"}, {"a/b c", "a"}, {"", ""}, {"", "a"}, {"a", ""}, {"A", "A"}, {"/", "/"},
		{"a/" + strings.Repeat("b", 23), "a"}, {strings.Repeat("b", 24) + "/a", strings.Repeat("b", 24)}, {strings.Repeat("b", 25), strings.Repeat("b", 25)}, {"b", strings.Repeat("b", 25)},
	} {
		checkWithin(t, x[0], x[1], false)
		checkWithin(t, x[1], x[0], false)
	}
}

func TestWithinAtTheLimit(t *testing.T) {
	checkWithin(t, "a/"+strings.Repeat("b", 22), "a", true)
	checkWithin(t, strings.Repeat("b", 22)+"/a", strings.Repeat("b", 22), true)
	checkWithin(t, strings.Repeat("b", 24), strings.Repeat("b", 24), true)
	checkWithin(t, strings.Repeat("b", 24), strings.Repeat("b", 23), false)
	checkWithin(t, strings.Repeat("b", 23), strings.Repeat("b", 24), false)
}

// Each two of all texts of few kinds of bytes.
func TestWithinOfAllShortTexts(t *testing.T) {
	l := words("ab./", 4)
	for _, s := range l {
		for _, dir := range l {
			checkWithin(t, s, dir, isWithin(s, dir))
		}
	}
	few := words("a/", 7)
	for _, s := range few {
		for _, dir := range few {
			checkWithin(t, s, dir, isWithin(s, dir))
		}
	}
}

// What one caller does to an answer, and to its spare room, no other sees.
func TestAnswersAreNewMemory(t *testing.T) {
	for _, s := range []string{"a", "a/b", "a/b/c.d-e_f/09z", strings.Repeat("a/", 11) + "bb"} {
		first, second := path.Parts(s), path.Parts(s)
		for i := range first[:cap(first)] {
			first[:cap(first)][i] = "turned"
		}
		for i, part := range append(first, "more", "and more") {
			if i < len(second) && second[i] == part {
				t.Errorf("P502: Parts of %q: part %d is shared by two answers", s, i)
			}
		}
		if !slices.Equal(second, cutUp(s)) {
			t.Errorf("P502: Parts of %q: %q, behind a turn of another's answer", s, second)
		}
		checkOne(t, s, cutUp(s)...)
	}
}

// No part lies in the memory of what was handed in.
func TestPartsAreNoPiecesOfTheArgument(t *testing.T) {
	for _, s := range []string{"a", "a/b", "a/b/c.d-e_f/09z", strings.Repeat("x", 24)} {
		s = strings.Clone(s)
		from := uintptr(unsafe.Pointer(unsafe.StringData(s)))
		for i, part := range path.Parts(s) {
			at := uintptr(unsafe.Pointer(unsafe.StringData(part)))
			if from <= at && at < from+uintptr(len(s)) {
				t.Errorf("P502: Parts of %q: part %d is a piece of it", s, i)
			}
		}
	}
}

// The same memory, another text in it: what is told is of what is there now.
func TestWhatIsHandedInIsNotKept(t *testing.T) {
	b := make([]byte, 5)
	for _, text := range []string{"a/b/c", "ab/cd", "abcde", "a//bc", "a/b/.", "a/..."} {
		copy(b, text)
		s := string(b)
		checkOne(t, s, cutUp(text)...)
		checkWithin(t, s, "a", isWithin(text, "a"))
		if s != text {
			t.Errorf("P502: %q has become %q", text, s)
		}
	}
}

// all calls everything on the texts, in the order of the places, and answers what was told at each of them.
func all(texts []string, places []int) []string {
	told := make([]string, len(texts))
	for _, i := range places {
		s, other := texts[i], texts[len(texts)-1-i]
		told[i] = strings.Join(path.Parts(s), " ")
		for _, yes := range []bool{path.Right(s), path.Within(s, other), path.Within(s, "a"), path.Within("a/b", s)} {
			if yes {
				told[i] += " yes"
			} else {
				told[i] += " no"
			}
		}
	}
	return told
}

func upTo(n int) []int {
	l := make([]int, n)
	for i := range l {
		l[i] = i
	}
	return l
}

func TestAnswersHangOnArgumentsAlone(t *testing.T) {
	texts := words("ab./A", 4)
	first := all(texts, upTo(len(texts)))
	if !slices.Equal(all(texts, upTo(len(texts))), first) {
		t.Error("P502: the same calls once more answer otherwise")
	}
	backwards := upTo(len(texts))
	slices.Reverse(backwards)
	if !slices.Equal(all(texts, backwards), first) {
		t.Error("P502: the same calls in another order answer otherwise")
	}
}

// All of them ask of the same texts, beside each other, and each one spoils its own answers.
func TestAnswersBesideOneAnother(t *testing.T) {
	texts := words("ab./A", 4)
	first := all(texts, upTo(len(texts)))
	var same [4]bool
	var workers sync.WaitGroup
	for i := range same {
		workers.Go(func() {
			for _, s := range texts {
				parts := path.Parts(s)
				for k := range parts {
					parts[k] = "turned"
				}
			}
			same[i] = slices.Equal(all(texts, upTo(len(texts))), first)
		})
	}
	workers.Wait()
	for i, ok := range same {
		if !ok {
			t.Errorf("P502: worker %d was answered otherwise", i)
		}
	}
}
