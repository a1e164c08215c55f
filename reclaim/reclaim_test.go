package reclaim_test

import (
	"fmt"
	"math"
	"slices"
	"strings"
	"sync"
	"testing"
	"unsafe"

	"cartridge/api"
	"cartridge/reclaim"
)

// on is a part of size bytes on the tape of that label.
func on(label, size int) api.Part {
	return api.Part{Head: api.Head{Len: size}, Label: label, Block: 1}
}

// file is a version of that path, of these parts; all else of it hangs on its mark alone, so that no two marks tell the same.
func file(mark int, path string, version int, parts ...api.Part) api.File {
	f := api.File{Path: path, Version: version, Size: mark, Sum: mark * 3, Serial: mark + 7, Parts: parts}
	for i := range f.Parts {
		f.Parts[i].Head.Path, f.Parts[i].Head.Version = path, version
		f.Parts[i].Head.Sum, f.Parts[i].Block = mark*3, mark+i+1
	}
	return f
}

// goneFile is the mark of a version from which on there is none.
func goneFile(mark int, path string, version int, parts ...api.Part) api.File {
	f := file(mark, path, version, parts...)
	f.Gone = true
	return f
}

// catalogOf is a catalog in its order, of files of all kinds on the tapes 1 to 4.
func catalogOf() []api.File {
	return []api.File{
		file(10, "a", 1, on(1, 64)),
		goneFile(11, "a", 2, on(1, 0)),
		file(12, "a", 3, on(1, 10), on(2, 70)),
		file(13, "b", 1, on(2, 1)),
		goneFile(14, "b", 2, on(3, 0)),
		file(15, "b/c", 1, on(3, 64), on(1, 65), on(3, 130)),
		file(16, "b/c", 4, on(1, 0)),
		goneFile(17, "d", 7, on(1, 0)),
		goneFile(18, "e", 1, on(4, 0)),
		goneFile(19, "e", 2, on(4, 0), on(4, 0)),
		file(20, "e", 3),
	}
}

func sameFile(a, b api.File) bool {
	return a.Path == b.Path && a.Version == b.Version && a.Size == b.Size && a.Sum == b.Sum && a.Serial == b.Serial && a.Gone == b.Gone && slices.Equal(a.Parts, b.Parts)
}

func sameFiles(a, b []api.File) bool { return slices.EqualFunc(a, b, sameFile) }

func clones(l []api.File) []api.File {
	l = slices.Clone(l)
	for i := range l {
		l[i].Parts = slices.Clone(l[i].Parts)
	}
	return l
}

// short tells no more of an answer than can be read.
func short(answer any) string {
	s := fmt.Sprint(answer)
	if len(s) > 300 {
		s = s[:300] + ".."
	}
	return s
}

// The chapter's words once more, by another way: each file against all others, with no table of paths.
func liveOf(l []api.File, label int) []api.File {
	return slices.DeleteFunc(slices.Clone(l), func(f api.File) bool {
		isOlder := slices.ContainsFunc(l, func(o api.File) bool { return o.Path == f.Path && o.Version > f.Version })
		there := 0
		for _, p := range f.Parts {
			if p.Label == label {
				there++
			}
		}
		return there == 0 || f.Gone && isOlder
	})
}

// needOf counts the blocks of a part one by one: its head, a block as often as bytes are left, its mark.
func needOf(size int) int {
	n := 2
	for left := min(size, api.MaxFile); left > 0; left -= api.Load {
		n++
	}
	return n
}

func usedOf(l []api.File, label int) int {
	n := 0
	for _, f := range liveOf(l, label) {
		for _, p := range f.Parts {
			if p.Label == label {
				n += needOf(p.Head.Len)
			}
		}
	}
	return n
}

// checkLive asks for the files of these places, and no others.
func checkLive(t *testing.T, what string, l []api.File, label int, places ...int) {
	t.Helper()
	var want []api.File
	for _, i := range places {
		want = append(want, l[i])
	}
	if got := reclaim.Live(l, label); !sameFiles(got, want) {
		t.Errorf("P2101: %s: Live of %d: %s, not %s", what, label, short(got), short(want))
	}
}

func checkUsed(t *testing.T, what string, l []api.File, label, want int) {
	t.Helper()
	if got := reclaim.Used(l, label); got != want {
		t.Errorf("P2101: %s: Used of %d: %d, not %d", what, label, got, want)
	}
}

// checkAll asks both calls of all these labels, against the chapter's words once more.
func checkAll(t *testing.T, what string, l []api.File, labels ...int) {
	t.Helper()
	for _, label := range labels {
		if got, want := reclaim.Live(l, label), liveOf(l, label); !sameFiles(got, want) {
			t.Errorf("P2101: %s: Live of %d: %s, not %s", what, label, short(got), short(want))
		}
		checkUsed(t, what, l, label, usedOf(l, label))
	}
}

func TestTheExample(t *testing.T) {
	for what, l := range map[string][]api.File{"nil": nil, "an empty list": {}, "a list with room": make([]api.File, 0, 4)} {
		for _, label := range []int{math.MinInt, -1, 0, 1, 2, math.MaxInt} {
			checkLive(t, what, l, label)
			checkUsed(t, what, l, label, 0)
		}
	}
}

func TestACatalog(t *testing.T) {
	l := catalogOf()
	checkLive(t, "a catalog", l, 1, 0, 2, 5, 6, 7)
	checkUsed(t, "a catalog", l, 1, 3+3+4+2+2)
	checkLive(t, "a catalog", l, 2, 2, 3)
	checkUsed(t, "a catalog", l, 2, 4+3)
	checkLive(t, "a catalog", l, 3, 4, 5)
	checkUsed(t, "a catalog", l, 3, 2+3+5)
	// Of what is gone, and older than another, nothing is left to be kept.
	checkLive(t, "a catalog", l, 4)
	checkUsed(t, "a catalog", l, 4, 0)
}

func TestALabelThatNoPartHas(t *testing.T) {
	for _, label := range []int{math.MinInt, -1, 0, 5, 10, 11, math.MaxInt} {
		checkLive(t, "a catalog", catalogOf(), label)
		checkUsed(t, "a catalog", catalogOf(), label, 0)
	}
	// Of a file without parts there is nothing on any tape.
	l := []api.File{file(1, "a", 1), goneFile(2, "b", 1), file(3, "c", 1, api.Part{})}
	checkLive(t, "files of no parts", l, 0, 2)
	checkUsed(t, "files of no parts", l, 0, 2)
	checkLive(t, "files of no parts", l, 1)
	checkUsed(t, "files of no parts", l, 1, 0)
}

func TestOneOfSeveralParts(t *testing.T) {
	for place := range 4 {
		parts := []api.Part{on(2, 1), on(3, 64), on(4, 65), on(5, 200)}
		parts[place].Label = 1
		l := []api.File{file(1, "a", 1, parts...)}
		what := fmt.Sprint("part ", place)
		checkLive(t, what, l, 1, 0)
		checkUsed(t, what, l, 1, []int{3, 3, 4, 6}[place])
		for i, p := range parts {
			checkLive(t, what, l, p.Label, 0)
			checkUsed(t, what, l, p.Label, []int{3, 3, 4, 6}[i])
		}
		checkLive(t, what, l, place+2)
		checkUsed(t, what, l, place+2, 0)
	}
}

// The file comes once, and each of its parts there counts.
func TestSeveralPartsOfOneFile(t *testing.T) {
	l := []api.File{
		file(1, "a", 1, on(1, 64), on(2, 5), on(1, 65)),
		file(2, "b", 1, on(1, 7), on(1, 7), on(1, 7)),
		file(3, "c", 1, on(2, 0), on(2, 128)),
	}
	// A part that comes up twice, the same in all, counts twice.
	l[1].Parts[1], l[1].Parts[2] = l[1].Parts[0], l[1].Parts[0]
	checkLive(t, "several parts", l, 1, 0, 1)
	checkUsed(t, "several parts", l, 1, 3+4+3+3+3)
	checkLive(t, "several parts", l, 2, 0, 2)
	checkUsed(t, "several parts", l, 2, 3+2+4)
}

func TestGoneAndOfTheGreatestVersion(t *testing.T) {
	for what, l := range map[string][]api.File{
		"alone":           {goneFile(1, "a", 3, on(1, 0))},
		"behind others":   {file(2, "a", 1, on(2, 4)), file(3, "a", 2, on(2, 4)), goneFile(1, "a", 3, on(1, 0))},
		"ahead of others": {goneFile(1, "a", 3, on(1, 0)), file(2, "a", 1, on(2, 4)), goneFile(3, "a", 2, on(2, 4))},
		"of another path": {file(2, "b", 9, on(1, 4)), goneFile(1, "a", 3, on(1, 0)), file(3, "c", 9, on(1, 4))},
	} {
		checkAll(t, what, l, 0, 1, 2, 3)
		if got := reclaim.Live(l, 1); !slices.ContainsFunc(got, func(f api.File) bool { return f.Gone }) {
			t.Errorf("P2101: %s: Live: %s", what, short(got))
		}
	}
	checkUsed(t, "alone", []api.File{goneFile(1, "a", 3, on(1, 0))}, 1, 2)
	// Of the greatest version, but on another tape: it isn't what that tape is kept for.
	l := []api.File{file(1, "a", 1, on(2, 4)), goneFile(2, "a", 2, on(1, 0))}
	checkLive(t, "another tape", l, 2, 0)
	checkLive(t, "another tape", l, 3)
	checkUsed(t, "another tape", l, 3, 0)
}

// It does not matter of what kind the greater version is, nor on which tape it lies, nor that it lies on none.
func TestGoneAndNotOfTheGreatestVersion(t *testing.T) {
	for what, greater := range map[string]api.File{
		"one on the tape":        file(1, "a", 4, on(1, 3)),
		"one on another tape":    file(1, "a", 4, on(2, 3)),
		"one on none":            file(1, "a", 4),
		"a gone one":             goneFile(1, "a", 4, on(1, 0)),
		"a gone one, elsewhere":  goneFile(1, "a", 4, on(2, 0)),
		"a gone one, on no tape": goneFile(1, "a", 4),
	} {
		gone := goneFile(2, "a", 3, on(1, 0))
		for _, l := range [][]api.File{{gone, greater}, {greater, gone}} {
			for i, f := range reclaim.Live(l, 1) {
				if sameFile(f, gone) {
					t.Errorf("P2101: behind it %s: Live %d is gone", what, i)
				}
			}
			checkAll(t, what, l, 0, 1, 2)
		}
	}
	l := []api.File{goneFile(1, "a", 1, on(1, 0)), goneFile(2, "a", 2, on(1, 0)), goneFile(3, "a", 3, on(2, 0))}
	checkLive(t, "gone ones", l, 1)
	checkUsed(t, "gone ones", l, 1, 0)
	checkLive(t, "gone ones", l, 2, 2)
	checkUsed(t, "gone ones", l, 2, 2)
}

// An older version can still be asked for, whatever comes behind it.
func TestNotGoneAndNotOfTheGreatestVersion(t *testing.T) {
	l := []api.File{
		file(1, "a", 1, on(1, 64)),
		file(2, "a", 2, on(2, 65)),
		file(3, "a", 3, on(1, 129)),
		goneFile(4, "a", 4, on(3, 0)),
	}
	checkLive(t, "older ones", l, 1, 0, 2)
	checkUsed(t, "older ones", l, 1, 3+5)
	checkLive(t, "older ones", l, 2, 1)
	checkUsed(t, "older ones", l, 2, 4)
	checkLive(t, "older ones", l, 3, 3)
	checkUsed(t, "older ones", l, 3, 2)
}

// A path's versions are its own, also where it is the beginning of another path, or empty.
func TestPathsThatBeginOneAnother(t *testing.T) {
	paths := []string{"", "\x00", "A", "a", "a\x00", "a-", "a/", "a/b", "a/b/c", "a/bc", "ab", "b"}
	for turn := range len(paths) {
		var l []api.File
		var all []int
		for i := range paths {
			path := paths[(i+turn)%len(paths)]
			l = append(l, goneFile(i, path, 1+i, on(1, 0)))
			all = append(all, i)
		}
		what := fmt.Sprint("paths from ", turn, " on")
		checkLive(t, what, l, 1, all...)
		checkUsed(t, what, l, 1, 2*len(paths))
	}
	l := []api.File{goneFile(1, "a", 2, on(1, 0)), file(2, "a/b", 3, on(1, 0)), goneFile(3, "a/b", 1, on(1, 0)), file(4, "a/b/c", 9, on(2, 0))}
	checkLive(t, "one within another", l, 1, 0, 1)
	checkUsed(t, "one within another", l, 1, 4)
}

// Neither by path nor by version nor by serial: as they come.
func TestTheOrderOfTheFiles(t *testing.T) {
	l := []api.File{
		file(9, "z", 2, on(1, 1)), file(3, "a", 5, on(1, 1)), goneFile(8, "m", 1, on(1, 0)), file(1, "z", 1, on(1, 1)), goneFile(7, "a", 7, on(1, 0)),
		file(2, "m", 9, on(1, 1)), goneFile(4, "", 3, on(1, 0)), file(5, "a", 6, on(2, 1)), file(6, "a", 1, on(1, 1)),
	}
	checkLive(t, "no catalog's order", l, 1, 0, 1, 3, 4, 5, 6, 8)
	checkUsed(t, "no catalog's order", l, 1, 3*5+2*2)
	back := clones(l)
	slices.Reverse(back)
	checkLive(t, "the other way", back, 1, 0, 2, 3, 4, 5, 7, 8)
	for turn := range len(l) {
		checkAll(t, fmt.Sprint("from ", turn, " on"), slices.Concat(l[turn:], l[:turn]), 0, 1, 2, 3)
	}
}

// Of one path and version there is no more than one in a catalog; of those that come, each is of the greatest.
func TestSeveralOfOneVersion(t *testing.T) {
	gone, other, left := goneFile(1, "a", 2, on(1, 0)), goneFile(2, "a", 2, on(1, 9)), file(3, "a", 2, on(1, 65))
	l := []api.File{gone, left, other, gone}
	checkLive(t, "several", l, 1, 0, 1, 2, 3)
	checkUsed(t, "several", l, 1, 2+4+3+2)
	l = append(l, file(4, "a", 3, on(2, 1)))
	checkLive(t, "several and a greater one", l, 1, 1)
	checkUsed(t, "several and a greater one", l, 1, 4)
}

func TestUsedOfAPart(t *testing.T) {
	for size, want := range map[int]int{
		math.MinInt: 2, math.MinInt + 1: 2, -65: 2, -1: 2, 0: 2,
		1: 3, 2: 3, api.Load - 1: 3, api.Load: 3, api.Load + 1: 4, 2*api.Load - 1: 4, 2 * api.Load: 4, 2*api.Load + 1: 5,
		62 * api.Load: 64, 62*api.Load + 1: 65, api.MaxFile: 65, api.MaxFile + 1: 65, 2 * api.MaxFile: 65, math.MaxInt - 1: 65, math.MaxInt: 65,
	} {
		l := []api.File{file(1, "a", 1, on(6, size), on(7, 1))}
		checkUsed(t, fmt.Sprint("a part of ", size), l, 6, want)
		checkLive(t, fmt.Sprint("a part of ", size), l, 6, 0)
	}
	for size := range api.MaxFile + 1 {
		checkUsed(t, fmt.Sprint("a part of ", size), []api.File{file(1, "a", 1, on(6, size))}, 6, needOf(size))
	}
}

// Sizes are rounded up part by part, and those of one file not taken together.
func TestUsedOfSeveralFiles(t *testing.T) {
	var l []api.File
	want := 0
	for size := range 200 {
		l = append(l, file(size, fmt.Sprint("f/", size), 1, on(1, size), on(2, 4000), on(1, 2*size)))
		want += needOf(size) + needOf(2*size)
		checkUsed(t, fmt.Sprint("files up to ", size), l, 1, want)
		checkUsed(t, fmt.Sprint("files up to ", size), l, 2, 65*(size+1))
	}
}

// Nothing else of a file or of a head has a say.
func TestAllOtherFields(t *testing.T) {
	odd := api.Head{Path: "other", Version: 99, Size: -3, From: math.MaxInt, Len: 65, Serial: -5, Sum: -6, Gone: true}
	l := []api.File{
		{Path: "a", Version: 2, Size: -1, Sum: -2, Serial: -8, Parts: []api.Part{{Head: odd, Label: 1, Block: -4}, {Head: odd, Label: 2, Block: math.MinInt}}},
		{Path: "other", Version: 98, Gone: true, Size: 4000, Serial: math.MaxInt, Parts: []api.Part{{Head: odd, Label: 1}}},
		{Path: "a", Version: 1, Gone: true, Serial: math.MaxInt, Parts: []api.Part{{Label: 1}}},
	}
	checkLive(t, "odd fields", l, 1, 0, 1)
	checkUsed(t, "odd fields", l, 1, 4+4)
	checkLive(t, "odd fields", l, 2, 0)
	checkUsed(t, "odd fields", l, 2, 4)
	// Not Gone in its head, but in the file.
	l = []api.File{file(1, "a", 1, on(1, 3)), file(2, "a", 2, on(2, 3))}
	l[0].Gone = true
	checkLive(t, "gone in the file alone", l, 1)
	checkUsed(t, "gone in the file alone", l, 1, 0)
}

// A catalog has no versions below 1, and labels are not below 0; what is handed in may.
func TestNumbersThatCanNotBe(t *testing.T) {
	for _, low := range []int{math.MinInt, -9, -2, -1, 0} {
		l := []api.File{goneFile(1, "a", low, on(low, 0)), goneFile(2, "b", low, on(low, 0)), goneFile(3, "b", low+1, on(low, 0))}
		checkLive(t, "low versions", l, low, 0, 2)
		checkUsed(t, "low versions", l, low, 4)
	}
	l := []api.File{
		goneFile(1, "a", math.MinInt, on(math.MaxInt, 0)), goneFile(2, "a", math.MaxInt, on(math.MaxInt, 0)), goneFile(3, "a", math.MaxInt-1, on(math.MaxInt, 0)),
		file(4, "a", math.MinInt, on(math.MinInt, 4000)), file(5, "b", 1, on(math.MaxInt, 1), on(math.MinInt, 1)),
	}
	checkLive(t, "great numbers", l, math.MaxInt, 1, 4)
	checkUsed(t, "great numbers", l, math.MaxInt, 2+3)
	checkLive(t, "great numbers", l, math.MinInt, 3, 4)
	checkUsed(t, "great numbers", l, math.MinInt, 65+3)
	checkAll(t, "great numbers", l, -1, 0, 1, math.MaxInt-1, math.MinInt+1)
}

// All lists of up to 3 files of two paths, three versions, both kinds, and parts on one tape, the other, both or none.
func TestAllSmallLists(t *testing.T) {
	kinds := 2 * 3 * 2 * 4
	for n := range 4 {
		lists := 1
		for range n {
			lists *= kinds
		}
		for which := range lists {
			var l []api.File
			for i, rest := 0, which; i < n; i, rest = i+1, rest/kinds {
				k := rest % kinds
				f := file(i+1, "a"+strings.Repeat("/b", k%2), k/2%3)
				f.Gone = k/6%2 == 1
				for tape := range 2 {
					if k/12>>tape&1 == 1 {
						f.Parts = append(f.Parts, on(tape+1, 60*i+tape))
					}
				}
				l = append(l, f)
			}
			checkAll(t, fmt.Sprint("list ", which, " of ", n), l, 1, 2, 3)
			if t.Failed() {
				return
			}
		}
	}
}

// row is a row of numbers that always is the same.
type row uint32

func (r *row) below(n int) int {
	*r = *r*1664525 + 1013904223
	return int(uint64(*r) * uint64(n) >> 32)
}

func TestLongerLists(t *testing.T) {
	next := row(21)
	paths := []string{"", "a", "a/b", "a/c", "ab", "b", "z"}
	for round := range 400 {
		var l []api.File
		for i := range next.below(60) {
			f := file(i, paths[next.below(len(paths))], next.below(8)-1)
			f.Gone = next.below(2) == 0
			for range next.below(4) {
				f.Parts = append(f.Parts, on(next.below(5), next.below(300)-9))
			}
			l = append(l, f)
		}
		checkAll(t, fmt.Sprint("round ", round), l, -1, 0, 1, 2, 3, 4, 5)
		if t.Failed() {
			return
		}
	}
}

// A catalog of many files is asked in no more time than goes by in going through them.
func TestManyFiles(t *testing.T) {
	const paths = 100000
	var l []api.File
	var want []int
	for i := range paths {
		path := fmt.Sprintf("f/%06d", i)
		l = append(l, goneFile(i, path, 1, on(i%2, 0)), file(i, path, 2, on(i%3, 70)), goneFile(i, path, 3, on(i%5, 0)))
		if i%3 == 1 {
			want = append(want, 3*i+1)
		}
		if i%5 == 1 {
			want = append(want, 3*i+2)
		}
	}
	checkLive(t, "many files", l, 1, want...)
	checkUsed(t, "many files", l, 1, paths/3*4+paths/5*2)
	var versions []api.File
	for i := range paths {
		versions = append(versions, goneFile(i, "a", paths-i, on(1, 0)))
	}
	checkLive(t, "many versions", versions, 1, 0)
	slices.Reverse(versions)
	checkLive(t, "many versions, rising", versions, 1, paths-1)
	checkUsed(t, "many versions, rising", versions, 1, 2)
}

// ask is what both calls are asked.
type ask struct {
	what  string
	l     []api.File
	label int
}

// told is what they answer.
type told struct {
	live []api.File
	used int
}

func tell(x ask) told { return told{reclaim.Live(x.l, x.label), reclaim.Used(x.l, x.label)} }

func (a told) same(b told) bool { return sameFiles(a.live, b.live) && a.used == b.used }

func (a told) copied() told { return told{clones(a.live), a.used} }

// scribble turns all that an answer lies in, its spare room too.
func (a told) scribble() {
	live := a.live[:cap(a.live)]
	for i := range live {
		parts := live[i].Parts[:cap(live[i].Parts)]
		for k := range parts {
			parts[k] = api.Part{Head: api.Head{Path: "scribbled", Len: -k}, Label: -7, Block: -8}
		}
		live[i] = api.File{Path: "scribbled", Version: -i, Gone: i%2 == 0}
	}
}

func asks() []ask {
	odd := catalogOf()
	slices.Reverse(odd)
	odd = append(odd, catalogOf()...)
	twice := goneFile(5, "t", 2, on(1, 4), on(2, 200), on(1, 99))
	return []ask{
		{"nothing", nil, 1},
		{"a catalog, tape 1", catalogOf(), 1},
		{"a catalog, tape 2", catalogOf(), 2},
		{"a catalog, tape 3", catalogOf(), 3},
		{"none live", catalogOf(), 4},
		{"no part there", catalogOf(), 9},
		{"no catalog's order", odd, 1},
		{"the same file twice", []api.File{twice, twice, file(6, "t", 1, on(1, 1))}, 1},
	}
}

// guarded answers the same with filled room behind each list.
func guarded(x ask) ask {
	l := slices.Grow(clones(x.l), 3)
	for i := range l {
		parts := slices.Grow(l[i].Parts, 2)
		l[i].Parts = parts
		for k := len(parts); k < cap(parts); k++ {
			parts[:cap(parts)][k] = on(x.label, 40+k)
		}
	}
	for k := len(l); k < cap(l); k++ {
		l[:cap(l)][k] = file(k, "a", 90+k, on(x.label, 500))
	}
	x.l = l
	return x
}

// whole answers a copy of it, its spare room with it.
func whole(x ask) ask {
	l := slices.Clone(x.l[:cap(x.l)])
	for i := range l {
		l[i].Parts = slices.Clone(l[i].Parts[:cap(l[i].Parts)])
	}
	x.l = l
	return x
}

func TestWhatIsHandedInStays(t *testing.T) {
	for i, x := range asks() {
		y := guarded(x)
		was := whole(y)
		got := tell(y)
		if !sameFiles(whole(y).l, was.l) {
			t.Errorf("P2102: %s: what was handed in has changed", x.what)
		}
		// What is asked again was never handed in: a call that turned it can't hide behind that.
		if !got.same(tell(asks()[i])) {
			t.Errorf("P2102: %s: an answer hangs on spare room", x.what)
		}
		got.scribble()
		if !sameFiles(whole(y).l, was.l) {
			t.Errorf("P2102: %s: an answer lies in what was handed in", x.what)
		}
	}
}

// Who owns what was handed in turns it: no answer is turned by that, and none comes from what was.
func TestWhatIsHandedInIsNotKept(t *testing.T) {
	for i, x := range asks() {
		y := x
		y.l = clones(x.l)
		got := tell(y)
		was := got.copied()
		for i := range y.l {
			for k := range y.l[i].Parts {
				y.l[i].Parts[k] = on(77, k)
			}
			y.l[i].Path, y.l[i].Version, y.l[i].Gone = "turned", i, !y.l[i].Gone
		}
		checkAll(t, x.what+", turned", y.l, x.label, 77)
		if !got.same(was) || !tell(asks()[i]).same(was) {
			t.Errorf("P2102: %s: what was handed in is kept", x.what)
		}
	}
}

func TestAnswersAreNewMemory(t *testing.T) {
	for _, x := range asks() {
		first, second := tell(x), tell(x)
		want := first.copied()
		first.scribble()
		if !second.same(want) || !tell(x).same(want) {
			t.Errorf("P2102: %s: two answers share memory", x.what)
		}
	}
}

// No list of an answer goes on in the memory of another: each is scribbled over to its end while the others are watched.
func TestListsOfOneAnswerShareNothing(t *testing.T) {
	for _, x := range asks() {
		live := reclaim.Live(x.l, x.label)
		for i, f := range live {
			want := clones(live)
			parts := f.Parts[:cap(f.Parts)]
			for k := range parts {
				parts[k] = api.Part{Label: -i, Block: -k}
			}
			want[i].Parts = slices.Clone(f.Parts)
			if !sameFiles(live, want) {
				t.Errorf("P2102: %s: the parts of file %d are another's", x.what, i)
			}
		}
	}
}

// Not even where the files that are handed in share one list of parts.
func TestFilesOfTheSameParts(t *testing.T) {
	parts := []api.Part{on(1, 3), on(1, 70), on(2, 9)}
	l := []api.File{{Path: "a", Version: 1, Parts: parts}, {Path: "b", Version: 1, Parts: parts}, {Path: "c", Version: 1, Gone: true, Parts: parts[1:2]}}
	want := clones(l)
	got := reclaim.Live(l, 1)
	checkUsed(t, "the same parts", l, 1, 3+4+3+4+4)
	for i := range got {
		got[i].Parts[0].Label = -i - 1
		want[i].Parts[0].Label = -i - 1
	}
	if !sameFiles(got, want) {
		t.Errorf("P2102: files that shared their parts share them still: %s", short(got))
	}
}

// No path lies in the memory of what was handed in.
func TestPathsAreNoPiecesOfTheArgument(t *testing.T) {
	f := file(3, strings.Clone("a/path/of/some/bytes"), 2, on(1, 2), on(2, 3))
	got := reclaim.Live([]api.File{f}, 1)[0]
	for i, path := range []string{got.Path, got.Parts[0].Head.Path, got.Parts[1].Head.Path} {
		if path != f.Path || unsafe.StringData(path) == unsafe.StringData(f.Path) {
			t.Errorf("P2102: path %d of an answer lies in the argument", i)
		}
	}
}

func everything(l []ask) []told {
	var out []told
	for _, x := range l {
		out = append(out, tell(x))
	}
	return out
}

func TestAnswersHangOnArgumentsAlone(t *testing.T) {
	l := asks()
	first := everything(l)
	slices.Reverse(l)
	for range 20 {
		backwards := everything(l)
		slices.Reverse(backwards)
		if !slices.EqualFunc(backwards, first, told.same) {
			t.Error("P2102: the same calls in another order answer otherwise")
		}
	}
}

// All of them ask the same, beside each other.
func TestAnswersBesideOneAnother(t *testing.T) {
	l := asks()
	first := everything(l)
	var same [4]bool
	var workers sync.WaitGroup
	for i := range same {
		workers.Go(func() { same[i] = slices.EqualFunc(everything(l), first, told.same) })
	}
	workers.Wait()
	for i, ok := range same {
		if !ok {
			t.Errorf("P2102: worker %d was answered otherwise", i)
		}
	}
}
