package listing_test

import (
	"cmp"
	"fmt"
	"math"
	"slices"
	"strings"
	"sync"
	"testing"
	"unsafe"

	"cartridge/api"
	"cartridge/listing"
)

// file is one of that path, version and serial, with parts; all else of it hangs on its mark alone, so that no two marks tell the same.
func file(mark int, path string, version, serial int) api.File {
	h := api.Head{Path: path, Version: version, Size: mark, Len: mark, Serial: serial, Sum: mark * 3}
	return api.File{Path: path, Version: version, Size: mark, Sum: mark * 3, Serial: serial,
		Parts: []api.Part{{Head: h, Label: mark + 1, Block: mark + 2}, {Head: h, Label: mark + 4, Block: 1}}}
}

// goneFile is the mark of a version from which on there is none.
func goneFile(mark int, path string, version, serial int) api.File {
	f := file(mark, path, version, serial)
	f.Gone = true
	return f
}

// catalogOf is a catalog in its order, with versions that are gone in all places.
func catalogOf() []api.File {
	return []api.File{
		file(10, "a", 1, 4),
		goneFile(11, "a", 2, 6),
		file(12, "a", 3, 9),
		file(13, "b/c", 1, 2),
		file(14, "b/c", 2, 3),
		goneFile(15, "b/c", 3, 12),
		file(16, "b/d", 4, 5),
		goneFile(17, "e", 7, 8),
		goneFile(18, "f", 1, 1),
		file(19, "f", 2, 7),
	}
}

func sameFile(a, b api.File) bool {
	return a.Path == b.Path && a.Version == b.Version && a.Size == b.Size && a.Sum == b.Sum && a.Serial == b.Serial && a.Gone == b.Gone && slices.Equal(a.Parts, b.Parts)
}

func sameFiles(a, b []api.File) bool { return slices.EqualFunc(a, b, sameFile) }

func clone(f api.File) api.File {
	f.Parts = slices.Clone(f.Parts)
	return f
}

func clones(l []api.File) []api.File {
	var out []api.File
	for _, f := range l {
		out = append(out, clone(f))
	}
	return out
}

// short tells no more of an answer than can be read.
func short(answer any) string {
	s := fmt.Sprint(answer)
	if len(s) > 300 {
		s = s[:300] + ".."
	}
	return s
}

// pathsOf are all paths of the files, each once, rising.
func pathsOf(l []api.File) []string {
	var paths []string
	for _, f := range l {
		paths = append(paths, f.Path)
	}
	slices.Sort(paths)
	return slices.Compact(paths)
}

// The chapter's words once more, by another way: the files sorted by falling versions, in a stable sort.
func newestOf(l []api.File, path string) (api.File, bool) {
	of := slices.DeleteFunc(slices.Clone(l), func(f api.File) bool { return f.Path != path })
	slices.SortStableFunc(of, func(a, b api.File) int { return cmp.Compare(b.Version, a.Version) })
	if len(of) == 0 || of[0].Gone {
		return api.File{}, false
	}
	return of[0], true
}

func getOf(l []api.File, path string, version int) (api.File, bool) {
	if version == 0 {
		return newestOf(l, path)
	}
	return newestOf(slices.DeleteFunc(slices.Clone(l), func(f api.File) bool { return f.Version != version }), path)
}

func namesOf(l []api.File) []string {
	return slices.DeleteFunc(pathsOf(l), func(path string) bool {
		_, ok := newestOf(l, path)
		return !ok
	})
}

func nextOf(l []api.File, path string) int {
	var versions []int
	for _, f := range l {
		if f.Path == path {
			versions = append(versions, f.Version)
		}
	}
	return behindAll(versions)
}

func serialOf(l []api.File) int {
	var serials []int
	for _, f := range l {
		serials = append(serials, f.Serial)
	}
	return behindAll(serials)
}

func behindAll(numbers []int) int {
	if len(numbers) == 0 {
		return 1
	}
	slices.Sort(numbers)
	return numbers[len(numbers)-1] + 1
}

// checkFile asks whether an answer is that file, and without one nothing at all.
func checkFile(t *testing.T, what string, got api.File, ok bool, want ...api.File) {
	t.Helper()
	if len(want) == 0 {
		if ok || !sameFile(got, api.File{}) {
			t.Errorf("P1801: %s: %s, %v, not none", what, short(got), ok)
		}
		return
	}
	if !ok || !sameFile(got, want[0]) {
		t.Errorf("P1801: %s: %s, %v, not %s", what, short(got), ok, short(want[0]))
	}
}

func checkNewest(t *testing.T, what string, l []api.File, path string, want ...api.File) {
	t.Helper()
	got, ok := listing.Newest(l, path)
	checkFile(t, what+": Newest of "+path, got, ok, want...)
	got, ok = listing.Get(l, path, 0)
	checkFile(t, what+": Get of version 0 of "+path, got, ok, want...)
}

func checkGet(t *testing.T, what string, l []api.File, path string, version int, want ...api.File) {
	t.Helper()
	got, ok := listing.Get(l, path, version)
	checkFile(t, fmt.Sprintf("%s: Get of version %d of %s", what, version, path), got, ok, want...)
}

func checkNames(t *testing.T, what string, l []api.File, want ...string) {
	t.Helper()
	if got := listing.Names(l); !slices.Equal(got, want) {
		t.Errorf("P1801: %s: Names: %s, not %s", what, short(got), short(want))
	}
}

func checkNext(t *testing.T, what string, l []api.File, path string, want int) {
	t.Helper()
	if got := listing.Next(l, path); got != want {
		t.Errorf("P1801: %s: Next of %s: %d, not %d", what, path, got, want)
	}
}

func checkSerial(t *testing.T, what string, l []api.File, want int) {
	t.Helper()
	if got := listing.Serial(l); got != want {
		t.Errorf("P1801: %s: Serial: %d, not %d", what, got, want)
	}
}

// checkAll asks all calls of all these paths and versions, against the chapter's words once more.
func checkAll(t *testing.T, what string, l []api.File, paths []string, versions []int) {
	t.Helper()
	some := func(f api.File, ok bool) []api.File {
		if !ok {
			return nil
		}
		return []api.File{f}
	}
	for _, path := range paths {
		checkNewest(t, what, l, path, some(newestOf(l, path))...)
		checkNext(t, what, l, path, nextOf(l, path))
		for _, version := range versions {
			checkGet(t, what, l, path, version, some(getOf(l, path, version))...)
		}
	}
	checkNames(t, what, l, namesOf(l)...)
	checkSerial(t, what, l, serialOf(l))
}

func TestTheExample(t *testing.T) {
	checkNext(t, "the example", nil, "a", 1)
	checkNext(t, "the example", []api.File{}, "", 1)
}

func TestNoFiles(t *testing.T) {
	for what, l := range map[string][]api.File{"nil": nil, "an empty list": {}, "a list with room": make([]api.File, 0, 4)} {
		for _, path := range []string{"", "a", "a/b", "\x00"} {
			checkNewest(t, what, l, path)
			checkNext(t, what, l, path, 1)
			for _, version := range []int{math.MinInt, -1, 1, 2, math.MaxInt} {
				checkGet(t, what, l, path, version)
			}
		}
		checkNames(t, what, l)
		checkSerial(t, what, l, 1)
	}
}

func TestOneFile(t *testing.T) {
	f := file(7, "a/b", 3, 5)
	l := []api.File{f}
	checkNewest(t, "one file", l, "a/b", f)
	checkGet(t, "one file", l, "a/b", 3, f)
	for _, version := range []int{math.MinInt, -3, -1, 1, 2, 4, math.MaxInt} {
		checkGet(t, "one file", l, "a/b", version)
	}
	checkNext(t, "one file", l, "a/b", 4)
	checkNames(t, "one file", l, "a/b")
	checkSerial(t, "one file", l, 6)
}

func TestOneFileThatIsGone(t *testing.T) {
	l := []api.File{goneFile(7, "a/b", 3, 5)}
	checkNewest(t, "a gone one", l, "a/b")
	for _, version := range []int{-3, 1, 2, 3, 4} {
		checkGet(t, "a gone one", l, "a/b", version)
	}
	checkNext(t, "a gone one", l, "a/b", 4)
	checkNames(t, "a gone one", l)
	checkSerial(t, "a gone one", l, 6)
}

// Not those paths either of which the file's is a piece, or that are a piece of it.
func TestOtherPaths(t *testing.T) {
	for what, l := range map[string][]api.File{"one file": {file(7, "a/b", 3, 5)}, "a catalog": catalogOf(), "a gone one": {goneFile(7, "a/b", 3, 5)}} {
		for _, path := range []string{"", "A", "a/", "a/b/", "a/b/c", "/a", "b", "b/", "b/cc", "c", "e/", "\x00", "a\x00", "A/B"} {
			checkNewest(t, what, l, path)
			checkNext(t, what, l, path, 1)
			for _, version := range []int{-1, 1, 2, 3, 4, 7} {
				checkGet(t, what, l, path, version)
			}
		}
	}
}

func TestNewestOfSeveralVersions(t *testing.T) {
	l := catalogOf()
	checkNewest(t, "a catalog", l, "a", l[2])
	checkNewest(t, "a catalog", l, "b/d", l[6])
	checkNewest(t, "a catalog", l, "f", l[9])
	// There are older ones that are not gone; that helps nothing.
	checkNewest(t, "a catalog", l, "b/c")
	checkNewest(t, "a catalog", l, "e")
}

func TestGetOfEachVersion(t *testing.T) {
	l := catalogOf()
	for i, f := range l {
		if f.Gone {
			checkGet(t, fmt.Sprint("file ", i), l, f.Path, f.Version)
		} else {
			checkGet(t, fmt.Sprint("file ", i), l, f.Path, f.Version, f)
		}
	}
	for path, versions := range map[string][]int{"a": {-3, -2, -1, 4, 5}, "b/c": {-1, 4}, "b/d": {-4, 1, 2, 3, 5}, "e": {1, 6, 8}, "f": {3, math.MinInt, math.MaxInt}} {
		for _, version := range versions {
			checkGet(t, "a version that is not there", l, path, version)
		}
	}
}

// The other fields are told as they are, and have no say in what is told.
func TestAllOfTheFileIsTold(t *testing.T) {
	h := api.Head{Path: "other", Version: -4, Size: 1, From: 2, Len: 3, Serial: 4, Sum: 5, Gone: true}
	f := api.File{Path: "a", Version: 2, Size: -1, Sum: -2, Serial: 8, Parts: []api.Part{{Head: h, Label: 6, Block: 7}, {}, {Label: -1, Block: -2}}}
	l := []api.File{{Path: "a", Version: 1, Size: 99, Sum: 99, Serial: 99}, f}
	checkNewest(t, "a file of odd fields", l, "a", f)
	checkGet(t, "a file of odd fields", l, "a", 2, f)
	checkNames(t, "a file of odd fields", l, "a")
	checkNext(t, "a file of odd fields", l, "a", 3)
	checkGet(t, "a file of no parts", l, "a", 1, l[0])
}

func TestNamesOfACatalog(t *testing.T) {
	checkNames(t, "a catalog", catalogOf(), "a", "b/d", "f")
	for i := range catalogOf() {
		checkNames(t, fmt.Sprint("a catalog from ", i, " on"), catalogOf()[i:], namesOf(catalogOf()[i:])...)
	}
}

// Byte by byte: neither by letters nor by parts of the path, and of those of which one begins the other the short one first.
func TestNamesRise(t *testing.T) {
	rising := []string{"", "\x00", "-", ".", "/", "0", "10", "9", "A", "Z", "_", "a", "a-b", "a.b", "a/b", "a/b/c", "a0", "aA", "aa", "b", "z", "\x80", "\xc3\xa9", "\xff"}
	for step := range len(rising) {
		var l []api.File
		for i := range rising {
			path := rising[(i+step)%len(rising)]
			l = append(l, file(i, path, 1+i%3, i), goneFile(i+50, path, 1, i), file(i+90, path, 5, i))
		}
		if !slices.Equal(pathsOf(l), rising) {
			t.Fatal("the test's paths don't rise")
		}
		checkNames(t, fmt.Sprint("paths from ", step, " on"), l, rising...)
		slices.Reverse(l)
		checkNames(t, fmt.Sprint("paths down from ", step), l, rising...)
	}
}

func TestNextOfACatalog(t *testing.T) {
	for path, want := range map[string]int{"a": 4, "b/c": 4, "b/d": 5, "e": 8, "f": 3, "g": 1, "": 1, "b": 1} {
		checkNext(t, "a catalog", catalogOf(), path, want)
	}
}

func TestSerialOfACatalog(t *testing.T) {
	l := catalogOf()
	checkSerial(t, "a catalog", l, 13) // that of a gone one
	checkSerial(t, "a catalog without it", slices.Delete(catalogOf(), 5, 6), 10)
	for i := range l {
		checkSerial(t, fmt.Sprint("a catalog up to ", i), l[:i], serialOf(l[:i]))
		checkSerial(t, fmt.Sprint("a catalog from ", i, " on"), l[i:], serialOf(l[i:]))
	}
	for place := range 4 {
		l := []api.File{file(1, "a", 1, 3), file(2, "a", 9, 3), file(3, "b", 1, 3), file(4, "c", 2, 3)}
		l[place].Serial = 30
		checkSerial(t, fmt.Sprint("the greatest in place ", place), l, 31)
		l[place].Gone = true
		checkSerial(t, fmt.Sprint("the greatest, gone, in place ", place), l, 31)
	}
}

func TestTheFirstOfSeveral(t *testing.T) {
	first, second, gone := file(1, "a", 2, 5), file(2, "a", 2, 9), goneFile(3, "a", 2, 7)
	older, other := file(4, "a", 1, 20), file(5, "b", 9, 1)
	for what, l := range map[string][]api.File{
		"side by side":   {first, second, gone},
		"others between": {older, first, other, second, older, gone},
		"falling":        {other, first, gone, second, older},
		"thrice":         {first, first, second, first},
	} {
		checkNewest(t, what, l, "a", first)
		checkGet(t, what, l, "a", 2, first)
		checkNext(t, what, l, "a", 3)
	}
	for what, l := range map[string][]api.File{
		"the gone one first":             {gone, first, second},
		"the gone one first, and others": {older, other, gone, first, older, second},
	} {
		checkNewest(t, what, l, "a")
		checkGet(t, what, l, "a", 2)
		checkNext(t, what, l, "a", 3)
	}
	checkNames(t, "a gone one behind", []api.File{first, gone}, "a")
	checkNames(t, "a gone one first", []api.File{gone, first, other}, "b")
	// Of several the first, whatever their serials.
	checkGet(t, "an older one first", []api.File{second, first}, "a", 2, second)
}

// A catalog has no versions below 1; what is handed in may.
func TestVersionsThatCanNotBe(t *testing.T) {
	below, zero := file(1, "a", -5, -9), file(2, "a", 0, -3)
	checkNewest(t, "a version below 0", []api.File{below}, "a", below)
	checkGet(t, "a version below 0", []api.File{below}, "a", -5, below)
	checkNext(t, "a version below 0", []api.File{below}, "a", -4)
	checkSerial(t, "a serial below 0", []api.File{below}, -8)
	checkNames(t, "a version below 0", []api.File{below}, "a")
	checkNewest(t, "version 0", []api.File{below, zero, below}, "a", zero)
	checkNext(t, "version 0", []api.File{below, zero, below}, "a", 1)
	checkSerial(t, "serials below 0", []api.File{below, zero, below}, -2)
	// Version 0 asks for the newest, also where there is a version 0.
	newer := file(3, "a", 4, 2)
	checkNewest(t, "version 0 and a newer one", []api.File{zero, newer}, "a", newer)
	checkNewest(t, "version 0 and a gone one", []api.File{zero, goneFile(4, "a", 1, 1)}, "a")
	checkNewest(t, "the empty path", []api.File{file(6, "", 2, 1)}, "", file(6, "", 2, 1))
	checkNames(t, "the empty path", []api.File{newer, file(6, "", 2, 1)}, "", "a")
}

func TestGreatNumbers(t *testing.T) {
	least, most := file(1, "a", math.MinInt, math.MinInt), file(2, "a", math.MaxInt, math.MaxInt)
	l := []api.File{least, most, file(3, "a", 1, 1)}
	checkNewest(t, "great numbers", l, "a", most)
	checkGet(t, "great numbers", l, "a", math.MaxInt, most)
	checkGet(t, "great numbers", l, "a", math.MinInt, least)
	checkNewest(t, "the least", l[:1], "a", least)
	checkNext(t, "the least", l[:1], "a", math.MinInt+1)
	checkSerial(t, "the least", l[:1], math.MinInt+1)
	checkNames(t, "great numbers", l, "a")
	near := []api.File{file(4, "a", math.MaxInt-1, math.MaxInt-1)}
	checkNext(t, "nearly the most", near, "a", math.MaxInt)
	checkSerial(t, "nearly the most", near, math.MaxInt)
}

// All lists of up to 4 files of two paths, three versions and both kinds of them.
func TestAllSmallLists(t *testing.T) {
	kinds := 2 * 3 * 2
	for n := range 5 {
		lists := 1
		for range n {
			lists *= kinds
		}
		for which := range lists {
			var l []api.File
			for i, rest := 0, which; i < n; i, rest = i+1, rest/kinds {
				k := rest % kinds
				f := file(i+1, string(rune('a'+k%2)), k/2%3, (k*5+i*3)%7)
				f.Gone = k/6 == 1
				l = append(l, f)
			}
			checkAll(t, fmt.Sprint("list ", which, " of ", n), l, []string{"a", "b", "c"}, []int{-1, 1, 2, 3})
			if t.Failed() {
				return
			}
		}
	}
}

// row is a row of numbers that always is the same.
type row uint32

func (r *row) below(n int) int {
	*r = *r*1664525 + 1013904223
	return int(uint64(*r) * uint64(n) >> 32)
}

func TestLongerLists(t *testing.T) {
	next := row(18)
	paths := []string{"", "a", "a/b", "a/c", "ab", "b", "z"}
	for round := range 400 {
		var l []api.File
		for i := range next.below(60) {
			f := file(i, paths[next.below(len(paths))], next.below(8)-1, next.below(300)-9)
			f.Gone = next.below(4) == 0
			l = append(l, f)
		}
		if round%2 == 0 {
			slices.SortStableFunc(l, func(a, b api.File) int {
				return cmp.Or(cmp.Compare(a.Path, b.Path), cmp.Compare(a.Version, b.Version))
			})
		}
		checkAll(t, fmt.Sprint("round ", round), l, append(paths, "c"), []int{-2, -1, 1, 2, 3, 4, 5, 6, 7, 8})
		if t.Failed() {
			return
		}
	}
}

// A catalog of many files is asked in no more time than goes by once through them, or in sorting them.
func TestManyFiles(t *testing.T) {
	const paths = 100000
	var l []api.File
	var want []string
	for i := range paths {
		path := fmt.Sprintf("f/%06d", i)
		l = append(l, api.File{Path: path, Version: 1, Serial: i + 1}, api.File{Path: path, Version: 2, Serial: paths + i + 1, Gone: i%3 == 0})
		if i%3 != 0 {
			want = append(want, path)
		}
	}
	checkNames(t, "many files", l, want...)
	checkSerial(t, "many files", l, 2*paths+1)
	checkNewest(t, "many files", l, "f/099998", l[2*99998+1])
	checkNext(t, "many files", l, "f/099999", 3)
	var versions []api.File
	for i := range paths {
		versions = append(versions, api.File{Path: "a", Version: paths - i, Serial: i, Gone: i == 1})
	}
	checkNames(t, "many versions", versions, "a")
	checkNext(t, "many versions", versions, "a", paths+1)
	checkGet(t, "many versions", versions, "a", 1, versions[paths-1])
	checkGet(t, "many versions", versions, "a", paths-1)
}

// ask is what all calls are asked.
type ask struct {
	what    string
	l       []api.File
	path    string
	version int
}

// told is what they answer.
type told struct {
	newest, got     api.File
	isNewest, isGot bool
	names           []string
	next, serial    int
}

func tell(x ask) told {
	var a told
	a.newest, a.isNewest = listing.Newest(x.l, x.path)
	a.got, a.isGot = listing.Get(x.l, x.path, x.version)
	a.names = listing.Names(x.l)
	a.next, a.serial = listing.Next(x.l, x.path), listing.Serial(x.l)
	return a
}

func (a told) same(b told) bool {
	return sameFile(a.newest, b.newest) && sameFile(a.got, b.got) && a.isNewest == b.isNewest && a.isGot == b.isGot &&
		slices.Equal(a.names, b.names) && a.next == b.next && a.serial == b.serial
}

func (a told) copied() told {
	a.newest, a.got, a.names = clone(a.newest), clone(a.got), slices.Clone(a.names)
	return a
}

// scribble turns all that an answer lies in, its spare room too.
func (a told) scribble() {
	for _, parts := range [][]api.Part{a.newest.Parts, a.got.Parts} {
		parts = parts[:cap(parts)]
		for i := range parts {
			parts[i] = api.Part{Head: api.Head{Path: "scribbled", Size: -i}, Label: -7, Block: -8}
		}
	}
	names := a.names[:cap(a.names)]
	for i := range names {
		names[i] = "scribbled"
	}
}

func asks() []ask {
	odd := catalogOf()
	slices.Reverse(odd)
	odd = append(odd, catalogOf()...)
	for i := range odd {
		odd[i].Serial = i
	}
	return []ask{
		{"nothing", nil, "a", 1},
		{"a newest and an old version", catalogOf(), "a", 1},
		{"the newest twice", catalogOf(), "a", 3},
		{"a gone one", catalogOf(), "b/c", 2},
		{"one of one version", catalogOf(), "b/d", 0},
		{"none", catalogOf(), "x", 5},
		{"a file of no parts", []api.File{{Path: "a", Version: 1}}, "a", 1},
		{"no catalog's order", odd, "f", 2},
	}
}

// guarded answers the same with filled room behind each list.
func guarded(x ask) ask {
	l := slices.Grow(clones(x.l), 3)
	for i := range l {
		parts := slices.Grow(l[i].Parts, 2)
		l[i].Parts = parts
		for k := len(parts); k < cap(parts); k++ {
			parts[:cap(parts)][k] = api.Part{Label: 40 + k, Block: k, Head: api.Head{Path: "spare"}}
		}
	}
	for k := len(l); k < cap(l); k++ {
		l[:cap(l)][k] = file(k, x.path, 90+k, 900+k)
	}
	x.l = l
	return x
}

// whole answers a copy of it, its spare room with it.
func whole(x ask) ask {
	l := slices.Clone(x.l[:cap(x.l)])
	for i := range l {
		l[i].Parts = slices.Clone(l[i].Parts[:cap(l[i].Parts)])
	}
	x.l = l
	return x
}

func TestWhatIsHandedInStays(t *testing.T) {
	for i, x := range asks() {
		y := guarded(x)
		was := whole(y)
		got := tell(y)
		if !sameFiles(whole(y).l, was.l) {
			t.Errorf("P1802: %s: what was handed in has changed", x.what)
		}
		// What is asked again was never handed in: a call that turned it can't hide behind that.
		if !got.same(tell(asks()[i])) {
			t.Errorf("P1802: %s: an answer hangs on spare room", x.what)
		}
		got.scribble()
		if !sameFiles(whole(y).l, was.l) {
			t.Errorf("P1802: %s: an answer lies in what was handed in", x.what)
		}
	}
}

// Who owns what was handed in turns it: no answer is turned by that, and none comes from what was.
func TestWhatIsHandedInIsNotKept(t *testing.T) {
	for _, x := range asks() {
		y := x
		y.l = clones(x.l)
		got := tell(y)
		was := got.copied()
		for i := range y.l {
			for k := range y.l[i].Parts {
				y.l[i].Parts[k] = api.Part{Label: 77}
			}
			y.l[i] = file(i, "turned", i, -i)
		}
		checkAll(t, x.what+", turned", y.l, []string{x.path, "turned"}, []int{x.version, 1, 2, 3})
		if !got.same(was) || !tell(x).same(was) {
			t.Errorf("P1802: %s: what was handed in is kept", x.what)
		}
	}
}

func TestAnswersAreNewMemory(t *testing.T) {
	for _, x := range asks() {
		first, second := tell(x), tell(x)
		want := first.copied()
		first.scribble()
		if !second.same(want) || !tell(x).same(want) {
			t.Errorf("P1802: %s: two answers share memory", x.what)
		}
	}
}

// The parts of the newest are others than those of the same file got by its version.
func TestThePartsOfOneFileAskedTwice(t *testing.T) {
	l := catalogOf()
	a, _ := listing.Newest(l, "a")
	b, _ := listing.Get(l, "a", 3)
	c, _ := listing.Get(l, "a", 0)
	a.Parts[0].Label, b.Parts[0].Label = -1, -2
	if c.Parts[0].Label != l[2].Parts[0].Label || a.Parts[0].Label != -1 || !sameFiles(l, catalogOf()) {
		t.Error("P1802: two answers share the parts of a file")
	}
}

// No path lies in the memory of what was handed in.
func TestPathsAreNoPiecesOfTheArgument(t *testing.T) {
	f := file(3, strings.Clone("a/path/of/some/bytes"), 2, 1)
	newest, _ := listing.Newest([]api.File{f}, f.Path)
	got, _ := listing.Get([]api.File{f}, f.Path, 2)
	names := listing.Names([]api.File{f})
	for i, path := range []string{newest.Path, newest.Parts[1].Head.Path, got.Path, got.Parts[0].Head.Path, names[0]} {
		if path != f.Path || unsafe.StringData(path) == unsafe.StringData(f.Path) {
			t.Errorf("P1802: path %d of an answer lies in the argument", i)
		}
	}
}

func everything(l []ask) []told {
	var out []told
	for _, x := range l {
		out = append(out, tell(x))
	}
	return out
}

func TestAnswersHangOnArgumentsAlone(t *testing.T) {
	l := asks()
	first := everything(l)
	slices.Reverse(l)
	for range 20 {
		backwards := everything(l)
		slices.Reverse(backwards)
		if !slices.EqualFunc(backwards, first, told.same) {
			t.Error("P1802: the same calls in another order answer otherwise")
		}
	}
}

// All of them ask the same, beside each other.
func TestAnswersBesideOneAnother(t *testing.T) {
	l := asks()
	first := everything(l)
	var same [4]bool
	var workers sync.WaitGroup
	for i := range same {
		workers.Go(func() { same[i] = slices.EqualFunc(everything(l), first, told.same) })
	}
	workers.Wait()
	for i, ok := range same {
		if !ok {
			t.Errorf("P1802: worker %d was answered otherwise", i)
		}
	}
}
