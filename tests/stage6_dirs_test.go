package tests

import (
	"encoding/hex"
	"math/rand"
	"runtime"
	"slices"
	"strconv"
	"strings"
	"sync"
	"testing"
	"time"

	"loop.example/kilntree/impl"
)

// plainDigits is the sum of a text in digits.
func plainDigits(text string, width int) string {
	return hex.EncodeToString([]byte(plainSum(text, width)))
}

func plainDirText(x impl.Tree, dir string, width int) string {
	if !plainValidTree(x) || dir != "" && !plainPath(dir) || width < 1 || width > 8 {
		return ""
	}
	if dir != "" {
		x = plainUnder(x, dir)
	}
	return plainTextOf(x.Entries, width)
}

// plainTextOf makes the lines one by one, with the entries of a directory put
// together ahead of it.
func plainTextOf(entries []impl.Entry, width int) string {
	lines, below := map[string]string{}, map[string][]impl.Entry{}
	for _, e := range entries {
		name, rest, isDir := strings.Cut(e.Path, "/")
		switch {
		case isDir:
			below[name] = append(below[name], impl.Entry{Path: rest, Text: e.Text, Runs: e.Runs})
		case e.Runs:
			lines[name] = "x " + name + " " + plainDigits("file "+e.Text, width) + "\n"
		default:
			lines[name] = "f " + name + " " + plainDigits("file "+e.Text, width) + "\n"
		}
	}
	for name, in := range below {
		lines[name] = "d " + name + " " + plainDigits(plainTextOf(in, width), width) + "\n"
	}
	names := []string{}
	for name := range lines {
		names = append(names, name)
	}
	slices.Sort(names)
	text := ""
	for _, name := range names {
		text += lines[name]
	}
	return text
}

func plainTreeSum(x impl.Tree, width int) string {
	if !plainValidTree(x) || width < 1 || width > 8 {
		return ""
	}
	return plainSum(plainDirText(x, "", width), width)
}

func wantDirText(t *testing.T, x impl.Tree, dir string, width int) string {
	t.Helper()
	given, kept := roomyTree(x)
	want, got := plainDirText(x, dir, width), impl.DirText(given, dir, width)
	what := "text of " + strconv.Quote(brief3(dir)) + " of width " + strconv.Itoa(width) + " in " + treeText(x)
	if got != want {
		t.Errorf("%s: %q, want %q", what, got, want)
	}
	wantApart(t, what, []string{got}, append(treeTexts(x), dir))
	wantStays(t, what, given.Entries, kept)
	return want
}

func wantTreeSum(t *testing.T, x impl.Tree, width int) string {
	t.Helper()
	given, kept := roomyTree(x)
	want, got := plainTreeSum(x, width), impl.TreeSum(given, width)
	what := "sum of width " + strconv.Itoa(width) + " of " + treeText(x)
	if got != want {
		t.Errorf("%s: %x, want %x", what, got, want)
	}
	// Texts of one byte may lie in a table that the language itself keeps.
	if width > 1 {
		wantApart(t, what, []string{got}, treeTexts(x))
	}
	wantStays(t, what, given.Entries, kept)
	return want
}

// wantText is for cases whose text is written out: the oracle has it too.
func wantText(t *testing.T, got, want string) {
	t.Helper()
	if got != want {
		t.Errorf("%.300q, want %.300q", got, want)
	}
}

// street has a directory among files, and one inside it.
func street() impl.Tree {
	return impl.Tree{Entries: []impl.Entry{
		{Path: "a!", Text: "up", Runs: true}, {Path: "a-b"}, {Path: "a.c", Text: "file "},
		{Path: "a/b/c", Text: "deep\n"}, {Path: "a/b/d", Text: "deep\n", Runs: true}, {Path: "a/x", Text: "\x00\xff"},
		{Path: "a0", Runs: true}, {Path: "b", Text: "last"},
	}}
}

// deep has 100 files, each in five directories of its own, with names of 20
// bytes.
func deep() impl.Tree {
	x := impl.Tree{}
	for i := range impl.MaxEntries {
		part := strconv.Itoa(1000+i) + strings.Repeat("p", impl.MaxPart-4)
		x.Entries = append(x.Entries, impl.Entry{Path: strings.Join(repeated(part, impl.MaxParts), "/"), Text: strconv.Itoa(i), Runs: i%3 == 0})
	}
	return x
}

func allWidths() []int {
	return []int{1, 2, 3, 4, 5, 6, 7, 8}
}

func TestDirTextsOfEveryWidth(t *testing.T) {
	for _, c := range []struct {
		width     int
		dir, want string
	}{
		{1, "", "d a c3\nx a! 9c\nf a-b 19\nf a.c 4d\nx a0 19\nf b bd\n"},
		{1, "a", "d b ba\nf x 4c\n"},
		{1, "a/b", "f c d3\nx d d3\n"},
		{2, "", "d a 1e29\nx a! 2e9c\nf a-b 2319\nf a.c 434d\nx a0 2319\nf b 03bd\n"},
		{2, "a", "d b ca24\nf x d94c\n"},
		{2, "a/b", "f c 85d3\nx d 85d3\n"},
		{3, "", "d a 48be64\nx a! 292e9c\nf a-b 122319\nf a.c 1e434d\nx a0 122319\nf b 2903bd\n"},
		{3, "a", "d b c94774\nf x 38d94c\n"},
		{3, "a/b", "f c 4485d3\nx d 4485d3\n"},
		{4, "", "d a 9d6aae00\nx a! 37292e9c\nf a-b 18122319\nf a.c 5c1e434d\nx a0 18122319\nf b f82903bd\n"},
		{4, "a", "d b 9f967ac2\nf x 3638d94c\n"},
		{4, "a/b", "f c e64485d3\nx d e64485d3\n"},
		{5, "", "d a 1ea18dbea8\nx a! 0037292e9c\nf a-b 8018122319\nf a.c ef5c1e434d\nx a0 8018122319\nf b 8cf82903bd\n"},
		{5, "a", "d b cac93ffb3a\nf x 003638d94c\n"},
		{5, "a/b", "f c a3e64485d3\nx d a3e64485d3\n"},
		{6, "", "d a 8a82fbc83c9c\nx a! fd0037292e9c\nf a-b b38018122319\nf a.c 99ef5c1e434d\nx a0 b38018122319\nf b 7b8cf82903bd\n"},
		{6, "a", "d b d058dc6d60fa\nf x 84003638d94c\n"},
		{6, "a/b", "f c cca3e64485d3\nx d cca3e64485d3\n"},
		{7, "", "d a e44922bb1efdda\nx a! 37fd0037292e9c\nf a-b f7b38018122319\nf a.c e799ef5c1e434d\nx a0 f7b38018122319\nf b 267b8cf82903bd\n"},
		{7, "a", "d b 983e4d55a2c42c\nf x 1d84003638d94c\n"},
		{7, "a/b", "f c 6ccca3e64485d3\nx d 6ccca3e64485d3\n"},
		{8, "", "d a bbd0311e5933afb2\nx a! a837fd0037292e9c\nf a-b 69f7b38018122319\nf a.c a5e799ef5c1e434d\nx a0 69f7b38018122319\nf b 3d267b8cf82903bd\n"},
		{8, "a", "d b fc1926b11b86e01c\nf x a71d84003638d94c\n"},
		{8, "a/b", "f c 086ccca3e64485d3\nx d 086ccca3e64485d3\n"},
	} {
		wantText(t, wantDirText(t, street(), c.dir, c.width), c.want)
	}
	for i, want := range []string{"d9", "1c39", "cbfc8f", "e8abef6c", "8e3f6c1ce2", "44380c38f8ab", "2a8acceb406f7e", "47ce668df71fe57e"} {
		wantText(t, hex.EncodeToString([]byte(wantTreeSum(t, street(), i+1))), want)
	}
}

func TestLinesOfADirectoryAscendByName(t *testing.T) {
	for _, c := range []struct{ files, lines string }{
		{"b a c", "f a,f b,f c"}, {"B b A a", "f A,f B,f a,f b"}, {"10 9 1", "f 1,f 10,f 9"},
		// In the paths a `/` follows the name of a directory.
		{"a-b a/x", "d a,f a-b"}, {"a! a/x a0", "d a,f a!,f a0"}, {"a.c/x a/x", "d a,d a.c"}, {"a!/x a-/x a/x a0/x", "d a,d a!,d a-,d a0"},
		{"a a!/x", "f a,d a!"}, {"a/x a/y/z b", "d a,f b"}, {"b/x b/x.c b/y b!/y a~ a~~/x", "f a~,d a~~,d b,d b!"},
	} {
		x := sortedTree(filesOf(strings.Fields(c.files)...).Entries)
		got := []string{}
		for _, line := range strings.Split(strings.TrimSuffix(impl.DirText(x, "", 8), "\n"), "\n") {
			got = append(got, line[:strings.LastIndex(line, " ")])
		}
		wantText(t, strings.Join(got, ","), c.lines)
		wantDirText(t, x, "", 8)
		under, _ := plainMount(impl.Tree{}, "in/it", x)
		wantText(t, wantDirText(t, under, "in/it", 8), impl.DirText(x, "", 8))
	}
}

func TestMarksOfFiles(t *testing.T) {
	for _, text := range []string{"", "t", "file ", "\x00", strings.Repeat("t", impl.MaxText)} {
		digits := plainDigits("file "+text, 8)
		x := impl.Tree{Entries: []impl.Entry{{Path: "d/y", Text: text, Runs: true}, {Path: "f", Text: text}, {Path: "x", Text: text, Runs: true}}}
		inD := "x y " + digits + "\n"
		wantText(t, wantDirText(t, x, "d", 8), inD)
		wantText(t, wantDirText(t, x, "", 8), "d d "+plainDigits(inD, 8)+"\nf f "+digits+"\nx x "+digits+"\n")
	}
}

func TestDirTextsWhereNothingLies(t *testing.T) {
	for _, dir := range []string{
		"c", "b", "a!", "a/x", "a/c", "a/b/c", "a/b/d", "a/b/e", "a/b/c/in", "a/bb", "b/in", "B", "A", "a1",
		"/", "a/", "/a", "a//b", "a/b/", ".", "..", "a/.", "a/../a", "./a", " ", "a b", "*", "a*", "?", "\"", "**", "\x00", "a\x00", "é",
		strings.Repeat("p", impl.MaxPart), strings.Repeat("p", impl.MaxPart+1),
		"a/b/a/b/a/b", "a/b/a/b/a/b/a",
	} {
		for _, width := range allWidths() {
			wantText(t, wantDirText(t, street(), dir, width), "")
			wantText(t, wantDirText(t, impl.Tree{}, dir, width), "")
		}
	}
	for _, width := range allWidths() {
		wantText(t, wantDirText(t, impl.Tree{}, "", width), "")
		wantText(t, wantTreeSum(t, impl.Tree{}, width), impl.Sum("", width))
		wantText(t, wantTreeSum(t, impl.Tree{Entries: []impl.Entry{}}, width), impl.Sum("", width))
	}
	wantText(t, wantTreeSum(t, impl.Tree{}, 8), "\xcb\xf2\x9c\xe4\x84\x22\x23\x25")
}

func TestDirTextsWithoutAWidth(t *testing.T) {
	for _, width := range noWidths() {
		for _, dir := range []string{"", "a", "a/b", "b", "gone", ".."} {
			wantText(t, wantDirText(t, street(), dir, width), "")
			wantText(t, wantDirText(t, impl.Tree{}, dir, width), "")
		}
		wantText(t, wantTreeSum(t, street(), width), "")
		wantText(t, wantTreeSum(t, impl.Tree{}, width), "")
	}
}

func TestDirTextsOfWrongTrees(t *testing.T) {
	for _, wrong := range wrongTrees() {
		for _, width := range []int{1, 8, 0, 9} {
			for _, dir := range []string{"", "a", "a/b", "b", "z", ".."} {
				wantText(t, wantDirText(t, wrong, dir, width), "")
			}
			wantText(t, wantTreeSum(t, wrong, width), "")
		}
	}
}

func TestDirTextsOfGreatTrees(t *testing.T) {
	x := deep()
	for _, width := range []int{1, 8} {
		wantTreeSum(t, x, width)
		for _, e := range []impl.Entry{x.Entries[0], x.Entries[1], x.Entries[99]} {
			for dir := e.Path; dir != ""; dir = dir[:max(strings.LastIndexByte(dir, '/'), 0)] {
				text := wantDirText(t, x, dir, width)
				if (text == "") != (dir == e.Path) {
					t.Errorf("%s: %q", dir, text)
				}
			}
		}
	}
	if text := wantDirText(t, x, "", 8); len(text) != impl.MaxEntries*40 {
		t.Error(len(text))
	}
	full := numbered("f", impl.MaxEntries)
	for i := range full.Entries {
		full.Entries[i].Text = strings.Repeat(strconv.Itoa(i%10), impl.MaxText)
	}
	wantDirText(t, full, "", 8)
	wantTreeSum(t, full, 8)
	one, _ := plainMount(impl.Tree{}, "q/r/s/t/u", full)
	wantDirText(t, one, "q/r/s/t/u", 3)
	wantTreeSum(t, one, 3)
	full.Entries = append(full.Entries, impl.Entry{Path: "g"})
	wantText(t, wantDirText(t, full, "", 8)+wantTreeSum(t, full, 8), "")
}

func TestDirTextsOfEverySmallTree(t *testing.T) {
	paths := []string{"a", "a!", "a/a", "a/a.", "a/a/a", "a/b", "b"}
	asked := append([]string{"", "/", "a/", "..", "a/c", "b/a", "c", "a/a/a/a/a/a", "a/a/a/a/a/a/a"}, paths...)
	for _, x := range slices.Concat(subtrees(paths, ""), subtrees(paths, "other ")) {
		for _, width := range []int{1, 2, 8, 0} {
			for _, dir := range asked {
				wantDirText(t, x, dir, width)
			}
			wantTreeSum(t, x, width)
		}
	}
}

func TestDirTextsOfRandomTrees(t *testing.T) {
	source := rand.New(rand.NewSource(91))
	valid, met := 0, 0
	for i := range 3000 {
		n := 12
		if i%40 == 0 {
			n = 150
		}
		x := randomTree(source, source.Intn(n))
		width := 1 + source.Intn(8)
		wantTreeSum(t, x, width)
		wantDirText(t, x, "", width)
		if wantDirText(t, x, anyPath(source, x), width) != "" {
			met++
		}
		y := spoiledTree(source, x)
		if wantTreeSum(t, y, width) != "" {
			valid++
		}
		wantDirText(t, y, anyPath(source, x), width)
	}
	if valid < 300 || valid > 2700 || met < 300 {
		t.Error(valid, met)
	}
}

// everyText is the texts of all directories of a tree, and those of its files
// as sums are made of them.
func everyText(x impl.Tree, width int) []string {
	texts := []string{plainDirText(x, "", width)}
	for _, e := range x.Entries {
		for i := range len(e.Path) {
			if e.Path[i] == '/' {
				texts = append(texts, plainDirText(x, e.Path[:i], width))
			}
		}
		texts = append(texts, "file "+e.Text)
	}
	return texts
}

// wantSumsTellApart is promise 12 of two valid trees; it says whether they are
// different and have one sum.
func wantSumsTellApart(t *testing.T, x, y impl.Tree, width int) bool {
	t.Helper()
	one := impl.TreeSum(x, width) == impl.TreeSum(y, width)
	if sameTree(x, y) {
		if !one {
			t.Errorf("width %d: two sums of %s", width, treeText(x))
		}
		return false
	}
	if !one {
		return false
	}
	texts := append(everyText(x, width), everyText(y, width)...)
	a, b, ok := impl.Clash(texts, width)
	if !ok || a == b || plainSum(a, width) != plainSum(b, width) || !slices.Contains(texts, a) || !slices.Contains(texts, b) {
		t.Errorf("width %d: one sum, and no two texts with one, of %s and %s", width, treeText(x), treeText(y))
	}
	return true
}

// Promise 12.
func TestTreesWithTheSameEntriesHaveOneSum(t *testing.T) {
	for _, paths := range []string{"a b c d e", "b! b-/x b.c b/x b/y b0", "a/b/c a/b/d a/bb a/b. a!"} {
		want := treeOf(paths)
		sums := []string{}
		for _, width := range allWidths() {
			sums = append(sums, impl.TreeSum(want, width))
		}
		entries := slices.Clone(want.Entries)
		eachOrder(entries, 0, func() {
			x := putAll(t, entries)
			for i, width := range allWidths() {
				if impl.TreeSum(x, width) != sums[i] {
					t.Errorf("width %d: two sums of %s", width, treeText(x))
				}
			}
		})
		// There was more, and it is taken away again.
		more, _ := impl.Put(want, impl.Entry{Path: "z/z"})
		less, _ := impl.Remove(more, "z/z")
		wantSumsTellApart(t, less, want, 8)
		wantText(t, impl.TreeSum(less, 8), sums[7])
	}
}

// Promise 12.
func TestTreesWithOtherEntriesHaveOtherSums(t *testing.T) {
	paths := []string{"a", "a!", "a/a", "a/a/a", "a/b", "b"}
	trees := slices.Concat(subtrees(paths, ""), subtrees(paths, "other "), subtrees(paths, "odd"))
	for i, x := range trees {
		for j, y := range trees {
			if wantSumsTellApart(t, x, y, 8) {
				t.Errorf("one sum of %s and %s", treeText(x), treeText(y))
			}
			if (i+j)%7 == 0 {
				wantSumsTellApart(t, x, y, 1)
			}
		}
	}
	// What is moved, renamed, emptied or made to run has another sum.
	for _, pair := range [][2]impl.Tree{
		{filled("a:x"), filled("a:y")}, {filled("a:x"), filled("b:x")}, {filled("a:x"), filled("a/x:x")}, {filled("a:x"), filled("a:x b:x")}, {filled("a:"), {}},
		{oneFile(fileOf("x")), oneFile(runOf("x"))}, {filled("a/b/c:x"), filled("a/c/b:x")}, {filled("a/b:x"), filled("a/b/b:x")}, {filled("a:x b:y"), filled("a:y b:x")},
		{filled("a/x:1 b/y:2"), filled("a/y:2 b/x:1")}, {filled("a/x:1 a/y:2"), filled("a/x:1 b/y:2")},
		// A file has the text of a directory.
		{filled("d/x:1"), oneFile(fileOf("f x " + plainDigits("file 1", 8) + "\n"))},
		{filled("f/x:1"), oneFile(fileOf("f x " + plainDigits("file 1", 8) + "\n"))},
	} {
		if wantSumsTellApart(t, pair[0], pair[1], 8) {
			t.Errorf("one sum of %s and %s", treeText(pair[0]), treeText(pair[1]))
		}
	}
}

// Promise 12, where sums are narrow.
func TestTreesWithOneNarrowSum(t *testing.T) {
	source := rand.New(rand.NewSource(92))
	for _, width := range []int{1, 2} {
		bySum := map[string][]impl.Tree{}
		for range 1500 {
			x := randomTree(source, 1+source.Intn(5))
			bySum[impl.TreeSum(x, width)] = append(bySum[impl.TreeSum(x, width)], x, otherTree(source, x))
		}
		met := 0
		for _, trees := range bySum {
			for i, x := range trees {
				for _, y := range trees[:i] {
					if wantSumsTellApart(t, x, y, width) {
						met++
					}
				}
			}
		}
		if met < 20 {
			t.Errorf("width %d: %d times", width, met)
		}
	}
	for k, texts := range [][2]string{{"text 0", "text 40"}, {"text 749", "text 1052"}, {"text 10959", "text 41584"}} {
		x, y := oneFile(fileOf(texts[0])), oneFile(fileOf(texts[1]))
		for _, width := range allWidths() {
			if wantSumsTellApart(t, x, y, width) != (width <= k+1) {
				t.Errorf("%q, width %d", texts, width)
			}
		}
	}
}

func TestSumsLeaveNoGoroutines(t *testing.T) {
	before := runtime.NumGoroutine()
	for range 20 {
		impl.DirText(deep(), "", 8)
		impl.TreeSum(street(), 1)
		impl.Prove(street(), "a/b/c", 8)
		impl.TreeSum(filesOf("b", "a"), 8)
		impl.Prove(deep(), "", 8)
	}
	for end := time.Now().Add(20 * time.Second); runtime.NumGoroutine() > before && time.Now().Before(end); {
		runtime.Gosched()
	}
	if after := runtime.NumGoroutine(); after > before {
		t.Errorf("%d goroutines more", after-before)
	}
}

func TestSumsAtTheSameTime(t *testing.T) {
	trees := []impl.Tree{street(), deep(), {}, filled("a/b:1 a/c/d:2"), filesOf("b", "a")}
	want := []string{}
	for _, x := range trees {
		want = append(want, plainTreeSum(x, 8))
	}
	var wait sync.WaitGroup
	for i := range 8 {
		wait.Go(func() {
			for j := range 50 {
				k := (i + j) % len(trees)
				if got := impl.TreeSum(trees[k], 8); got != want[k] {
					t.Errorf("%x of %s", got, treeText(trees[k]))
				}
			}
		})
	}
	wait.Wait()
}

func TestGreatArgumentsOfDirTextEndSoon(t *testing.T) {
	great := impl.Tree{Entries: make([]impl.Entry, 1<<20)}
	long := strings.Repeat("a/", 1<<20)
	endsSoon(t, "a great tree", func() {
		for range 100 {
			if impl.DirText(great, "", 8) != "" || impl.TreeSum(great, 8) != "" || impl.DirText(street(), long, 8) != "" || impl.DirText(street(), long+"a", 8) != "" {
				t.Error("a text of nothing")
			}
			impl.TreeSum(deep(), 8)
		}
	})
}
