package tests

import (
	"math/rand"
	"slices"
	"strconv"
	"strings"
	"testing"

	"loop.example/kilntree/impl"
)

// plainMergedFile is what comes out under a path; false if it is a clash.
func plainMergedFile(base, a, b impl.File) (impl.File, bool) {
	switch {
	case plainSameFile(a, base):
		return b, true
	case plainSameFile(b, base), plainSameFile(a, b):
		return a, true
	case !base.There || !a.There || !b.There:
		return impl.File{}, false
	}
	text, ok := plainMergeText(base.Text, a.Text, b.Text)
	if !ok || len(text) > 1500 {
		return impl.File{}, false
	}
	runs := base.Runs
	if a.Runs != base.Runs {
		runs = a.Runs
	}
	if b.Runs != base.Runs {
		runs = b.Runs
	}
	return impl.File{There: true, Text: text, Runs: runs}, true
}

// plainDirs are the paths that are directories of other ones.
func plainDirs(x impl.Tree) []string {
	dirs := []string{}
	for _, e := range x.Entries {
		for _, other := range x.Entries {
			if isDirOf(e.Path, other.Path) {
				dirs = append(dirs, e.Path)
				break
			}
		}
	}
	return dirs
}

func plainMerge(base, a, b impl.Tree) impl.Merged {
	if !plainValidTree(base) || !plainValidTree(a) || !plainValidTree(b) {
		return impl.Merged{Code: 1}
	}
	inBase, inA, inB := plainFiles(base), plainFiles(a), plainFiles(b)
	files, clashes := map[string]impl.File{}, []string{}
	for _, from := range []map[string]impl.File{inBase, inA, inB} {
		for path := range from {
			f, ok := plainMergedFile(inBase[path], inA[path], inB[path])
			files[path] = f
			if !ok && !slices.Contains(clashes, path) {
				clashes = append(clashes, path)
			}
		}
	}
	x := plainTree(files)
	switch {
	case len(clashes) > 0:
		slices.Sort(clashes)
		return impl.Merged{Code: 2, Clashes: clashes}
	case len(x.Entries) > 100:
		return impl.Merged{Code: 3}
	case !plainValidTree(x):
		return impl.Merged{Code: 3, Clashes: plainDirs(x)}
	}
	return impl.Merged{Tree: x}
}

func sameMerged(m, n impl.Merged) bool {
	return m.Code == n.Code && sameTree(m.Tree, n.Tree) && slices.Equal(m.Clashes, n.Clashes)
}

func mergedText(m impl.Merged) string {
	return "code " + strconv.Itoa(m.Code) + ", " + treeText(m.Tree) + ", clashes " + strings.Join(m.Clashes[:min(len(m.Clashes), 20)], " ")
}

func threeText(base, a, b impl.Tree) string {
	return "merge of " + treeText(base) + ", " + treeText(a) + " and " + treeText(b)
}

func wantMerge(t *testing.T, base, a, b impl.Tree) impl.Merged {
	t.Helper()
	what := threeText(base, a, b)
	want := plainMerge(base, a, b)
	wantTree(t, what, want.Tree, want.Code, func(trees []impl.Tree) (impl.Tree, int) {
		got := impl.Merge(trees[0], trees[1], trees[2])
		if !sameMerged(got, want) {
			t.Errorf("%s: %s, want %s", what, mergedText(got), mergedText(want))
		}
		for _, x := range trees {
			wantApart(t, what, got.Clashes, treeTexts(x))
		}
		over := got.Clashes[:cap(got.Clashes)]
		for i := range over {
			over[i] = "written/over"
		}
		return got.Tree, got.Code
	}, base, a, b)
	return want
}

// wantMerged is for cases whose answer is written out; it holds for the sides
// either way round.
func wantMerged(t *testing.T, base, a, b impl.Tree, want impl.Merged) {
	t.Helper()
	for range 2 {
		if got := wantMerge(t, base, a, b); !sameMerged(got, want) {
			t.Errorf("%s: the oracle says %s, want %s", threeText(base, a, b), mergedText(got), mergedText(want))
		}
		a, b = b, a
	}
}

func clashesOf(code int, paths ...string) impl.Merged {
	return impl.Merged{Code: code, Clashes: paths}
}

// oneFile is a tree with a file under `f`, or an empty one.
func oneFile(f impl.File) impl.Tree {
	return plainTree(map[string]impl.File{"f": f})
}

func TestTreesThatMerge(t *testing.T) {
	for _, c := range []struct{ base, a, b, want string }{
		{"", "", "", ""}, {"a:x", "a:x", "a:x", "a:x"},
		// A path that is in one of the trees.
		{"", "a:x", "", "a:x"}, {"a:x", "", "", ""},
		// In two of them.
		{"a:x", "a:x", "", ""}, {"", "a:x", "a:x", "a:x"},
		// In all three.
		{"a:x", "a:x", "a:y", "a:y"}, {"a:x", "a:y", "a:y", "a:y"},
		// An empty file is a file.
		{"", "a:", "", "a:"}, {"a:", "a:", "", ""}, {"a:", "a:", "a:x", "a:x"}, {"a:x", "a:", "a:x", "a:"}, {"a:", "", "", ""}, {"", "a:", "a:", "a:"},
		// Several paths, each for itself.
		{"b:1 d:2 f:3", "a:9 b:1 d:5 f:3", "b:1 c:7 d:2", "a:9 b:1 c:7 d:5"},
		{"a:1 b:2 c:3", "b:2", "a:1 c:3", ""}, {"a:1 b:2 c:3", "a:1 b:2", "b:2 c:3", "b:2"},
		{"b.c:1 b/x:2 b0:3", "b.c:1 b/x:2 b/y:4 b0:3", "b!:5 b/x:2 b0:6", "b!:5 b/x:2 b/y:4 b0:6"},
		{"m:1", "a:1 m:1", "m:1 z:1", "a:1 m:1 z:1"}, {"", "b:1 d:1", "a:1 c:1 e:1", "a:1 b:1 c:1 d:1 e:1"},
		// A directory where a file was, and the other way about.
		{"d:1", "d/x:1", "d:1", "d/x:1"}, {"d/x:1", "d:1", "d/x:1", "d:1"}, {"d:1", "", "d/x:1", "d/x:1"}, {"d:1", "d/x:1", "d/y:2", "d/x:1 d/y:2"}, {"d/x:1 d/y:2", "d:3", "d:3", "d:3"}, {"d/x:1", "d:1", "", "d:1"},
	} {
		wantMerged(t, filled(c.base), filled(c.a), filled(c.b), impl.Merged{Tree: filled(c.want)})
	}
}

func TestTextsOfFilesMerge(t *testing.T) {
	for _, c := range []struct {
		base, a, b, want string
		ok               bool
	}{
		{"abc", "xabc", "abcy", "xabcy", true}, {"abc", "bc", "ab", "b", true}, {"abc", "axc", "ayc", "", false}, {"ab", "b", "a", "", false}, {"abcde", "axcye", "axcde", "axcye", true}, {"abc", "", "abx", "", false}, {"", "a", "b", "", false}, {"abc", "cab", "axbc", "caxb", true}, {"aa", "a", "xaa", "xa", true}, {"aa", "a", "aax", "", false},
	} {
		want := clashesOf(2, "f")
		if c.ok {
			want = impl.Merged{Tree: oneFile(fileOf(lined(c.want)))}
		}
		wantMerged(t, oneFile(fileOf(lined(c.base))), oneFile(fileOf(lined(c.a))), oneFile(fileOf(lined(c.b))), want)
	}
}

func TestMergesWithoutAFileInAllThreeClash(t *testing.T) {
	clash := clashesOf(2, "f")
	for _, files := range [][3]impl.File{
		{{}, fileOf("x"), fileOf("y")}, {fileOf("x"), {}, fileOf("y")},
		// MergeText would come to a text.
		{{}, fileOf("x"), runOf("x")}, {{}, fileOf(""), runOf("")}, {{}, fileOf(""), fileOf("x")}, {{}, runOf(""), fileOf("x\n")},
		{fileOf(""), {}, fileOf("x")}, {fileOf("x"), {}, runOf("x")}, {fileOf(""), {}, runOf("")}, {runOf("x\n"), {}, fileOf("x\n")}, {fileOf("x\n"), {}, fileOf("")},
	} {
		wantMerged(t, oneFile(files[0]), oneFile(files[1]), oneFile(files[2]), clash)
	}
}

func TestRunsOfMergedFiles(t *testing.T) {
	base, front, behind, other := lined("abc"), lined("xabc"), lined("abcy"), lined("abx")
	both, flag := lined("xabcy"), func(text string, runs bool) impl.File {
		return impl.File{There: true, Text: text, Runs: runs}
	}
	for _, c := range []struct{ base, a, b, want bool }{
		{false, false, false, false}, {false, true, false, true}, {false, false, true, true}, {false, true, true, true},
		{true, true, true, true}, {true, false, true, false}, {true, true, false, false}, {true, false, false, false},
	} {
		for _, texts := range [][4]string{
			{base, front, behind, both}, {base, base, behind, behind}, {base, base, base, base}, {base, front, front, front}, {base, front, base, front}, {"", "", "x", "x"}, {"x", "", "", ""},
		} {
			wantMerged(t, oneFile(flag(texts[0], c.base)), oneFile(flag(texts[1], c.a)), oneFile(flag(texts[2], c.b)),
				impl.Merged{Tree: oneFile(flag(texts[3], c.want))})
		}
		wantMerged(t, oneFile(flag(base, c.base)), oneFile(flag(lined("aby"), c.a)), oneFile(flag(other, c.b)), clashesOf(2, "f"))
	}
}

func TestMergedTextsOfMaxText(t *testing.T) {
	const n = impl.MaxText
	for size := n - 2; size <= n+2; size++ {
		front := strings.Repeat("f", size-10) + "\n"
		base, a, b := "base\n", front+"base\n", "base\n123\n"
		want := impl.Merged{Tree: oneFile(fileOf(front + "base\n123\n"))}
		if len(front+"base\n123\n") != size {
			t.Fatal(len(front+"base\n123\n"), size)
		}
		if size > n {
			want = clashesOf(2, "f")
		}
		wantMerged(t, oneFile(fileOf(base)), oneFile(fileOf(a)), oneFile(fileOf(b)), want)
	}
	full := strings.Repeat("t", n)
	newlines := strings.Repeat("\n", n)
	wantMerged(t, oneFile(fileOf("")), oneFile(fileOf(full)), oneFile(fileOf("")), impl.Merged{Tree: oneFile(fileOf(full))})
	wantMerged(t, oneFile(fileOf(full)), oneFile(runOf(full)), oneFile(fileOf(newlines)), impl.Merged{Tree: oneFile(runOf(newlines))})
	wantMerged(t, oneFile(fileOf("")), oneFile(fileOf(full)), oneFile(fileOf(newlines)), clashesOf(2, "f"))
	wantMerged(t, oneFile(fileOf("")), oneFile(fileOf(full+"t")), oneFile(fileOf("")), impl.Merged{Code: 1})
	// Both sides have half of it, and one byte more.
	half := strings.Repeat("h\n", n/4) + "m\n"
	behind := "m\n" + strings.Repeat("b\n", n/4)
	wantMerged(t, oneFile(fileOf("m\n")), oneFile(fileOf(half[4:])), oneFile(fileOf(behind)),
		impl.Merged{Tree: oneFile(fileOf(half[4:] + behind[2:]))})
	wantMerged(t, oneFile(fileOf("m\n")), oneFile(fileOf(half)), oneFile(fileOf(behind)), clashesOf(2, "f"))
}

func TestClashesAscend(t *testing.T) {
	paths := []string{"a", "b!", "b-/x", "b.c", "b/x", "b0", "c/d/e", "z"}
	base, a, b := impl.Tree{}, impl.Tree{}, impl.Tree{}
	for i, path := range paths {
		if i%3 != 0 {
			base.Entries = append(base.Entries, impl.Entry{Path: path, Text: "base"})
		}
		if i%3 != 1 {
			a.Entries = append(a.Entries, impl.Entry{Path: path, Text: "a"})
		}
		if i%3 != 2 {
			b.Entries = append(b.Entries, impl.Entry{Path: path, Text: "b"})
		}
	}
	wantMerged(t, base, a, b, clashesOf(2, paths...))
	// What merges is not told beside them.
	more := both(base, filled("0:x bb:x q:x"))
	wantMerged(t, more, both(a, filled("0:y bb:x q:x")), both(b, filled("0:x 00:x bb:y")), clashesOf(2, paths...))
	wantMerged(t, filled("a:1 b:1 c:1"), filled("a:2 b:2 c:2"), filled("a:3 b:1 c:3"), clashesOf(2, "a", "c"))
	// As many as there can be: each path is in two of the trees.
	p, q, r := numbered("p", impl.MaxEntries/2), numbered("q", impl.MaxEntries/2), numbered("r", impl.MaxEntries/2)
	all := strings.Fields(treePaths(both(p, both(q, r))))
	wantMerged(t, both(p, q), both(changed(p), r), both(changed(q), changed(r)), clashesOf(2, all...))
	full := numbered("f", impl.MaxEntries)
	wantMerged(t, impl.Tree{}, full, changed(full), clashesOf(2, strings.Fields(treePaths(full))...))
}

// changed has more in each file.
func changed(x impl.Tree) impl.Tree {
	y := impl.Tree{Entries: slices.Clone(x.Entries)}
	for i := range y.Entries {
		y.Entries[i].Text += "more"
	}
	return y
}

func TestMergesThatAreNoTrees(t *testing.T) {
	for _, c := range []struct{ base, a, b, clashes string }{
		{"", "d:1", "d/x:1", "d"}, {"", "d:", "d/x:", "d"}, {"m:1", "d:1 m:1", "d/x/y/z:1 m:2", "d"},
		{"", "p/q:1", "p/q/r/s:1", "p/q"}, {"", "p/a:1 p/q:1", "p/q/r:1 p/z:1", "p/q"},
		// Its kids do not follow it, and are many.
		{"", "d:1 d!:1 d-/x:1 d.c:1", "d/x:1 d/y:1 d/z/x:1 d0:1", "d"},
		// Several of both sides.
		{"", "d:1 e/x:1", "d/x:1 e:1", "d e"}, {"", "b:1 d/e:1 f/x/y:1", "b/c/d:1 d/e/f:1 f/x:1", "b d/e f/x"},
		// A name that goes on otherwise is no directory.
		{"", "d:1 da:1 e:1", "d.:1 da/x:1 e0/x:1", "da"}, {"", "d:1 x/d:1 x/d!:1", "d!/d:1 x/d/d:1", "x/d"},
		// One side puts the file, the other one goes on with the directory.
		{"d/x:1", "d:1", "d/x:1 d/y:1", "d"}, {"e:1", "d:1 e:1", "d/x:1", "d"}, {"d/x:1 d/y:1", "d:1", "d/x:1 d/y:1 d/z:1", "d"},
		{"d:1", "d:1 e:1", "d/x:1 e/x:1", "e"},
	} {
		wantMerged(t, filled(c.base), filled(c.a), filled(c.b), clashesOf(3, strings.Fields(c.clashes)...))
	}
	// The file was there, and one side has changed it: a clash of its path.
	wantMerged(t, filled("d:1"), filled("d:2"), filled("d/x:1"), clashesOf(2, "d"))
}

func TestMergesWithTooManyEntries(t *testing.T) {
	const n = impl.MaxEntries
	tooMany := impl.Merged{Code: 3}
	for a := 0; a <= n; a += 10 {
		x, y := numbered("a", a), numbered("b", n-a)
		wantMerged(t, impl.Tree{}, x, y, impl.Merged{Tree: both(x, y)})
		if a > 0 {
			wantMerged(t, impl.Tree{}, x, numbered("b", n-a+1), tooMany)
		}
	}
	full := numbered("f", n)
	wantMerged(t, full, full, full, impl.Merged{Tree: full})
	wantMerged(t, impl.Tree{}, full, full, impl.Merged{Tree: full})
	wantMerged(t, full, numbered("a", n), numbered("b", n), tooMany)
	wantMerged(t, full, numbered("a", n), impl.Tree{}, impl.Merged{Tree: numbered("a", n)})
	wantMerged(t, full, numbered("a", n/2), numbered("b", n/2), impl.Merged{Tree: both(numbered("a", n/2), numbered("b", n/2))})
	wantMerged(t, full, impl.Tree{}, full, impl.Merged{})
	// What is taken away makes room.
	less := impl.Tree{Entries: full.Entries[1:]}
	wantMerged(t, less, both(less, filesOf("x")), both(impl.Tree{Entries: less.Entries[1:]}, filesOf("y")), impl.Merged{Tree: both(impl.Tree{Entries: less.Entries[1:]}, filesOf("x", "y"))})
	wantMerged(t, less, both(less, filesOf("x")), both(less, filesOf("y")), tooMany)
	// A file where a directory lies: told of MaxEntries entries, not of more.
	wantMerged(t, impl.Tree{}, both(numbered("a", n-2), filesOf("d")), filesOf("d/x"), clashesOf(3, "d"))
	wantMerged(t, impl.Tree{}, both(numbered("a", n-1), filesOf("d")), filesOf("d/x"), tooMany)
	wantMerged(t, impl.Tree{}, both(numbered("a", n-1), filesOf("d")), numbered("d/x", n), tooMany)
	wantMerged(t, impl.Tree{}, filesOf("d"), numbered("d/x", n-1), clashesOf(3, "d"))
	wantMerged(t, impl.Tree{}, filesOf("d"), numbered("d/x", n), tooMany)
}

func TestMergesOfWrongTrees(t *testing.T) {
	notValid := impl.Merged{Code: 1}
	for _, wrong := range wrongTrees() {
		for _, x := range []impl.Tree{{}, filled("a:x"), filled("a/b:y"), numbered("q", impl.MaxEntries)} {
			for _, y := range []impl.Tree{x, filled("a:z"), wrong} {
				wantMerged(t, wrong, x, y, notValid)
				wantMerged(t, x, wrong, y, notValid)
			}
		}
		wantMerged(t, wrong, wrong, wrong, notValid)
	}
}

func TestTheFirstCodeOfAMergeIsTold(t *testing.T) {
	n := impl.MaxEntries
	// 1 ahead of 2, and of 3.
	for _, wrong := range []impl.Tree{filesOf("b", "a"), filesOf("z", "z/z"), numbered("a", n+1)} {
		wantMerged(t, wrong, filled("a:1"), filled("a:2"), impl.Merged{Code: 1})
		wantMerged(t, wrong, filled("d:1"), filled("d/x:2"), impl.Merged{Code: 1})
		wantMerged(t, impl.Tree{}, wrong, filled("a:2 z/y:1"), impl.Merged{Code: 1})
		wantMerged(t, wrong, numbered("p", n), numbered("q", n), impl.Merged{Code: 1})
	}
	// 2 ahead of 3: the file where a directory lies is not told.
	wantMerged(t, impl.Tree{}, filled("c:1 d:1"), filled("c:2 d/x:1"), clashesOf(2, "c"))
	wantMerged(t, impl.Tree{}, filled("d:1 e:1"), filled("d/x:1 e:2"), clashesOf(2, "e"))
	wantMerged(t, filled("d:0"), filled("d:1 e:1"), filled("d/x:1 e/x:2"), clashesOf(2, "d"))
	wantMerged(t, impl.Tree{}, both(numbered("p", n-1), filled("c:1")), both(numbered("q", n-1), filled("c:2")), clashesOf(2, "c"))
	wantMerged(t, filled("c:0"), numbered("p", n), both(numbered("q", n-1), filled("c:2")), clashesOf(2, "c"))
}

// wantMergeOfTreesPromises is promise 11 of three valid trees.
func wantMergeOfTreesPromises(t *testing.T, base, a, b impl.Tree) {
	t.Helper()
	x, y := impl.Merge(base, a, b), impl.Merge(base, b, a)
	if !sameMerged(x, y) {
		t.Errorf("%s: %s, the other way round %s", threeText(base, a, b), mergedText(x), mergedText(y))
	}
	if x.Code == 0 && !impl.ValidTree(x.Tree) || x.Code != 0 && len(x.Tree.Entries) > 0 || x.Code == 0 && len(x.Clashes) > 0 || x.Code == 2 && len(x.Clashes) == 0 {
		t.Errorf("%s: %s", threeText(base, a, b), mergedText(x))
	}
	if got := impl.Merge(base, base, b); !sameMerged(got, impl.Merged{Tree: b}) {
		t.Errorf("%s: %s", threeText(base, base, b), mergedText(got))
	}
	if got := impl.Merge(base, a, a); !sameMerged(got, impl.Merged{Tree: a}) {
		t.Errorf("%s: %s", threeText(base, a, a), mergedText(got))
	}
}

// Promise 11.
func TestEveryThreeSmallTreesMerge(t *testing.T) {
	paths := []string{"a", "a!", "a/a", "b"}
	trees := slices.Concat(subtrees(paths, ""), subtrees(paths, "x\n"), subtrees(paths, "x\n\n"))
	codes := map[int]int{}
	for _, base := range trees {
		for _, a := range trees {
			for _, b := range trees {
				codes[wantMerge(t, base, a, b).Code]++
				wantMergeOfTreesPromises(t, base, a, b)
			}
		}
	}
	for code, least := range []int{1000, 0, 1000, 100} {
		if codes[code] < least {
			t.Errorf("code %d: %d times", code, codes[code])
		}
	}
}

func TestEveryThreeFilesMerge(t *testing.T) {
	files := []impl.File{{}}
	for _, text := range []string{"", "a\n", "b\na\n", "a\nb\n", "b\na\nb\n", "c"} {
		files = append(files, fileOf(text), runOf(text))
	}
	merged := 0
	for _, base := range files {
		for _, a := range files {
			for _, b := range files {
				x, y, z := oneFile(base), oneFile(a), oneFile(b)
				m := wantMerge(t, x, y, z)
				wantMergeOfTreesPromises(t, x, y, z)
				if m.Code == 0 && !sameTree(m.Tree, y) && !sameTree(m.Tree, z) {
					merged++
				}
			}
		}
	}
	if merged < 50 {
		t.Error(merged)
	}
}

// retold has the texts of some files edited, and other things changed too.
func retold(source *rand.Rand, x impl.Tree, edits int) impl.Tree {
	y := impl.Tree{Entries: slices.Clone(x.Entries)}
	for i := range y.Entries {
		if source.Intn(2) == 0 {
			y.Entries[i].Text = editedText(source, y.Entries[i].Text, source.Intn(3))
		}
		if source.Intn(5) == 0 {
			y.Entries[i].Runs = !y.Entries[i].Runs
		}
	}
	for range edits {
		path := anyPath(source, y)
		next, code := plainPut(y, impl.Entry{Path: path, Text: strconv.Itoa(source.Intn(2))})
		if source.Intn(2) == 0 {
			next, code = plainRemove(y, path)
		}
		if source.Intn(4) == 0 {
			next, code = plainOverlay(y, filled(path+":1"))
		}
		if code == 0 {
			y = next
		}
	}
	return y
}

func TestRandomTreesMerge(t *testing.T) {
	source := rand.New(rand.NewSource(81))
	codes := map[int]int{}
	for i := range 6000 {
		n := 6
		if i%60 == 0 {
			n = 200
		}
		base := randomTree(source, source.Intn(n))
		for j := range base.Entries {
			base.Entries[j].Text = editedText(source, "", source.Intn(10))
		}
		a, b := retold(source, base, source.Intn(3)), retold(source, base, source.Intn(3))
		codes[wantMerge(t, base, a, b).Code]++
		wantMergeOfTreesPromises(t, base, a, b)
		codes[wantMerge(t, base, spoiledTree(source, a), b).Code]++
		wantMerge(t, spoiledTree(source, base), a, b)
	}
	for code, least := range []int{2000, 500, 1000, 20} {
		if codes[code] < least {
			t.Errorf("code %d: %d times", code, codes[code])
		}
	}
}

func TestMergesFromOneShareNothing(t *testing.T) {
	base, a, b := filled("a:1 b:1 c:1"), filled("a:1 b:2 c:1"), filled("a:1 b:1")
	first, second := impl.Merge(base, a, b), impl.Merge(base, a, b)
	first.Tree.Entries = append(first.Tree.Entries, impl.Entry{Path: "y"})
	second.Tree.Entries = append(second.Tree.Entries, impl.Entry{Path: "z"})
	wantPaths(t, first.Tree, "a b y")
	wantPaths(t, second.Tree, "a b z")
	wantPaths(t, b, "a b")
	x, y := impl.Merge(base, filled("a:2"), filled("a:3")), impl.Merge(base, filled("a:2"), filled("a:3"))
	x.Clashes = append(x.Clashes, "y")
	y.Clashes = append(y.Clashes, "z")
	if strings.Join(x.Clashes, " ") != "a y" || strings.Join(y.Clashes, " ") != "a z" {
		t.Error(x.Clashes, y.Clashes)
	}
}

func TestGreatMergesEndSoon(t *testing.T) {
	great := impl.Tree{Entries: make([]impl.Entry, 1<<20)}
	base, a, b := numbered("f", impl.MaxEntries), numbered("f", impl.MaxEntries), numbered("f", impl.MaxEntries)
	for i := range base.Entries {
		base.Entries[i].Text = strings.Repeat("\n", impl.MaxText-5)
		a.Entries[i].Text = "a\n" + base.Entries[i].Text
		b.Entries[i].Text = base.Entries[i].Text + "b\n"
	}
	endsSoon(t, "a great merge", func() {
		for range 100 {
			if m := impl.Merge(great, great, great); m.Code != 1 {
				t.Error(m.Code)
			}
		}
		m := impl.Merge(base, a, b)
		if m.Code != 0 || len(m.Tree.Entries) != impl.MaxEntries {
			t.Error(mergedText(m))
			return
		}
		for i, e := range m.Tree.Entries {
			if e.Text != "a\n"+b.Entries[i].Text {
				t.Error(e.Path)
			}
		}
	})
}
