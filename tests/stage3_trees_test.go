package tests

import (
	"math/rand"
	"slices"
	"strconv"
	"strings"
	"testing"

	"loop.example/kilntree/impl"
)

// isDirOf says whether a path is a directory of another one.
func isDirOf(dir, path string) bool { return strings.HasPrefix(path, dir+"/") }

func inTheWay(p, q string) bool { return isDirOf(p, q) || isDirOf(q, p) }

func plainValidTree(x impl.Tree) bool {
	if len(x.Entries) > 100 {
		return false
	}
	for i, e := range x.Entries {
		if !plainPath(e.Path) || len(e.Text) > 1500 || i > 0 && e.Path <= x.Entries[i-1].Path {
			return false
		}
		for _, other := range x.Entries {
			if isDirOf(e.Path, other.Path) {
				return false
			}
		}
	}
	return true
}

// sortedTree is a tree of entries in any order.
func sortedTree(entries []impl.Entry) impl.Tree {
	entries = slices.Clone(entries)
	slices.SortFunc(entries, func(e, f impl.Entry) int { return strings.Compare(e.Path, f.Path) })
	return impl.Tree{Entries: entries}
}

// keptEntries are those of a tree that keep says.
func keptEntries(x impl.Tree, keep func(e impl.Entry) bool) []impl.Entry {
	kept := []impl.Entry{}
	for _, e := range x.Entries {
		if keep(e) {
			kept = append(kept, e)
		}
	}
	return kept
}

func sizedTree(entries []impl.Entry) (impl.Tree, int) {
	if len(entries) > 100 {
		return impl.Tree{}, 4
	}
	return sortedTree(entries), 0
}

func plainGet(x impl.Tree, path string) (impl.Entry, bool) {
	for _, e := range x.Entries {
		if plainValidTree(x) && e.Path == path {
			return e, true
		}
	}
	return impl.Entry{}, false
}

func plainPut(x impl.Tree, e impl.Entry) (impl.Tree, int) {
	if !plainValidTree(x) {
		return impl.Tree{}, 1
	}
	if !plainPath(e.Path) || len(e.Text) > 1500 {
		return impl.Tree{}, 2
	}
	for _, other := range x.Entries {
		if inTheWay(other.Path, e.Path) {
			return impl.Tree{}, 3
		}
	}
	return sizedTree(append(keptEntries(x, func(o impl.Entry) bool { return o.Path != e.Path }), e))
}

func plainRemove(x impl.Tree, path string) (impl.Tree, int) {
	if !plainValidTree(x) {
		return impl.Tree{}, 1
	}
	kept := keptEntries(x, func(e impl.Entry) bool { return e.Path != path })
	if len(kept) == len(x.Entries) {
		return impl.Tree{}, 4
	}
	return impl.Tree{Entries: kept}, 0
}

func plainUnder(x impl.Tree, dir string) impl.Tree {
	if !plainValidTree(x) || !plainPath(dir) {
		return impl.Tree{}
	}
	below := keptEntries(x, func(e impl.Entry) bool { return isDirOf(dir, e.Path) })
	for i := range below {
		below[i].Path = strings.TrimPrefix(below[i].Path, dir+"/")
	}
	return impl.Tree{Entries: below}
}

func plainMount(x impl.Tree, dir string, sub impl.Tree) (impl.Tree, int) {
	if !plainValidTree(x) || !plainValidTree(sub) || !plainPath(dir) {
		return impl.Tree{}, 1
	}
	out := keptEntries(x, func(e impl.Entry) bool { return !isDirOf(dir, e.Path) })
	for _, e := range sub.Entries {
		e.Path = dir + "/" + e.Path
		if !plainPath(e.Path) {
			return impl.Tree{}, 2
		}
		out = append(out, e)
	}
	for _, e := range x.Entries {
		if e.Path == dir || isDirOf(e.Path, dir) {
			return impl.Tree{}, 3
		}
	}
	return sizedTree(out)
}

func plainPick(x impl.Tree, globs []string) impl.Tree {
	if !plainValidTree(x) || len(globs) > 20 {
		return impl.Tree{}
	}
	return impl.Tree{Entries: keptEntries(x, func(e impl.Entry) bool {
		return slices.ContainsFunc(globs, func(glob string) bool { return plainMatch(glob, e.Path) })
	})}
}

func plainOverlay(a, b impl.Tree) (impl.Tree, int) {
	if !plainValidTree(a) || !plainValidTree(b) {
		return impl.Tree{}, 1
	}
	return sizedTree(append(keptEntries(a, func(e impl.Entry) bool {
		return !slices.ContainsFunc(b.Entries, func(f impl.Entry) bool { return e.Path == f.Path || inTheWay(e.Path, f.Path) })
	}), b.Entries...))
}

func sameTree(x, y impl.Tree) bool { return slices.Equal(x.Entries, y.Entries) }

func treePaths(x impl.Tree) string {
	paths := []string{}
	for _, e := range x.Entries {
		paths = append(paths, e.Path)
	}
	return strings.Join(paths, " ")
}

func treeText(x impl.Tree) string {
	text := strconv.Itoa(len(x.Entries)) + " entries:"
	for _, e := range x.Entries[:min(len(x.Entries), 30)] {
		text += " " + strconv.Quote(e.Path)
		if e.Text != "" {
			text += "=" + strconv.Quote(e.Text[:min(len(e.Text), 10)])
		}
		if e.Runs {
			text += "!"
		}
	}
	return text
}

// treeOf has a file under each of the words of paths, with a text of its own.
func treeOf(paths string) impl.Tree {
	entries := []impl.Entry{}
	for i, path := range strings.Fields(paths) {
		entries = append(entries, impl.Entry{Path: path, Text: "text of " + path, Runs: i%2 == 1})
	}
	return sortedTree(entries)
}

// numbered has n files with from in front of their names.
func numbered(from string, n int) impl.Tree {
	entries := []impl.Entry{}
	for i := range n {
		entries = append(entries, impl.Entry{Path: from + strconv.Itoa(1000+i), Text: strconv.Itoa(i)})
	}
	return impl.Tree{Entries: entries}
}

func both(x, y impl.Tree) impl.Tree {
	return sortedTree(slices.Concat(x.Entries, y.Entries))
}

// roomyTree is a tree with entries behind its end, and all of its room, kept.
func roomyTree(x impl.Tree) (impl.Tree, []impl.Entry) {
	room := append(slices.Clone(x.Entries), impl.Entry{Path: "behind"}, impl.Entry{Path: "behind/it"})
	return impl.Tree{Entries: room[:len(x.Entries)]}, slices.Clone(room[:cap(room)])
}

// wantTree asks with trees that have entries behind their ends, and holds
// what is answered against what is wanted; the trees and what is behind them
// must stay, even when the answer is written over with its spare room.
func wantTree(t *testing.T, what string, want impl.Tree, code int, ask func(trees []impl.Tree) (impl.Tree, int), trees ...impl.Tree) {
	t.Helper()
	given, kept := []impl.Tree{}, [][]impl.Entry{}
	for _, x := range trees {
		roomy, room := roomyTree(x)
		given, kept = append(given, roomy), append(kept, room)
	}
	got, gotCode := ask(given)
	if gotCode != code || !sameTree(got, want) {
		t.Errorf("%s: code %d, %s; want code %d, %s", what, gotCode, treeText(got), code, treeText(want))
	}
	if code == 0 && !impl.ValidTree(got) && plainValidTree(want) {
		t.Errorf("%s: not valid: %s", what, treeText(got))
	}
	wantNewTexts(t, what, got, given)
	over := got.Entries[:cap(got.Entries)]
	for i := range over {
		over[i] = impl.Entry{Path: "written/over"}
	}
	for i, x := range given {
		if !slices.Equal(x.Entries[:cap(x.Entries)], kept[i]) {
			t.Errorf("%s: tree %d was changed", what, i)
		}
	}
}

func wantNewTexts(t *testing.T, what string, got impl.Tree, given []impl.Tree) {
	t.Helper()
	for _, x := range given {
		wantApart(t, what, treeTexts(got), treeTexts(x))
	}
}

func wantApart(t *testing.T, what string, got, given []string) {
	t.Helper()
	for _, text := range got {
		for _, other := range given {
			if shareBytes(text, other) {
				t.Errorf("%s: %.20q lies in the memory of an argument", what, text)
				return
			}
		}
	}
}

func treeTexts(x impl.Tree) []string {
	texts := []string{}
	for _, e := range x.Entries {
		texts = append(texts, e.Path, e.Text)
	}
	return texts
}

func wantGet(t *testing.T, x impl.Tree, path string) {
	t.Helper()
	e, ok := impl.Get(x, path)
	want, wantOK := plainGet(x, path)
	if e != want || ok != wantOK {
		t.Errorf("%.60q of %s: %q %t", path, treeText(x), e.Path, ok)
	}
	for _, f := range x.Entries {
		if shareBytes(e.Path, f.Path) || shareBytes(e.Text, f.Text) || shareBytes(e.Path, path) {
			t.Errorf("%q lies in the memory of an argument", e.Path)
		}
	}
}

func wantPut(t *testing.T, x impl.Tree, e impl.Entry) int {
	t.Helper()
	want, code := plainPut(x, e)
	what := "put " + strconv.Quote(brief3(e.Path)) + " into " + treeText(x)
	wantTree(t, what, want, code, func(trees []impl.Tree) (impl.Tree, int) {
		got, gotCode := impl.Put(trees[0], e)
		wantNewTexts(t, what, got, []impl.Tree{{Entries: []impl.Entry{e}}})
		return got, gotCode
	}, x)
	return code
}

func wantRemove(t *testing.T, x impl.Tree, path string) int {
	t.Helper()
	want, code := plainRemove(x, path)
	wantTree(t, "remove "+strconv.Quote(brief3(path))+" from "+treeText(x), want, code, func(trees []impl.Tree) (impl.Tree, int) {
		return impl.Remove(trees[0], path)
	}, x)
	return code
}

func wantUnder(t *testing.T, x impl.Tree, dir string) {
	t.Helper()
	wantTree(t, "under "+strconv.Quote(brief3(dir))+" of "+treeText(x), plainUnder(x, dir), 0, func(trees []impl.Tree) (impl.Tree, int) {
		return impl.Under(trees[0], dir), 0
	}, x)
}

func wantMount(t *testing.T, x impl.Tree, dir string, sub impl.Tree) int {
	t.Helper()
	want, code := plainMount(x, dir, sub)
	what := "mount at " + strconv.Quote(brief3(dir)) + " of " + treeText(x) + " " + treeText(sub)
	wantTree(t, what, want, code, func(trees []impl.Tree) (impl.Tree, int) {
		return impl.Mount(trees[0], dir, trees[1])
	}, x, sub)
	return code
}

func wantPick(t *testing.T, x impl.Tree, globs []string) {
	t.Helper()
	kept := slices.Clone(globs)
	what := "pick " + strings.Join(globs[:min(len(globs), 21)], " ") + " of " + treeText(x)
	wantTree(t, what, plainPick(x, globs), 0, func(trees []impl.Tree) (impl.Tree, int) {
		return impl.Pick(trees[0], globs), 0
	}, x)
	if !slices.Equal(globs, kept) {
		t.Error(what + ": globs were changed")
	}
}

func wantOverlay(t *testing.T, a, b impl.Tree) int {
	t.Helper()
	want, code := plainOverlay(a, b)
	wantTree(t, "overlay of "+treeText(a)+" and "+treeText(b), want, code, func(trees []impl.Tree) (impl.Tree, int) {
		return impl.Overlay(trees[0], trees[1])
	}, a, b)
	return code
}

func brief3(text string) string { return text[:min(len(text), 60)] }

// wantCode is for cases whose code is written out: the oracle has it too.
func wantCode(t *testing.T, got, want int) {
	t.Helper()
	if got != want {
		t.Errorf("code %d, want %d", got, want)
	}
}

func wantValidTree(t *testing.T, x impl.Tree, want bool) {
	t.Helper()
	if got := impl.ValidTree(x); got != want || plainValidTree(x) != want {
		t.Errorf("valid %t: %s", got, treeText(x))
	}
}

func wantPaths(t *testing.T, x impl.Tree, want string) {
	t.Helper()
	if got := treePaths(x); got != want {
		t.Errorf("%s, want %s", got, want)
	}
}

func filesOf(paths ...string) impl.Tree {
	x := impl.Tree{}
	for _, path := range paths {
		x.Entries = append(x.Entries, impl.Entry{Path: path})
	}
	return x
}

// wrongTrees are not valid, each for one reason.
func wrongTrees() []impl.Tree {
	long := strings.Repeat("t", impl.MaxText+1)
	wrong := []impl.Tree{
		filesOf("b", "a"),
		filesOf("a", "a"),
		filesOf("a", "c", "b"),
		filesOf("b/x", "b.c"),
		filesOf("a", "a/b"),
		filesOf("b", "b.c", "b/c"),
		filesOf("a/b", "a/b!", "a/b/c"),
		filesOf("a/b", "a/b-/x", "a/b/c/d/e/f"),
		filesOf("a/b/c/d/e", "a/b/c/d/e/f"),
		filesOf("a", "a/b", "c"),
		numbered("f", impl.MaxEntries+1),
		{Entries: []impl.Entry{{Path: "a", Text: long}}},
		{Entries: []impl.Entry{{Path: "a"}, {Path: "b", Text: long}, {Path: "c"}}},
	}
	for _, path := range []string{"", "/", "a/", "/a", "a//b", ".", "..", "a/..", "*", "a?", "**", "a b", "a\"", "\x7f", "é", strings.Repeat("p", 21), "a/a/a/a/a/a/a"} {
		wrong = append(wrong, filesOf(path), sortedTree(filesOf("0", path, "z").Entries))
	}
	return wrong
}

func TestTreeLimits(t *testing.T) {
	if impl.MaxEntries != 100 || impl.MaxText != 1500 {
		t.Error(impl.MaxEntries, impl.MaxText)
	}
}

func TestTreesThatAreValid(t *testing.T) {
	full := strings.Repeat("t", impl.MaxText)
	wantValidTree(t, impl.Tree{}, true)
	wantValidTree(t, impl.Tree{Entries: []impl.Entry{}}, true)
	wantValidTree(t, filesOf("a"), true)
	wantValidTree(t, filesOf("a", "a.b", "ab", "b/c", "b/d"), true)
	// `.` comes ahead of `/`, and `0` behind it.
	wantValidTree(t, filesOf("b!", "b-/x", "b.c", "b/x", "b0"), true)
	wantValidTree(t, filesOf("B", "b"), true)
	// A file inside a directory has the name of one elsewhere.
	wantValidTree(t, filesOf("a/b/c", "b"), true)
	wantValidTree(t, filesOf("a/a", "b/a/c", "c/b/a/d"), true)
	wantValidTree(t, impl.Tree{Entries: []impl.Entry{{Path: "a", Text: full}, {Path: "b", Text: full, Runs: true}}}, true)
	wantValidTree(t, impl.Tree{Entries: []impl.Entry{{Path: "a", Text: strings.Repeat("é", impl.MaxText/2)}}}, true)
	wantValidTree(t, impl.Tree{Entries: []impl.Entry{{Path: "a", Text: strings.Repeat("é", impl.MaxText/2) + "é"}}}, false)
	wantValidTree(t, impl.Tree{Entries: []impl.Entry{{Path: "a", Text: "\x00\xff\"\n"}}}, true)
	wantValidTree(t, numbered("f", impl.MaxEntries), true)
	wantValidTree(t, numbered("f", impl.MaxEntries+1), false)
	wantValidTree(t, filesOf(strings.Repeat("p", impl.MaxPart), strings.Join(repeated("q", impl.MaxParts), "/")), true)
	for _, x := range wrongTrees() {
		wantValidTree(t, x, false)
	}
}

func TestEveryListOfThreePathsIsATreeOrNot(t *testing.T) {
	texts := []string{"a", "a!", "a/", "a/a", "a/a.", "a/a/a", "a0", "b", "b/a", ".", "", "a/a/a/a/a/a", "a/a/a/a/a/a/a"}
	valid := 0
	for _, x := range texts {
		wantValidTree(t, filesOf(x), plainPath(x))
		for _, y := range texts {
			wantValidTree(t, filesOf(x, y), plainValidTree(filesOf(x, y)))
			for _, z := range texts {
				three := filesOf(x, y, z)
				wantValidTree(t, three, plainValidTree(three))
				if plainValidTree(three) {
					valid++
				}
			}
		}
	}
	if valid < 20 {
		t.Error(valid)
	}
}

func TestGetGivesTheEntry(t *testing.T) {
	x := treeOf("a b! b.c b/x b/y/z c/d/e/f/g/h")
	e, ok := impl.Get(x, "b/y/z")
	if !ok || e.Path != "b/y/z" || e.Text != "text of b/y/z" || e.Runs {
		t.Error(e, ok)
	}
	e, ok = impl.Get(x, "b/x")
	if !ok || !e.Runs {
		t.Error(e, ok)
	}
	for _, path := range []string{"a", "b!", "b.c", "b/x", "b/y/z", "c/d/e/f/g/h", "b", "b/y", "c", "c/d", "c/d/e/f/g", "a/in", "b/x/y", "b/z", "z", "A", "b.", "", "/", "a/", "/a", "b//x", "b/x/", "..", "*", "?", "**", "c/d/e/f/g/h/i", strings.Repeat("a/", 100000), strings.Repeat("a", 100000)} {
		wantGet(t, x, path)
		wantGet(t, impl.Tree{}, path)
	}
	if e, ok := impl.Get(impl.Tree{Entries: []impl.Entry{{Path: "empty"}}}, "empty"); !ok || e.Path != "empty" {
		t.Error(e, ok)
	}
	for _, wrong := range wrongTrees() {
		for _, e := range wrong.Entries {
			if got, ok := impl.Get(wrong, e.Path); ok || got != (impl.Entry{}) {
				t.Errorf("%q of what is no tree: %q", e.Path, got.Path)
			}
		}
	}
}

func TestCodesOfPut(t *testing.T) {
	x := treeOf("a b.c b/x b/y/z")
	for _, c := range []struct {
		path string
		code int
	}{
		{"a", 0}, {"b/x", 0}, {"b/z", 0}, {"b/y/a", 0}, {"b.", 0}, {"b!", 0}, {"c/d/e/f/g/h", 0}, {"0", 0}, {"~", 0}, {"ab", 0},
		{"", 2}, {"/", 2}, {"a/", 2}, {"/c", 2}, {"..", 2}, {"c/.", 2}, {"*", 2}, {"c/d/e/f/g/h/i", 2}, {strings.Repeat("p", 21), 2}, {"a/..", 2}, {"a//b", 2},
		{"a/in", 3}, {"a/in/it", 3}, {"b", 3}, {"b/y", 3}, {"b/x/in", 3}, {"b/y/z/in", 3}, {"b.c/in", 3}, {"a/b/c/d/e/f", 3},
	} {
		wantCode(t, wantPut(t, x, impl.Entry{Path: c.path, Text: "new", Runs: true}), c.code)
		wantCode(t, wantPut(t, x, impl.Entry{Path: c.path}), c.code)
	}
	y, _ := impl.Put(x, impl.Entry{Path: "b/x", Text: "other", Runs: false})
	wantPaths(t, y, "a b.c b/x b/y/z")
	if e, _ := impl.Get(y, "b/x"); e != (impl.Entry{Path: "b/x", Text: "other"}) {
		t.Error(e)
	}
}

func TestLimitsOfPut(t *testing.T) {
	full := strings.Repeat("t", impl.MaxText)
	wantCode(t, wantPut(t, impl.Tree{}, impl.Entry{Path: "a", Text: full}), 0)
	wantCode(t, wantPut(t, impl.Tree{}, impl.Entry{Path: "a", Text: full + "t"}), 2)
	wantCode(t, wantPut(t, treeOf("a"), impl.Entry{Path: "a", Text: full + "t"}), 2)
	wantCode(t, wantPut(t, impl.Tree{}, impl.Entry{Path: "a", Text: strings.Repeat("t", 1<<22)}), 2)
	wantCode(t, wantPut(t, numbered("f", impl.MaxEntries-1), impl.Entry{Path: "g"}), 0)
	wantCode(t, wantPut(t, numbered("f", impl.MaxEntries), impl.Entry{Path: "g"}), 4)
	wantCode(t, wantPut(t, numbered("f", impl.MaxEntries), impl.Entry{Path: "a"}), 4)
	// What takes the place of an entry is no more than there was.
	wantCode(t, wantPut(t, numbered("f", impl.MaxEntries), impl.Entry{Path: "f1000", Text: "new"}), 0)
	wantCode(t, wantPut(t, numbered("f", impl.MaxEntries), impl.Entry{Path: "f1099", Runs: true}), 0)
}

func TestFirstCodeOfPut(t *testing.T) {
	most := numbered("f", impl.MaxEntries)
	long := strings.Repeat("t", impl.MaxText+1)
	for _, wrong := range wrongTrees() {
		wantCode(t, wantPut(t, wrong, impl.Entry{Path: "fine"}), 1)
		wantCode(t, wantPut(t, wrong, impl.Entry{Path: ".."}), 1)
		wantCode(t, wantPut(t, wrong, impl.Entry{Path: "fine", Text: long}), 1)
		wantCode(t, wantPut(t, wrong, impl.Entry{Path: "a/b/c"}), 1)
	}
	wantCode(t, wantPut(t, treeOf("a"), impl.Entry{Path: "a/b", Text: long}), 2)
	wantCode(t, wantPut(t, treeOf("a/b"), impl.Entry{Path: "a", Text: long}), 2)
	wantCode(t, wantPut(t, treeOf("a"), impl.Entry{Path: "a/.."}), 2)
	wantCode(t, wantPut(t, most, impl.Entry{Path: "g", Text: long}), 2)
	wantCode(t, wantPut(t, most, impl.Entry{Path: "g/"}), 2)
	wantCode(t, wantPut(t, most, impl.Entry{Path: "f1000/g"}), 3)
	wantCode(t, wantPut(t, numbered("d/f", impl.MaxEntries), impl.Entry{Path: "d"}), 3)
}

func TestCodesOfRemove(t *testing.T) {
	x := treeOf("a b.c b/x b/y/z")
	for _, c := range []struct {
		path string
		code int
	}{
		{"a", 0}, {"b.c", 0}, {"b/x", 0}, {"b/y/z", 0},
		{"b", 4}, {"b/y", 4}, {"c", 4}, {"a/b", 4}, {"b/x/y", 4}, {"", 4}, {"/", 4}, {"a/", 4}, {"/a", 4}, {"b//x", 4}, {"..", 4}, {"*", 4}, {"**", 4}, {"b/y/z/1/2/3/4", 4}, {strings.Repeat("a", 21), 4},
	} {
		wantCode(t, wantRemove(t, x, c.path), c.code)
		wantCode(t, wantRemove(t, impl.Tree{}, c.path), 4)
		for _, wrong := range wrongTrees() {
			wantCode(t, wantRemove(t, wrong, c.path), 1)
		}
	}
	wantCode(t, wantRemove(t, numbered("f", impl.MaxEntries), "f1050"), 0)
	wantCode(t, wantRemove(t, numbered("f", impl.MaxEntries+1), "f1050"), 1)
	// What was a file's directory is free for a file.
	y, _ := impl.Remove(treeOf("a/b/c"), "a/b/c")
	wantPaths(t, y, "")
	y, code := impl.Put(y, impl.Entry{Path: "a"})
	wantCode(t, code, 0)
	wantPaths(t, y, "a")
}

func TestUnderGivesWhatIsInADirectory(t *testing.T) {
	x := treeOf("a b! b-/x b.c b/x b/y! b/y/z bb/x c/d/e/f/g/h")
	for _, c := range [][2]string{
		{"b", "x y! y/z"}, {"b-", "x"}, {"b/y", "z"}, {"bb", "x"}, {"c", "d/e/f/g/h"}, {"c/d/e/f/g", "h"},
		{"a", ""}, {"b/x", ""}, {"b/y/z", ""}, {"z", ""}, {"b.", ""}, {"B", ""}, {"c/d/e/f/g/h", ""}, {"a/b", ""}, {"x", ""}, {"y", ""},
		{"", ""}, {"/", ""}, {"b/", ""}, {"/b", ""}, {".", ""}, {"b/.", ""}, {"*", ""}, {"**", ""}, {"c/d/e/f/g/h/i", ""},
	} {
		wantPaths(t, impl.Under(x, c[0]), c[1])
		wantUnder(t, x, c[0])
		wantUnder(t, impl.Tree{}, c[0])
	}
	for _, wrong := range wrongTrees() {
		for _, dir := range []string{"a", "b", "a/b", "", ".."} {
			wantPaths(t, impl.Under(wrong, dir), "")
			wantUnder(t, wrong, dir)
		}
	}
	wantUnder(t, numbered("d/f", impl.MaxEntries), "d")
}

func TestCodesOfMount(t *testing.T) {
	x := treeOf("a b! b.c b/x b/y/z")
	sub := treeOf("deep/er new")
	for _, c := range []struct {
		dir  string
		code int
		want string
	}{
		{"b", 0, "a b! b.c b/deep/er b/new"},
		{"b/y", 0, "a b! b.c b/x b/y/deep/er b/y/new"},
		{"b/z", 0, "a b! b.c b/x b/y/z b/z/deep/er b/z/new"},
		{"c", 0, "a b! b.c b/x b/y/z c/deep/er c/new"},
		{"c/d/e/f", 0, "a b! b.c b/x b/y/z c/d/e/f/deep/er c/d/e/f/new"},
		{"b.", 0, "a b! b.c b./deep/er b./new b/x b/y/z"},
		{"c/d/e/f/g", 2, ""}, {"c/d/e/f/g/h", 2, ""},
		{"a", 3, ""}, {"a/b", 3, ""}, {"a/b/c", 3, ""}, {"b/x", 3, ""}, {"b/x/y", 3, ""}, {"b/y/z", 3, ""}, {"b/y/z/1", 3, ""}, {"b!", 3, ""}, {"b.c", 3, ""}, {"b.c/d", 3, ""},
		{"", 1, ""}, {"/", 1, ""}, {"b/", 1, ""}, {"/b", 1, ""}, {"..", 1, ""}, {"b/.", 1, ""}, {"*", 1, ""}, {"c/d/e/f/g/h/i", 1, ""}, {strings.Repeat("p", 21), 1, ""},
	} {
		wantCode(t, wantMount(t, x, c.dir, sub), c.code)
		y, _ := impl.Mount(x, c.dir, sub)
		if treePaths(y) != sortedPaths(c.want) {
			t.Errorf("%q: %s", c.dir, treePaths(y))
		}
	}
}

func sortedPaths(paths string) string {
	words := strings.Fields(paths)
	slices.Sort(words)
	return strings.Join(words, " ")
}

func TestMountOfAnEmptyTree(t *testing.T) {
	x := treeOf("a b! b.c b/x b/y/z")
	for _, c := range []struct {
		dir  string
		code int
		want string
	}{
		{"b", 0, "a b! b.c"}, {"b/y", 0, "a b! b.c b/x"}, {"c", 0, "a b! b.c b/x b/y/z"}, {"b/z", 0, "a b! b.c b/x b/y/z"}, {"1/2/3/4/5/6", 0, "a b! b.c b/x b/y/z"},
		{"a", 3, ""}, {"a/b", 3, ""}, {"a/2/3/4/5/6", 3, ""}, {"b/x", 3, ""}, {"b/x/y", 3, ""}, {"b/y/z", 3, ""}, {"b/y/z/1", 3, ""},
		{"", 1, ""}, {"b/", 1, ""}, {"1/2/3/4/5/6/7", 1, ""},
	} {
		for _, empty := range []impl.Tree{{}, {Entries: []impl.Entry{}}} {
			wantCode(t, wantMount(t, x, c.dir, empty), c.code)
			y, _ := impl.Mount(x, c.dir, empty)
			wantPaths(t, y, c.want)
		}
	}
	wantCode(t, wantMount(t, impl.Tree{}, "a", impl.Tree{}), 0)
	wantCode(t, wantMount(t, impl.Tree{}, "..", impl.Tree{}), 1)
}

func TestLimitsOfMount(t *testing.T) {
	most, half := numbered("f", impl.MaxEntries), numbered("d/f", impl.MaxEntries/2)
	rest := numbered("e", impl.MaxEntries/2)
	wantCode(t, wantMount(t, impl.Tree{}, "d", most), 0)
	wantCode(t, wantMount(t, most, "d", impl.Tree{}), 0)
	wantCode(t, wantMount(t, most, "d", treeOf("x")), 4)
	wantCode(t, wantMount(t, treeOf("x"), "d", most), 4)
	wantCode(t, wantMount(t, rest, "d", numbered("f", impl.MaxEntries/2)), 0)
	wantCode(t, wantMount(t, rest, "d", numbered("f", impl.MaxEntries/2+1)), 4)
	// What was under dir counts no more.
	wantCode(t, wantMount(t, both(half, rest), "d", numbered("g", impl.MaxEntries/2)), 0)
	wantCode(t, wantMount(t, both(half, rest), "d", numbered("g", impl.MaxEntries/2+1)), 4)
	wantCode(t, wantMount(t, numbered("d/f", impl.MaxEntries), "d", most), 0)
	wantCode(t, wantMount(t, numbered("d/f", impl.MaxEntries), "d/g", treeOf("x")), 4)
	// MaxParts, in dir and in sub.
	for n := 1; n <= impl.MaxParts; n++ {
		dir := strings.Join(repeated("d", n), "/")
		for m := 1; m <= impl.MaxParts; m++ {
			path := strings.Join(repeated("s", m), "/")
			want := 0
			if n+m > impl.MaxParts {
				want = 2
			}
			wantCode(t, wantMount(t, impl.Tree{}, dir, filesOf(path)), want)
			wantCode(t, wantMount(t, treeOf("a z"), dir, sortedTree(filesOf("q", path).Entries)), max(want, 2*(n/impl.MaxParts)))
		}
	}
	long := strings.Repeat("p", impl.MaxPart)
	wantCode(t, wantMount(t, impl.Tree{}, long, filesOf(long)), 0)
}

func TestFirstCodeOfMount(t *testing.T) {
	most := numbered("f", impl.MaxEntries)
	deep := filesOf("1/2/3/4/5/6")
	for _, wrong := range wrongTrees() {
		for _, dir := range []string{"q", "a", "a/b", "..", ""} {
			wantCode(t, wantMount(t, wrong, dir, treeOf("x")), 1)
			wantCode(t, wantMount(t, treeOf("x"), dir, wrong), 1)
			wantCode(t, wantMount(t, wrong, dir, deep), 1)
		}
		wantCode(t, wantMount(t, wrong, "q", wrong), 1)
		wantCode(t, wantMount(t, wrong, "q", impl.Tree{}), 1)
		wantCode(t, wantMount(t, treeOf("a"), "a", wrong), 1)
		wantCode(t, wantMount(t, most, "q", wrong), 1)
	}
	wantCode(t, wantMount(t, treeOf("a"), "..", deep), 1)
	wantCode(t, wantMount(t, treeOf("a"), "a", deep), 2)
	wantCode(t, wantMount(t, treeOf("a"), "a/b", deep), 2)
	wantCode(t, wantMount(t, treeOf("a"), "a/2/3/4/5/6", treeOf("x")), 2)
	wantCode(t, wantMount(t, treeOf("a"), "a/2/3/4/5/6", impl.Tree{}), 3)
	wantCode(t, wantMount(t, most, "q", deep), 2)
	wantCode(t, wantMount(t, most, "f1000", treeOf("x")), 3)
	wantCode(t, wantMount(t, most, "f1000/y", treeOf("x")), 3)
	wantCode(t, wantMount(t, most, "f1000", impl.Tree{}), 3)
}

func TestPickTakesWhatOneGlobMatches(t *testing.T) {
	x := treeOf("a b! b.c b/x b/y/z c/x x")
	for _, c := range []struct{ globs, want string }{
		{"", ""}, {"**", "a b! b.c b/x b/y/z c/x x"}, {"*", "a b! b.c x"}, {"b*", "b! b.c"}, {"b/**", "b/x b/y/z"}, {"**/x", "b/x c/x x"}, {"?/x", "b/x c/x"},
		{"x a", "a x"}, {"a a a", "a"}, {"x **/x c/* c/x", "b/x c/x x"}, {".. a/ x", "x"}, {"b", ""}, {"/ // .. .", ""}, {"z **/y", ""},
	} {
		wantPaths(t, impl.Pick(x, strings.Fields(c.globs)), c.want)
		wantPick(t, x, strings.Fields(c.globs))
	}
	wantPick(t, x, nil)
	wantPick(t, x, []string{"", "a b", "\xff", strings.Repeat("*", 21), "**/**/**/**/**/**/**"})
	wantPick(t, impl.Tree{}, []string{"**"})
	for _, wrong := range wrongTrees() {
		wantPaths(t, impl.Pick(wrong, []string{"**"}), "")
		wantPick(t, wrong, []string{"**"})
	}
	wantPick(t, numbered("d/f", impl.MaxEntries), []string{"d/f*"})
	wantPick(t, numbered("d/f", impl.MaxEntries+1), []string{"d/f*"})
}

func TestMaxGlobs(t *testing.T) {
	x := treeOf("a b c/d")
	for _, filling := range []string{"nowhere", "..", "", "a"} {
		for _, n := range []int{impl.MaxGlobs - 1, impl.MaxGlobs, impl.MaxGlobs + 1, 10000} {
			globs := append(repeated(filling, n-1), "c/d")
			want := "c/d"
			if filling == "a" {
				want = "a c/d"
			}
			if n > impl.MaxGlobs {
				want = ""
			}
			wantPaths(t, impl.Pick(x, globs), want)
			wantPick(t, x, globs)
			slices.Reverse(globs)
			wantPaths(t, impl.Pick(x, globs), want)
		}
	}
}

func TestOverlayTakesBAndWhatIsNotInItsWay(t *testing.T) {
	for _, c := range []struct{ a, b, want string }{
		{"", "", ""}, {"a", "", "a"}, {"", "a", "a"}, {"a c", "b", "a b c"},
		{"a", "a", "a"}, {"a/b", "a", "a"}, {"a", "a/b", "a/b"}, {"a/b/c", "a/b", "a/b"}, {"a/b", "a/b/c", "a/b/c"}, {"a/b/c", "a", "a"}, {"a", "a/b/c", "a/b/c"},
		{"a/b a/c", "a", "a"}, {"a/b a/c d", "a/b/x", "a/b/x a/c d"}, {"a", "a/b a/c", "a/b a/c"}, {"a! a.b a/b a0", "a", "a a! a.b a0"},
		{"a/b b", "b/a", "a/b b/a"}, {"x/a", "a", "a x/a"}, {"a b/x b/y b.c", "a/in b z", "a/in b b.c z"},
	} {
		y, code := impl.Overlay(treeOf(c.a), treeOf(c.b))
		wantCode(t, code, 0)
		wantPaths(t, y, c.want)
		wantCode(t, wantOverlay(t, treeOf(c.a), treeOf(c.b)), 0)
	}
	one := impl.Tree{Entries: []impl.Entry{{Path: "p", Text: "one", Runs: true}}}
	two := impl.Tree{Entries: []impl.Entry{{Path: "p", Text: "two"}}}
	if y, _ := impl.Overlay(one, two); !sameTree(y, two) {
		t.Error(treeText(y))
	}
}

func TestCodesOfOverlay(t *testing.T) {
	most, halfA, halfB := numbered("f", impl.MaxEntries), numbered("a/f", impl.MaxEntries/2), numbered("b/f", impl.MaxEntries/2)
	for _, wrong := range wrongTrees() {
		wantCode(t, wantOverlay(t, wrong, impl.Tree{}), 1)
		wantCode(t, wantOverlay(t, impl.Tree{}, wrong), 1)
		wantCode(t, wantOverlay(t, wrong, most), 1)
		wantCode(t, wantOverlay(t, most, wrong), 1)
		wantCode(t, wantOverlay(t, wrong, wrong), 1)
	}
	wantCode(t, wantOverlay(t, most, impl.Tree{}), 0)
	wantCode(t, wantOverlay(t, impl.Tree{}, most), 0)
	wantCode(t, wantOverlay(t, most, most), 0)
	wantCode(t, wantOverlay(t, halfA, halfB), 0)
	wantCode(t, wantOverlay(t, halfA, both(halfB, treeOf("z"))), 4)
	wantCode(t, wantOverlay(t, both(halfA, treeOf("z")), halfB), 4)
	wantCode(t, wantOverlay(t, both(halfA, treeOf("z")), both(halfB, treeOf("z"))), 4)
	wantCode(t, wantOverlay(t, most, treeOf("z")), 4)
	wantCode(t, wantOverlay(t, most, treeOf("f1000")), 0)
	wantCode(t, wantOverlay(t, most, treeOf("f1000/in")), 0)
	wantCode(t, wantOverlay(t, most, treeOf("f1000/in f1000/it")), 4)
	wantCode(t, wantOverlay(t, both(halfA, halfB), treeOf("a")), 0)
	wantCode(t, wantOverlay(t, most, numbered("z", impl.MaxEntries)), 4)
	wantCode(t, wantOverlay(t, numbered("d/f", impl.MaxEntries), both(treeOf("d"), numbered("z", impl.MaxEntries-1))), 0)
}

// subtrees are all valid trees of some of the paths, with texts of their own.
func subtrees(paths []string, text string) []impl.Tree {
	trees := []impl.Tree{}
	for set := range 1 << len(paths) {
		x := impl.Tree{}
		for i, path := range paths {
			if set>>i&1 == 1 {
				x.Entries = append(x.Entries, impl.Entry{Path: path, Text: text + path, Runs: (i+len(text))%2 == 0})
			}
		}
		if x = sortedTree(x.Entries); plainValidTree(x) {
			trees = append(trees, x)
		}
	}
	return trees
}

func TestEverySmallTree(t *testing.T) {
	paths := []string{"a", "a!", "a/a", "a/a.", "a/a/a", "a/b", "b"}
	asked := append([]string{"", "/", "a/", "..", "a/c", "b/a", "a/b/a", "c", "A", "a/a/a/a/a", "a/a/a/a/a/a", "a/a/a/a/a/a/a"}, paths...)
	all, other := subtrees(paths, ""), subtrees(paths[:6], "other ")
	for _, x := range all {
		for _, path := range asked {
			wantGet(t, x, path)
			wantPut(t, x, impl.Entry{Path: path, Text: "put", Runs: true})
			wantRemove(t, x, path)
			wantUnder(t, x, path)
			wantPick(t, x, []string{path})
			for _, sub := range other {
				wantMount(t, x, path, sub)
			}
		}
		for _, y := range other {
			wantOverlay(t, x, y)
			wantOverlay(t, y, x)
		}
	}
	if len(all) < 40 || len(other) < 20 {
		t.Error(len(all), len(other))
	}
}

func randomPath(source *rand.Rand) string {
	names := []string{"a", "b", "b.", "b!", "b-c", "b0", "c", "~"}
	path := names[source.Intn(len(names))]
	for range source.Intn(1 + source.Intn(6)) {
		path += "/" + names[source.Intn(len(names))]
	}
	return path
}

func randomEntry(source *rand.Rand) impl.Entry {
	return impl.Entry{Path: randomPath(source), Text: randomBytes(source, source.Intn(5)), Runs: source.Intn(2) == 0}
}

// randomTree is of at most n entries.
func randomTree(source *rand.Rand, n int) impl.Tree {
	x := impl.Tree{}
	for range n {
		if y, code := plainPut(x, randomEntry(source)); code == 0 {
			x = y
		}
	}
	return x
}

// anyPath is one of a tree, or of its directories, or none of both.
func anyPath(source *rand.Rand, x impl.Tree) string {
	if len(x.Entries) == 0 || source.Intn(3) == 0 {
		return randomPath(source)
	}
	path := x.Entries[source.Intn(len(x.Entries))].Path
	parts := strings.Split(path, "/")
	if source.Intn(2) == 0 {
		return strings.Join(parts[:1+source.Intn(len(parts))], "/")
	}
	return path
}

func TestRandomTrees(t *testing.T) {
	source := rand.New(rand.NewSource(51))
	codes := map[string]int{}
	for i := range 4000 {
		n := 12
		if i%40 == 0 {
			n = 150
		}
		x, y := randomTree(source, source.Intn(n)), randomTree(source, source.Intn(12))
		wantValidTree(t, x, true)
		path := anyPath(source, x)
		wantGet(t, x, path)
		codes["put "+strconv.Itoa(wantPut(t, x, impl.Entry{Path: path, Text: "new"}))]++
		codes["remove "+strconv.Itoa(wantRemove(t, x, path))]++
		wantUnder(t, x, path)
		codes["mount "+strconv.Itoa(wantMount(t, x, anyPath(source, x), y))]++
		wantPick(t, x, []string{randomGlob(source, path), "~/**", randomGlob(source, anyPath(source, x))})
		codes["overlay "+strconv.Itoa(wantOverlay(t, x, y))]++
	}
	for _, often := range []string{"put 0", "put 3", "remove 0", "remove 4", "mount 0", "mount 2", "mount 3", "overlay 0"} {
		if codes[often] < 100 {
			t.Errorf("%s: %d times", often, codes[often])
		}
	}
}

// spoiledTree has one thing changed that may or may not make it wrong.
func spoiledTree(source *rand.Rand, x impl.Tree) impl.Tree {
	entries := slices.Clone(x.Entries)
	if len(entries) == 0 {
		return impl.Tree{Entries: []impl.Entry{{Path: randomText(source)}}}
	}
	i, j := source.Intn(len(entries)), source.Intn(len(entries))
	switch source.Intn(6) {
	case 0:
		entries[i], entries[j] = entries[j], entries[i]
	case 1:
		entries[i].Path = entries[j].Path
	case 2:
		entries[i].Path += []string{"/", "/x", "//", "/../x", "*", "\"", "!"}[source.Intn(7)]
	case 3:
		entries = sortedTree(append(entries, impl.Entry{Path: entries[i].Path + "/in"})).Entries
	case 4:
		entries[i].Text = strings.Repeat("t", 1499+source.Intn(3))
	case 5:
		entries = sortedTree(append(entries, randomEntry(source))).Entries
	}
	return impl.Tree{Entries: entries}
}

func TestSpoiledTrees(t *testing.T) {
	source := rand.New(rand.NewSource(52))
	valid := 0
	for range 4000 {
		y := randomTree(source, 6)
		x := spoiledTree(source, randomTree(source, source.Intn(12)))
		wantValidTree(t, x, plainValidTree(x))
		if plainValidTree(x) {
			valid++
		}
		path := anyPath(source, y)
		wantGet(t, x, path)
		wantPut(t, x, impl.Entry{Path: path})
		wantRemove(t, x, path)
		wantUnder(t, x, path)
		wantMount(t, x, path, y)
		wantMount(t, y, path, x)
		wantPick(t, x, []string{"**"})
		wantOverlay(t, x, y)
		wantOverlay(t, y, x)
	}
	if valid < 500 || valid > 3500 {
		t.Error(valid)
	}
}

func putAll(t *testing.T, entries []impl.Entry) impl.Tree {
	t.Helper()
	x := impl.Tree{}
	for _, e := range entries {
		y, code := impl.Put(x, e)
		if code != 0 || !impl.ValidTree(y) {
			t.Fatalf("%s: code %d, %s", e.Path, code, treeText(y))
		}
		x = y
	}
	return x
}

// eachOrder calls do with the entries in each order.
func eachOrder(entries []impl.Entry, from int, do func()) {
	if from == len(entries) {
		do()
		return
	}
	for i := from; i < len(entries); i++ {
		entries[from], entries[i] = entries[i], entries[from]
		eachOrder(entries, from+1, do)
		entries[from], entries[i] = entries[i], entries[from]
	}
}

// Promise 5.
func TestTreesDoNotHangOnTheOrderOfPuts(t *testing.T) {
	for _, paths := range []string{"a b c d e", "b! b-/x b.c b/x b/y b0", "a/b/c a/b/d a/bb a/b. a! a.b/c/d"} {
		want := treeOf(paths)
		entries := slices.Clone(want.Entries)
		eachOrder(entries, 0, func() {
			if got := putAll(t, entries); !sameTree(got, want) {
				t.Errorf("%s, want %s", treeText(got), treeText(want))
			}
		})
	}
	source := rand.New(rand.NewSource(53))
	for _, n := range []int{20, 60, 300, 300, 300} {
		want := randomTree(source, n)
		entries := slices.Clone(want.Entries)
		for range 5 {
			source.Shuffle(len(entries), func(i, j int) { entries[i], entries[j] = entries[j], entries[i] })
			if got := putAll(t, entries); !sameTree(got, want) {
				t.Errorf("%s, want %s", treeText(got), treeText(want))
			}
		}
	}
	most := numbered("d/f", impl.MaxEntries)
	entries := slices.Clone(most.Entries)
	slices.Reverse(entries)
	if got := putAll(t, entries); !sameTree(got, most) {
		t.Error(treeText(got))
	}
}

// Promise 5, over many calls in a row.
func TestTreesMadeByManyCallsAreValid(t *testing.T) {
	source := rand.New(rand.NewSource(54))
	x := impl.Tree{}
	for i := range 3000 {
		var y impl.Tree
		code := 0
		switch source.Intn(10) {
		case 0:
			y, code = impl.Remove(x, anyPath(source, x))
		case 1:
			y, code = impl.Mount(x, anyPath(source, x), impl.Under(x, anyPath(source, x)))
		case 2:
			y, code = impl.Overlay(x, randomTree(source, 5))
		case 3:
			y = impl.Pick(x, []string{"?*/**", "b*", anyPath(source, x)})
		case 4:
			if y = impl.Under(x, anyPath(source, x)); len(y.Entries) < 5 {
				code = 4
			}
		default:
			y, code = impl.Put(x, randomEntry(source))
		}
		if code != 0 {
			continue
		}
		if x = y; !impl.ValidTree(x) || !plainValidTree(x) {
			t.Fatalf("after %d calls: %s", i, treeText(x))
		}
	}
}

// Promise 6, its first half.
func TestUnderOfMountIsWhatWasMounted(t *testing.T) {
	source := rand.New(rand.NewSource(55))
	mounted := 0
	for i := range 6000 {
		x, sub := randomTree(source, source.Intn(12)), randomTree(source, source.Intn(8))
		if i%5 == 0 {
			sub = impl.Tree{}
		}
		dir := anyPath(source, x)
		y, code := impl.Mount(x, dir, sub)
		if code != 0 {
			continue
		}
		mounted++
		if got := impl.Under(y, dir); !sameTree(got, sub) {
			t.Errorf("%s: %s, want %s", dir, treeText(got), treeText(sub))
		}
		for _, e := range both(x, y).Entries {
			want, there := plainGet(x, e.Path)
			if got, ok := impl.Get(y, e.Path); !isDirOf(dir, e.Path) && (got != want || ok != there) {
				t.Errorf("%s: %s was changed", dir, e.Path)
			}
		}
	}
	if mounted < 1000 {
		t.Error(mounted)
	}
}

// Promise 6, its second half.
func TestOverlayHasAllOfBAndTheRestOfA(t *testing.T) {
	source := rand.New(rand.NewSource(56))
	for range 3000 {
		a, b := randomTree(source, source.Intn(12)), randomTree(source, source.Intn(12))
		y, code := impl.Overlay(a, b)
		if code != 0 {
			t.Fatal(code)
		}
		for _, e := range b.Entries {
			if got, ok := impl.Get(y, e.Path); !ok || got != e {
				t.Errorf("%s is not that of b", e.Path)
			}
		}
		for _, e := range append(slices.Concat(a.Entries, y.Entries), randomEntry(source)) {
			if _, ok := plainGet(b, e.Path); ok {
				continue
			}
			got, ok := impl.Get(y, e.Path)
			want, there := plainGet(a, e.Path)
			if ok && (!there || got != want) {
				t.Errorf("%s is neither that of a nor nothing", e.Path)
			}
			hidden := slices.ContainsFunc(b.Entries, func(f impl.Entry) bool { return inTheWay(e.Path, f.Path) })
			if there && !ok && !hidden {
				t.Errorf("%s of a is not there", e.Path)
			}
		}
	}
}

func TestAnswersFromOneTreeShareNothing(t *testing.T) {
	x := treeOf("a b/x b/y")
	want := treeOf("a b/x b/y")
	y, _ := impl.Put(x, impl.Entry{Path: "c"})
	z, _ := impl.Put(x, impl.Entry{Path: "d"})
	y.Entries = append(y.Entries, impl.Entry{Path: "y"})
	z.Entries = append(z.Entries, impl.Entry{Path: "z"})
	wantPaths(t, y, "a b/x b/y c y")
	wantPaths(t, z, "a b/x b/y d z")
	// With itself in all places.
	m, code := impl.Mount(x, "m", x)
	wantCode(t, code, 0)
	o, code := impl.Overlay(x, x)
	wantCode(t, code, 0)
	wantPaths(t, m, "a b/x b/y m/a m/b/x m/b/y")
	for _, got := range []impl.Tree{m, o, impl.Under(m, "m"), impl.Pick(x, []string{"**"})} {
		for i := range got.Entries {
			got.Entries[i] = impl.Entry{Path: "written/over"}
		}
	}
	if !sameTree(x, want) {
		t.Error(treeText(x))
	}
}

func TestGreatTreesAreRefusedSoon(t *testing.T) {
	great := impl.Tree{Entries: make([]impl.Entry, 1<<20)}
	long := strings.Repeat("a/", 1<<21)
	endsSoon(t, "a great tree", func() {
		wantValidTree(t, great, false)
		for range 100 {
			if _, code := impl.Put(great, impl.Entry{Path: "a"}); code != 1 {
				t.Error(code)
			}
			if _, code := impl.Mount(impl.Tree{}, "a", great); code != 1 {
				t.Error(code)
			}
			if _, code := impl.Overlay(great, great); code != 1 {
				t.Error(code)
			}
		}
		for _, path := range []string{long, long[:len(long)-1], strings.Repeat("a", 1<<22)} {
			wantCode(t, wantPut(t, treeOf("b"), impl.Entry{Path: path}), 2)
			wantCode(t, wantRemove(t, treeOf("b"), path), 4)
			wantCode(t, wantMount(t, treeOf("b"), path, treeOf("c")), 1)
			wantUnder(t, treeOf("b"), path)
			wantGet(t, treeOf("b"), path)
			wantPick(t, treeOf("b"), []string{"b", path})
			wantValidTree(t, filesOf(path), false)
		}
	})
}
