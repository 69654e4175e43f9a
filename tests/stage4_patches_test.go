package tests

import (
	"maps"
	"math/rand"
	"slices"
	"strconv"
	"strings"
	"testing"

	"loop.example/kilntree/impl"
)

// plainFiles is a tree as a map; a path that is not in it has no file.
func plainFiles(x impl.Tree) map[string]impl.File {
	files := map[string]impl.File{}
	for _, e := range x.Entries {
		files[e.Path] = impl.File{There: true, Text: e.Text, Runs: e.Runs}
	}
	return files
}

func plainTree(files map[string]impl.File) impl.Tree {
	entries := []impl.Entry{}
	for path, f := range files {
		if f.There {
			entries = append(entries, impl.Entry{Path: path, Text: f.Text, Runs: f.Runs})
		}
	}
	return sortedTree(entries)
}

func sortedPatch(changes []impl.Change) impl.Patch {
	changes = slices.Clone(changes)
	slices.SortFunc(changes, func(c, d impl.Change) int { return strings.Compare(c.Path, d.Path) })
	return impl.Patch{Changes: changes}
}

func plainValidFile(f impl.File) bool {
	if f.There {
		return len(f.Text) <= 1500
	}
	return f.Text == "" && !f.Runs
}

func plainSameFile(f, g impl.File) bool {
	return f.There == g.There && f.Text == g.Text && f.Runs == g.Runs
}

func plainValidPatch(p impl.Patch) bool {
	if len(p.Changes) > 200 {
		return false
	}
	for i, c := range p.Changes {
		if !plainPath(c.Path) || !plainValidFile(c.Old) || !plainValidFile(c.New) || plainSameFile(c.Old, c.New) {
			return false
		}
		if i > 0 && p.Changes[i-1].Path >= c.Path {
			return false
		}
	}
	return true
}

func plainDiff(a, b impl.Tree) impl.Patch {
	if !plainValidTree(a) || !plainValidTree(b) {
		return impl.Patch{}
	}
	old, then := plainFiles(a), plainFiles(b)
	all := maps.Clone(old)
	maps.Copy(all, then)
	changes := []impl.Change{}
	for path := range all {
		if !plainSameFile(old[path], then[path]) {
			changes = append(changes, impl.Change{Path: path, Old: old[path], New: then[path]})
		}
	}
	return sortedPatch(changes)
}

func plainApply(x impl.Tree, p impl.Patch) (impl.Tree, int) {
	if !plainValidTree(x) || !plainValidPatch(p) {
		return impl.Tree{}, 1
	}
	files := plainFiles(x)
	for _, c := range p.Changes {
		if !plainSameFile(files[c.Path], c.Old) {
			return impl.Tree{}, 2
		}
		files[c.Path] = c.New
	}
	y := plainTree(files)
	if !plainValidTree(y) {
		return impl.Tree{}, 3
	}
	return y, 0
}

func plainUndo(p impl.Patch) impl.Patch {
	if !plainValidPatch(p) {
		return impl.Patch{}
	}
	back := impl.Patch{}
	for _, c := range p.Changes {
		back.Changes = append(back.Changes, impl.Change{Path: c.Path, Old: c.New, New: c.Old})
	}
	return back
}

func plainJoin(p, q impl.Patch) (impl.Patch, bool) {
	if !plainValidPatch(p) || !plainValidPatch(q) {
		return impl.Patch{}, false
	}
	joined := map[string]impl.Change{}
	for _, c := range p.Changes {
		joined[c.Path] = c
	}
	for _, c := range q.Changes {
		if first, met := joined[c.Path]; met {
			if !plainSameFile(first.New, c.Old) {
				return impl.Patch{}, false
			}
			c.Old = first.Old
		}
		joined[c.Path] = c
		if plainSameFile(c.Old, c.New) {
			delete(joined, c.Path)
		}
	}
	if len(joined) > 200 {
		return impl.Patch{}, false
	}
	return sortedPatch(slices.Collect(maps.Values(joined))), true
}

func samePatch(p, q impl.Patch) bool { return slices.Equal(p.Changes, q.Changes) }

func fileText(f impl.File) string {
	text := "none"
	if f.There {
		text = strconv.Quote(f.Text[:min(len(f.Text), 10)])
	}
	if f.Runs {
		text += "!"
	}
	return text
}

func patchText(p impl.Patch) string {
	text := strconv.Itoa(len(p.Changes)) + " changes:"
	for _, c := range p.Changes[:min(len(p.Changes), 30)] {
		text += " " + strconv.Quote(brief3(c.Path)) + " " + fileText(c.Old) + ">" + fileText(c.New)
	}
	return text
}

// roomyPatch is a patch with changes behind its end, and all of its room, kept.
func roomyPatch(p impl.Patch) (impl.Patch, []impl.Change) {
	room := append(slices.Clone(p.Changes), impl.Change{Path: "behind"}, impl.Change{Path: "behind/it"})
	return impl.Patch{Changes: room[:len(p.Changes)]}, slices.Clone(room[:cap(room)])
}

func patchTexts(p impl.Patch) []string {
	texts := []string{}
	for _, c := range p.Changes {
		texts = append(texts, c.Path, c.Old.Text, c.New.Text)
	}
	return texts
}

// writePatchOver writes over a patch that was answered, with its spare room.
func writePatchOver(p impl.Patch) {
	over := p.Changes[:cap(p.Changes)]
	for i := range over {
		over[i] = impl.Change{Path: "written/over"}
	}
}

func wantStays[T comparable](t *testing.T, what string, room, kept []T) {
	t.Helper()
	if !slices.Equal(room[:cap(room)], kept) {
		t.Errorf("%s: an argument was changed", what)
	}
}

func wantValidPatch(t *testing.T, p impl.Patch, want bool) {
	t.Helper()
	given, kept := roomyPatch(p)
	if got := impl.ValidPatch(given); got != want || plainValidPatch(p) != want {
		t.Errorf("valid %t: %s", got, patchText(p))
	}
	wantStays(t, "valid", given.Changes, kept)
}

func wantDiff(t *testing.T, a, b impl.Tree) impl.Patch {
	t.Helper()
	what := "diff of " + treeText(a) + " and " + treeText(b)
	x, keptX := roomyTree(a)
	y, keptY := roomyTree(b)
	want, got := plainDiff(a, b), impl.Diff(x, y)
	if !samePatch(got, want) || !impl.ValidPatch(got) {
		t.Errorf("%s: %s, want %s", what, patchText(got), patchText(want))
	}
	wantApart(t, what, patchTexts(got), slices.Concat(treeTexts(a), treeTexts(b)))
	writePatchOver(got)
	wantStays(t, what, x.Entries, keptX)
	wantStays(t, what, y.Entries, keptY)
	return want
}

func wantApply(t *testing.T, x impl.Tree, p impl.Patch) int {
	t.Helper()
	given, kept := roomyPatch(p)
	want, code := plainApply(x, p)
	what := "apply to " + treeText(x) + " " + patchText(p)
	wantTree(t, what, want, code, func(trees []impl.Tree) (impl.Tree, int) {
		got, gotCode := impl.Apply(trees[0], given)
		wantApart(t, what, treeTexts(got), patchTexts(p))
		return got, gotCode
	}, x)
	wantStays(t, what, given.Changes, kept)
	return code
}

func wantUndo(t *testing.T, p impl.Patch) impl.Patch {
	t.Helper()
	what := "undo of " + patchText(p)
	given, kept := roomyPatch(p)
	want, got := plainUndo(p), impl.Undo(given)
	if !samePatch(got, want) {
		t.Errorf("%s: %s", what, patchText(got))
	}
	wantApart(t, what, patchTexts(got), patchTexts(p))
	writePatchOver(got)
	wantStays(t, what, given.Changes, kept)
	return want
}

func wantJoin(t *testing.T, p, q impl.Patch) bool {
	t.Helper()
	what := "join of " + patchText(p) + " and " + patchText(q)
	first, keptFirst := roomyPatch(p)
	then, keptThen := roomyPatch(q)
	want, wantOK := plainJoin(p, q)
	got, ok := impl.Join(first, then)
	if ok != wantOK || !samePatch(got, want) || ok && !impl.ValidPatch(got) {
		t.Errorf("%s: %t %s, want %t %s", what, ok, patchText(got), wantOK, patchText(want))
	}
	wantApart(t, what, patchTexts(got), slices.Concat(patchTexts(p), patchTexts(q)))
	writePatchOver(got)
	wantStays(t, what, first.Changes, keptFirst)
	wantStays(t, what, then.Changes, keptThen)
	return wantOK
}

// wantTruth is for cases whose answer is written out: the oracle has it too.
func wantTruth(t *testing.T, got, want bool) {
	t.Helper()
	if got != want {
		t.Errorf("%t, want %t", got, want)
	}
}

func fileOf(text string) impl.File { return impl.File{There: true, Text: text} }

func runOf(text string) impl.File { return impl.File{There: true, Text: text, Runs: true} }

// patchOf reads words as path:old:new, where `-` is no file.
func patchOf(words string) impl.Patch {
	p := impl.Patch{}
	for _, word := range strings.Fields(words) {
		parts := strings.Split(word, ":")
		c := impl.Change{Path: parts[0]}
		if parts[1] != "-" {
			c.Old = fileOf(parts[1])
		}
		if parts[2] != "-" {
			c.New = fileOf(parts[2])
		}
		p.Changes = append(p.Changes, c)
	}
	return p
}

// filled reads words as path:text.
func filled(words string) impl.Tree {
	x := impl.Tree{}
	for _, word := range strings.Fields(words) {
		path, text, _ := strings.Cut(word, ":")
		x.Entries = append(x.Entries, impl.Entry{Path: path, Text: text})
	}
	return x
}

// puts is a patch that puts n new files, with from in front of their names.
func puts(from string, n int) impl.Patch {
	p := impl.Patch{}
	for _, e := range numbered(from, n).Entries {
		p.Changes = append(p.Changes, impl.Change{Path: e.Path, New: fileOf(e.Text)})
	}
	return p
}

// wrongPatches are not valid, each for one reason.
func wrongPatches() []impl.Patch {
	long := strings.Repeat("t", impl.MaxText+1)
	wrong := []impl.Patch{
		patchOf("b:-:x a:-:x"),
		patchOf("a:-:x a:-:x"),
		patchOf("a:-:x a:x:y"),
		patchOf("a:-:x c:-:x b:-:x"),
		patchOf("b/x:-:x b.c:-:x"),
		patchOf("a:-:-"),
		patchOf("a:x:x"),
		patchOf("a:-:x b:y:y c:-:x"),
		puts("f", 2*impl.MaxEntries+1),
		{Changes: []impl.Change{{Path: "a", Old: runOf("x"), New: runOf("x")}}},
	}
	for _, f := range []impl.File{{Text: "x"}, {Runs: true}, {Text: "x", Runs: true}, {Text: long}, fileOf(long), runOf(long)} {
		wrong = append(wrong,
			impl.Patch{Changes: []impl.Change{{Path: "a", Old: f, New: fileOf("y")}}},
			impl.Patch{Changes: []impl.Change{{Path: "a", Old: fileOf("y"), New: f}}},
			impl.Patch{Changes: []impl.Change{{Path: "a", Old: f}}},
			impl.Patch{Changes: []impl.Change{{Path: "a", New: f}}},
			impl.Patch{Changes: []impl.Change{{Path: "0", New: fileOf("")}, {Path: "a", New: f}, {Path: "z", New: fileOf("")}}})
	}
	for _, path := range []string{"", "/", "a/", "/a", "a//b", ".", "..", "a/..", "*", "a?", "**", "a b", "a\"", "\x7f", "é", strings.Repeat("p", 21), "a/a/a/a/a/a/a"} {
		c := impl.Change{Path: path, New: fileOf("x")}
		wrong = append(wrong, impl.Patch{Changes: []impl.Change{c}},
			sortedPatch(append(patchOf("0:-:x z:-:x").Changes, c)))
	}
	return wrong
}

func TestPatchesThatAreValid(t *testing.T) {
	full := strings.Repeat("t", impl.MaxText)
	wantValidPatch(t, impl.Patch{}, true)
	wantValidPatch(t, impl.Patch{Changes: []impl.Change{}}, true)
	for _, words := range []string{
		"a:-:x", "a:x:-", "a:x:y", "a::x", "a:x:", "a:-:", "a::-",
		"a:-:x b:x:- c:x:y",
		"b!:-:x b-/x:-:x b.c:-:x b/x:-:x b0:-:x",
		// A patch is no tree: a path may be a directory of another one.
		"a:x:- a/b:-:x", "a:-:x a/b:x:-", "a:-:x a/b:-:x", "a:x:y a/b:x:y a/b/c:x:y",
		"a/b/c/d/e/f:-:x",
		strings.Repeat("p", impl.MaxPart) + ":-:x",
	} {
		wantValidPatch(t, patchOf(words), true)
	}
	// They differ in Runs, or in There, alone.
	wantValidPatch(t, impl.Patch{Changes: []impl.Change{{Path: "a", Old: fileOf("x"), New: runOf("x")}}}, true)
	wantValidPatch(t, impl.Patch{Changes: []impl.Change{{Path: "a", Old: runOf(""), New: fileOf("")}}}, true)
	wantValidPatch(t, impl.Patch{Changes: []impl.Change{{Path: "a", New: fileOf("")}}}, true)
	wantValidPatch(t, impl.Patch{Changes: []impl.Change{{Path: "a", Old: runOf(full), New: fileOf(full)}}}, true)
	wantValidPatch(t, impl.Patch{Changes: []impl.Change{{Path: "a", Old: fileOf(full[1:]), New: fileOf(full)}}}, true)
	wantValidPatch(t, puts("f", 2*impl.MaxEntries), true)
	wantValidPatch(t, puts("f", 2*impl.MaxEntries+1), false)
}

func TestPatchesThatAreNotValid(t *testing.T) {
	for _, p := range wrongPatches() {
		wantValidPatch(t, p, false)
		wantUndo(t, p)
		wantCode(t, wantApply(t, impl.Tree{}, p), 1)
		wantCode(t, wantApply(t, filled("a:x b:x"), p), 1)
		for _, q := range []impl.Patch{{}, patchOf("0:-:x"), patchOf("a:x:y"), p} {
			wantTruth(t, wantJoin(t, p, q), false)
			wantTruth(t, wantJoin(t, q, p), false)
		}
	}
}

func TestWrongTreesHaveNoPatches(t *testing.T) {
	for _, x := range wrongTrees() {
		for _, y := range []impl.Tree{{}, filled("a:x"), x} {
			if p := wantDiff(t, x, y); len(p.Changes) != 0 {
				t.Error(patchText(p))
			}
			if p := wantDiff(t, y, x); len(p.Changes) != 0 {
				t.Error(patchText(p))
			}
		}
		for _, p := range []impl.Patch{{}, patchOf("a:-:x"), patchOf("a:x:y"), patchOf("a::-")} {
			wantCode(t, wantApply(t, x, p), 1)
		}
		for _, p := range wrongPatches()[:4] {
			wantCode(t, wantApply(t, x, p), 1)
		}
	}
}

func TestDiffs(t *testing.T) {
	for _, c := range []struct{ a, b, want string }{
		{"", "", ""},
		{"a:x", "a:x", ""},
		{"", "a:x", "a:-:x"},
		{"a:x", "", "a:x:-"},
		{"a:x", "a:y", "a:x:y"},
		{"a:x", "b:x", "a:x:- b:-:x"},
		{"b:x", "a:x", "a:-:x b:x:-"},
		{"a:", "", "a::-"},
		{"a:", "a:x", "a::x"},
		{"a:1 b:2 c:3", "a:1 b:x d:4", "b:2:x c:3:- d:-:4"},
		{"b:1 d:2 f:3", "a:1 c:2 e:3 g:4", "a:-:1 b:1:- c:-:2 d:2:- e:-:3 f:3:- g:-:4"},
		{"a:x", "a/b:y a/c:z", "a:x:- a/b:-:y a/c:-:z"},
		{"a/b/c:x", "a:x", "a:-:x a/b/c:x:-"},
		{"b.c:x b/x:y b0:z", "b:1", "b:-:1 b.c:x:- b/x:y:- b0:z:-"},
		{"a/b:x", "a/B:x", "a/B:-:x a/b:x:-"},
	} {
		a, b := filled(c.a), filled(c.b)
		if got := wantDiff(t, a, b); !samePatch(got, patchOf(c.want)) {
			t.Errorf("%s and %s: %s", c.a, c.b, patchText(got))
		}
		wantDiff(t, b, a)
		wantCode(t, wantApply(t, a, patchOf(c.want)), 0)
	}
	// Runs alone is a change, too.
	runs := impl.Tree{Entries: []impl.Entry{{Path: "a", Text: "x", Runs: true}}}
	want := impl.Patch{Changes: []impl.Change{{Path: "a", Old: fileOf("x"), New: runOf("x")}}}
	if got := wantDiff(t, filled("a:x"), runs); !samePatch(got, want) {
		t.Error(patchText(got))
	}
	wantCode(t, wantApply(t, filled("a:x"), want), 0)
	wantCode(t, wantApply(t, runs, want), 2)
}

// The greatest patches that trees have between them.
func TestDiffsOfFullTrees(t *testing.T) {
	full := strings.Repeat("t", impl.MaxText)
	a, b := numbered("a", impl.MaxEntries), numbered("b/f", impl.MaxEntries)
	for i := range a.Entries {
		a.Entries[i].Text, b.Entries[i].Runs = full, true
	}
	p := wantDiff(t, a, b)
	if len(p.Changes) != 2*impl.MaxEntries {
		t.Error(len(p.Changes))
	}
	wantCode(t, wantApply(t, a, p), 0)
	wantCode(t, wantApply(t, b, p), 2)
	wantCode(t, wantApply(t, b, wantUndo(t, p)), 0)
	wantTruth(t, wantJoin(t, p, plainUndo(p)), true)
	wantTruth(t, wantJoin(t, plainUndo(p), p), true)
	wantTruth(t, wantJoin(t, p, p), false)
	more := both(a, filesOf("z"))
	if q := wantDiff(t, more, b); len(q.Changes) != 0 {
		t.Error(patchText(q))
	}
	wantCode(t, wantApply(t, more, p), 1)
	// All files alike but in one byte, at the end.
	c := impl.Tree{Entries: slices.Clone(a.Entries)}
	c.Entries[99].Text = full[1:] + "u"
	if q := wantDiff(t, a, c); len(q.Changes) != 1 {
		t.Error(patchText(q))
	}
}

func TestApplyCodes(t *testing.T) {
	x := filled("a:1 b/x:2 b/y:3 c:4")
	for _, c := range []struct {
		words string
		code  int
	}{
		{"", 0}, {"a:1:2", 0}, {"a:1:-", 0}, {"d:-:1", 0}, {"b/x:2:-", 0}, {"b/z:-:1", 0},
		{"a:1:- b/x:2:- b/y:3:- c:4:-", 0},
		// What was a directory is a file, and the other way about.
		{"b:-:1 b/x:2:- b/y:3:-", 0}, {"a:1:- a/x:-:1 a/y/z:-:2", 0},
		{"0:-:1 zz:-:1", 0},
		// Something else lies there.
		{"a:2:1", 2}, {"a:-:1", 2}, {"a::1", 2}, {"d:1:-", 2}, {"d:1:2", 2}, {"b:1:-", 2}, {"a/x:1:-", 2}, {"b/x:3:-", 2}, {"zz::-", 2}, {"0:1:2", 2},
		{"a:1:2 b/x:2:1 d:1:-", 2}, {"0:1:- a:1:2", 2}, {"a:1:2 b/x:2:- b/y:3:- c:5:-", 2},
		// A file below a file, a file where a directory lies, and both in the patch.
		{"a/x:-:1", 3}, {"c/x/y/z:-:1", 3}, {"b/x/y:-:1", 3}, {"b:-:1", 3}, {"b:-:1 b/x:2:-", 3}, {"b:-:1 b/y:3:1", 3},
		{"d:-:1 d/x:-:2", 3}, {"d:-:1 d.:-:2 d/x/y:-:2", 3}, {"a:1:2 a/x:-:1", 3},
		// Something else lies there, and it would be no tree: in both orders.
		{"a/x:-:1 c:5:1", 2}, {"a:2:1 b:-:1", 2}, {"b:-:1 b/x:3:-", 2}, {"b:1:2 b/z:-:1", 2}, {"d:-:1 d/x:-:2 e:1:2", 2}, {"a:-:1 a/x:-:1", 2},
	} {
		wantCode(t, wantApply(t, x, patchOf(c.words)), c.code)
	}
	wantCode(t, wantApply(t, impl.Tree{}, impl.Patch{}), 0)
	wantCode(t, wantApply(t, impl.Tree{}, patchOf("a:-:x")), 0)
	wantCode(t, wantApply(t, impl.Tree{}, patchOf("a:x:-")), 2)
	wantCode(t, wantApply(t, impl.Tree{}, patchOf("a:-:x a/b:-:x")), 3)
	// Something is not valid, whatever else fits.
	wantCode(t, wantApply(t, filled("b:1 a:2"), patchOf("a:5:1")), 1)
	wantCode(t, wantApply(t, filled("b:1 a:2"), patchOf("a/x:-:1")), 1)
	wantCode(t, wantApply(t, x, patchOf("a/x:-:1 c:4:4")), 1)
	wantCode(t, wantApply(t, x, patchOf("a:2:1 c:4:4")), 1)
	wantCode(t, wantApply(t, x, patchOf("c:4:1 a:2:1")), 1)
	// There, Text and Runs each make something else.
	full := impl.Tree{Entries: []impl.Entry{{Path: "a", Text: "", Runs: true}}}
	wantCode(t, wantApply(t, full, impl.Patch{Changes: []impl.Change{{Path: "a", Old: fileOf("")}}}), 2)
	wantCode(t, wantApply(t, full, impl.Patch{Changes: []impl.Change{{Path: "a", Old: runOf("x")}}}), 2)
	wantCode(t, wantApply(t, full, impl.Patch{Changes: []impl.Change{{Path: "a", New: runOf("x")}}}), 2)
	wantCode(t, wantApply(t, full, impl.Patch{Changes: []impl.Change{{Path: "a", Old: runOf("")}}}), 0)
}

func TestApplyAtTheLimits(t *testing.T) {
	full := strings.Repeat("t", impl.MaxText)
	most, less := numbered("f", impl.MaxEntries), numbered("f", impl.MaxEntries-1)
	wantCode(t, wantApply(t, less, patchOf("a:-:x")), 0)
	wantCode(t, wantApply(t, less, patchOf("a:-:x z:-:x")), 3)
	wantCode(t, wantApply(t, most, patchOf("a:-:x")), 3)
	wantCode(t, wantApply(t, most, patchOf("f1000:0:- z:-:x")), 0)
	wantCode(t, wantApply(t, most, patchOf("a:-:x f1099:99:-")), 0)
	wantCode(t, wantApply(t, most, patchOf("a:-:x f1099:99:- z:-:x")), 3)
	wantCode(t, wantApply(t, most, patchOf("a:-:x f1099:98:-")), 2)
	wantCode(t, wantApply(t, impl.Tree{}, puts("f", impl.MaxEntries)), 0)
	wantCode(t, wantApply(t, impl.Tree{}, puts("f", impl.MaxEntries+1)), 3)
	wantCode(t, wantApply(t, impl.Tree{}, puts("f", 2*impl.MaxEntries)), 3)
	wantCode(t, wantApply(t, impl.Tree{}, puts("f", 2*impl.MaxEntries+1)), 1)
	wantCode(t, wantApply(t, most, puts("g", 2*impl.MaxEntries)), 3)
	wantCode(t, wantApply(t, most, puts("g", 2*impl.MaxEntries+1)), 1)
	wantCode(t, wantApply(t, most, puts("f", 2*impl.MaxEntries)), 2)
	wantCode(t, wantApply(t, impl.Tree{}, impl.Patch{Changes: []impl.Change{{Path: "a", New: fileOf(full)}}}), 0)
	wantCode(t, wantApply(t, impl.Tree{}, impl.Patch{Changes: []impl.Change{{Path: "a", New: fileOf(full + "t")}}}), 1)
	wantCode(t, wantApply(t, impl.Tree{}, impl.Patch{Changes: []impl.Change{{Path: "a", Old: fileOf(full + "t")}}}), 1)
	wantCode(t, wantApply(t, impl.Tree{}, impl.Patch{Changes: []impl.Change{{Path: "a", Old: fileOf(full)}}}), 2)
}

func TestJoins(t *testing.T) {
	for _, c := range []struct{ p, q, want string }{
		{"", "", ""},
		{"a:-:x", "", "a:-:x"},
		{"", "a:-:x", "a:-:x"},
		{"a:x:y", "b:x:y", "a:x:y b:x:y"},
		{"b:x:y", "a:x:y", "a:x:y b:x:y"},
		{"a:-:x", "a:x:y", "a:-:y"},
		{"a:x:y", "a:y:z", "a:x:z"},
		{"a:x:-", "a:-:y", "a:x:y"},
		{"a:x:y", "a:y:-", "a:x:-"},
		// They come together again.
		{"a:-:x", "a:x:-", ""},
		{"a:x:-", "a:-:x", ""},
		{"a:x:y", "a:y:x", ""},
		{"a::x", "a:x:", ""},
		{"a:-:x b:x:y c:x:-", "a:x:- b:y:x c:-:x", ""},
		{"a:x:y b:x:y c:x:y", "b:y:x", "a:x:y c:x:y"},
		{"b:y:x", "a:x:y b:x:y c:x:y", "a:x:y c:x:y"},
		{"a:x:- b:1:2 d:-:x", "a:-:x b:2:3 c:1:2 d:x:-", "b:1:3 c:1:2"},
		// What is not there and what is empty are not the same.
		{"a:-:x", "a:x:", "a:-:"},
		{"a::x", "a:x:-", "a::-"},
		// No tree has them: a patch is no tree.
		{"a:-:x", "a/b:-:y", "a:-:x a/b:-:y"},
		{"b/x:-:1 b0:-:2", "b.c:-:3 b/x:1:- b/y:-:4", "b.c:-:3 b/y:-:4 b0:-:2"},
	} {
		p, q := patchOf(c.p), patchOf(c.q)
		wantTruth(t, wantJoin(t, p, q), true)
		if want, _ := plainJoin(p, q); !samePatch(want, patchOf(c.want)) {
			t.Errorf("%s and %s: %s", c.p, c.q, patchText(want))
		}
	}
	for _, c := range []struct{ p, q string }{
		{"a:-:x", "a:-:x"}, {"a:-:x", "a:y:x"}, {"a:-:x", "a:y:-"}, {"a:-:x", "a::y"}, {"a:-:", "a:-:x"},
		{"a:x:-", "a:x:-"}, {"a:x:-", "a:x:y"}, {"a:x:-", "a::x"}, {"a:x:y", "a:x:y"}, {"a:x:y", "a:x:z"}, {"a:x:y", "a:-:x"},
		{"a:x:y b:x:y c:x:y", "c:x:y"}, {"c:x:y", "a:x:y b:x:y c:z:x"}, {"a:x:y b:x:y", "a:y:x b:z:x"},
		{"a:-:x b:-:y", "a:y:- b:x:-"},
	} {
		wantTruth(t, wantJoin(t, patchOf(c.p), patchOf(c.q)), false)
	}
	runs := impl.Patch{Changes: []impl.Change{{Path: "a", Old: fileOf("x"), New: runOf("x")}}}
	wantTruth(t, wantJoin(t, runs, plainUndo(runs)), true)
	wantTruth(t, wantJoin(t, runs, patchOf("a:x:y")), false)
	wantTruth(t, wantJoin(t, patchOf("a:y:x"), runs), true)
}

func TestJoinsAtTheLimits(t *testing.T) {
	most := puts("f", 2*impl.MaxEntries)
	half, other := puts("f", impl.MaxEntries), puts("g", impl.MaxEntries)
	away := plainUndo(most)
	wantTruth(t, wantJoin(t, half, other), true)
	wantTruth(t, wantJoin(t, other, half), true)
	wantTruth(t, wantJoin(t, half, puts("g", impl.MaxEntries+1)), false)
	wantTruth(t, wantJoin(t, puts("g", impl.MaxEntries+1), half), false)
	wantTruth(t, wantJoin(t, most, impl.Patch{}), true)
	wantTruth(t, wantJoin(t, impl.Patch{}, most), true)
	for _, path := range []string{"a", "f1000x", "z"} {
		wantTruth(t, wantJoin(t, most, patchOf(path+":-:x")), false)
		wantTruth(t, wantJoin(t, patchOf(path+":-:x"), most), false)
		// One that is left out makes room for it.
		q := sortedPatch(append(patchOf(path+":-:x").Changes, away.Changes[7]))
		wantTruth(t, wantJoin(t, most, q), true)
		q.Changes = append(q.Changes, patchOf("zz:-:x").Changes...)
		wantTruth(t, wantJoin(t, most, q), false)
	}
	// Paths of both are one each, and all of them may be left out.
	wantTruth(t, wantJoin(t, most, away), true)
	again := impl.Patch{}
	for _, c := range away.Changes {
		again.Changes = append(again.Changes, impl.Change{Path: c.Path, Old: c.Old, New: runOf("other")})
	}
	wantTruth(t, wantJoin(t, most, again), true)
	again.Changes[199].Old.Runs = true
	wantTruth(t, wantJoin(t, most, again), false)
	wantTruth(t, wantJoin(t, most, puts("g", 2*impl.MaxEntries)), false)
	wantTruth(t, wantJoin(t, puts("f", 2*impl.MaxEntries+1), away), false)
	wantTruth(t, wantJoin(t, away, puts("f", 2*impl.MaxEntries+1)), false)
}

// wantWayAndBack is promise 7 of two trees.
func wantWayAndBack(t *testing.T, a, b impl.Tree) {
	t.Helper()
	p := impl.Diff(a, b)
	there, code := impl.Apply(a, p)
	if code != 0 || !sameTree(there, b) {
		t.Errorf("from %s by %s: code %d, %s, want %s", treeText(a), patchText(p), code, treeText(there), treeText(b))
	}
	back, code := impl.Apply(b, impl.Undo(p))
	if code != 0 || !sameTree(back, a) {
		t.Errorf("from %s by undo of %s: code %d, %s, want %s", treeText(b), patchText(p), code, treeText(back), treeText(a))
	}
	if !samePatch(impl.Undo(p), impl.Diff(b, a)) || !samePatch(impl.Undo(impl.Undo(p)), p) {
		t.Errorf("undo of %s", patchText(p))
	}
	if q := impl.Diff(a, a); len(q.Changes) != 0 {
		t.Errorf("%s and itself: %s", treeText(a), patchText(q))
	}
	if !impl.ValidPatch(p) || (len(p.Changes) == 0) != sameTree(a, b) {
		t.Errorf("%s and %s: %s", treeText(a), treeText(b), patchText(p))
	}
}

// wantOneWay is promise 8 of three trees; it says how many changes were left
// out.
func wantOneWay(t *testing.T, a, b, c impl.Tree) int {
	t.Helper()
	p, q := impl.Diff(a, b), impl.Diff(b, c)
	joined, ok := impl.Join(p, q)
	if want := plainDiff(a, c); !ok || !samePatch(joined, want) || !samePatch(impl.Diff(a, c), want) {
		t.Errorf("%s and %s: %t %s, want %s", patchText(p), patchText(q), ok, patchText(joined), patchText(want))
	}
	got, code := impl.Apply(a, joined)
	between, codeBetween := impl.Apply(a, p)
	want, codeWant := impl.Apply(between, q)
	if code != 0 || codeBetween != 0 || codeWant != 0 || !sameTree(got, want) || !sameTree(got, c) {
		t.Errorf("from %s by %s and %s: codes %d, %d, %d", treeText(a), patchText(p), patchText(q), code, codeBetween, codeWant)
	}
	out := 0
	for _, d := range p.Changes {
		missing := !slices.ContainsFunc(joined.Changes, func(e impl.Change) bool { return d.Path == e.Path })
		if missing {
			out++
		}
	}
	return out
}

// otherTree is near a tree: some of its files are the same in both.
func otherTree(source *rand.Rand, x impl.Tree) impl.Tree {
	y := impl.Tree{Entries: slices.Clone(x.Entries)}
	for range source.Intn(8) {
		next, code := y, 0
		switch source.Intn(4) {
		case 0:
			next, code = plainRemove(y, anyPath(source, y))
		case 1:
			next, code = plainPut(y, impl.Entry{Path: anyPath(source, y), Runs: source.Intn(2) == 0})
		case 2:
			next, code = plainOverlay(y, impl.Tree{Entries: []impl.Entry{{Path: anyPath(source, x)}}})
		case 3:
			next, code = plainPut(y, randomEntry(source))
		}
		if code == 0 {
			y = next
		}
	}
	return y
}

// Promise 7.
func TestDiffsLeadThereAndBack(t *testing.T) {
	paths := []string{"a", "a!", "a/a", "a/a/a", "a/b", "b"}
	trees := slices.Concat(subtrees(paths, ""), subtrees(paths, "other "))
	for _, a := range trees {
		for _, b := range trees {
			wantDiff(t, a, b)
			wantWayAndBack(t, a, b)
		}
	}
	source := rand.New(rand.NewSource(61))
	for i := range 3000 {
		n := 12
		if i%30 == 0 {
			n = 200
		}
		a := randomTree(source, source.Intn(n))
		wantWayAndBack(t, a, otherTree(source, a))
		wantWayAndBack(t, a, randomTree(source, source.Intn(n)))
		wantDiff(t, a, otherTree(source, a))
	}
	full := strings.Repeat("t", impl.MaxText)
	most := impl.Tree{Entries: numbered("d/f", impl.MaxEntries).Entries}
	for i := range most.Entries {
		most.Entries[i].Text = full
	}
	for _, b := range []impl.Tree{{}, filesOf("d"), most, numbered("d/f", impl.MaxEntries), numbered("d/f1000/x", impl.MaxEntries), numbered("e", impl.MaxEntries)} {
		wantWayAndBack(t, most, b)
		wantWayAndBack(t, b, most)
	}
}

// Promise 8.
func TestJoinsAreOneWay(t *testing.T) {
	paths := []string{"a", "a/a", "a/b", "b"}
	trees := slices.Concat(subtrees(paths, ""), subtrees(paths, "other "))
	out := 0
	for _, a := range trees {
		for _, b := range trees {
			for _, c := range trees {
				out += wantOneWay(t, a, b, c)
			}
		}
	}
	if out < 1000 {
		t.Error(out)
	}
	source := rand.New(rand.NewSource(62))
	out = 0
	for i := range 3000 {
		n := 12
		if i%30 == 0 {
			n = 200
		}
		a := randomTree(source, source.Intn(n))
		b := otherTree(source, a)
		out += wantOneWay(t, a, b, otherTree(source, a))
		out += wantOneWay(t, a, b, otherTree(source, b))
		out += wantOneWay(t, a, b, a)
		out += wantOneWay(t, a, randomTree(source, source.Intn(n)), b)
	}
	if out < 1000 {
		t.Error(out)
	}
	x, y, z := numbered("x", impl.MaxEntries), numbered("y", impl.MaxEntries), numbered("z", impl.MaxEntries)
	wantOneWay(t, x, y, z)
	if out := wantOneWay(t, x, y, x); out != 2*impl.MaxEntries {
		t.Error(out)
	}
}

// everyPatch is all valid patches of the paths, with these files.
func everyPatch(paths []string, files []impl.File) []impl.Patch {
	if len(paths) == 0 {
		return []impl.Patch{{}}
	}
	patches := []impl.Patch{}
	for _, rest := range everyPatch(paths[1:], files) {
		patches = append(patches, rest)
		for _, old := range files {
			for _, then := range files {
				if !plainSameFile(old, then) {
					c := impl.Change{Path: paths[0], Old: old, New: then}
					patches = append(patches, impl.Patch{Changes: slices.Concat([]impl.Change{c}, rest.Changes)})
				}
			}
		}
	}
	return patches
}

func TestEverySmallPatch(t *testing.T) {
	files := []impl.File{{}, fileOf(""), runOf("")}
	patches := everyPatch([]string{"a", "a/a"}, files)
	joined := 0
	for _, p := range patches {
		wantValidPatch(t, p, true)
		wantUndo(t, p)
		for _, q := range patches {
			if wantJoin(t, p, q) {
				joined++
			}
		}
	}
	if len(patches) != 49 || joined < 500 {
		t.Error(len(patches), joined)
	}
	codes := map[int]int{}
	paths := []string{"a", "a!", "a/a", "b"}
	for _, p := range everyPatch(paths[:3], files) {
		for _, x := range []impl.Tree{{}, filesOf("a"), filesOf("a", "b"), filesOf("a!", "a/a"), filesOf("a/a"), filesOf("a/a/a"), filesOf("a!", "a/b", "b"), filesOf("a", "a!")} {
			codes[wantApply(t, x, p)]++
		}
	}
	if codes[0] < 100 || codes[2] < 100 || codes[3] < 20 || codes[1] != 0 {
		t.Error(codes)
	}
}

// spoiledPatch has one thing changed that may or may not make it wrong.
func spoiledPatch(source *rand.Rand, p impl.Patch) impl.Patch {
	changes := slices.Clone(p.Changes)
	if len(changes) == 0 {
		return impl.Patch{Changes: []impl.Change{{Path: randomText(source), New: fileOf("x")}}}
	}
	i, j := source.Intn(len(changes)), source.Intn(len(changes))
	c := &changes[i]
	file := &c.Old
	if source.Intn(2) == 0 {
		file = &c.New
	}
	switch source.Intn(9) {
	case 0:
		changes[i], changes[j] = changes[j], changes[i]
	case 1:
		c.Path = changes[j].Path
	case 2:
		c.Path += []string{"/", "/x", "//", "/../x", "*", "\"", "!"}[source.Intn(7)]
	case 3:
		file.There = !file.There
	case 4:
		file.Runs = !file.Runs
	case 5:
		file.Text = strings.Repeat("t", 1499+source.Intn(3))
	case 6:
		c.Old = c.New
	case 7:
		changes = slices.Delete(changes, i, i+1)
	case 8:
		changes = sortedPatch(append(changes, impl.Change{Path: randomPath(source), New: fileOf("new")})).Changes
	}
	return impl.Patch{Changes: changes}
}

func TestSpoiledPatches(t *testing.T) {
	source := rand.New(rand.NewSource(63))
	codes, valid, joined := map[int]int{}, 0, 0
	for i := range 6000 {
		a := randomTree(source, source.Intn(12))
		b := otherTree(source, a)
		p, q := spoiledPatch(source, plainDiff(a, b)), plainDiff(b, otherTree(source, b))
		wantValidPatch(t, p, plainValidPatch(p))
		wantUndo(t, p)
		codes[wantApply(t, a, p)]++
		codes[wantApply(t, otherTree(source, a), plainDiff(a, b))]++
		wantApply(t, spoiledTree(source, a), plainDiff(a, b))
		if plainValidPatch(p) {
			valid++
		}
		if wantJoin(t, p, q) {
			joined++
		}
		wantJoin(t, q, p)
		wantJoin(t, plainDiff(a, b), spoiledPatch(source, q))
		if i%10 == 0 {
			wantDiff(t, spoiledTree(source, a), b)
			wantDiff(t, a, spoiledTree(source, b))
		}
	}
	if valid < 1000 || valid > 5000 || joined < 500 || joined > 5500 {
		t.Error(valid, joined)
	}
	for code, least := range []int{1000, 1000, 1000, 20} {
		if codes[code] < least {
			t.Errorf("code %d: %d times", code, codes[code])
		}
	}
}

func TestPatchesFromOneShareNothing(t *testing.T) {
	p := patchOf("a:1:2 b:1:-")
	want := patchOf("a:1:2 b:1:-")
	first, ok := impl.Join(p, impl.Patch{})
	second, okToo := impl.Join(impl.Patch{}, p)
	undone := impl.Undo(p)
	if !ok || !okToo {
		t.Fatal(ok, okToo)
	}
	first.Changes = append(first.Changes, patchOf("c:-:1").Changes...)
	second.Changes = append(second.Changes, patchOf("d:-:1").Changes...)
	if !samePatch(first, patchOf("a:1:2 b:1:- c:-:1")) || !samePatch(second, patchOf("a:1:2 b:1:- d:-:1")) {
		t.Error(patchText(first), patchText(second))
	}
	for _, got := range []impl.Patch{first, second, undone} {
		writePatchOver(got)
	}
	if !samePatch(p, want) {
		t.Error(patchText(p))
	}
}

func TestGreatPatchesAreRefusedSoon(t *testing.T) {
	great := impl.Patch{Changes: make([]impl.Change, 1<<20)}
	trees := impl.Tree{Entries: make([]impl.Entry, 1<<20)}
	long := impl.Patch{Changes: []impl.Change{{Path: strings.Repeat("a/", 1<<21), New: fileOf("x")}}}
	text := impl.Patch{Changes: []impl.Change{{Path: "a", Old: fileOf(strings.Repeat("a", 1<<22)), New: runOf(strings.Repeat("a", 1<<22))}}}
	endsSoon(t, "a great patch", func() {
		for _, p := range []impl.Patch{great, long, text} {
			for range 100 {
				if _, code := impl.Apply(impl.Tree{}, p); code != 1 {
					t.Error(code)
				}
				if q, ok := impl.Join(p, p); ok || len(q.Changes) != 0 {
					t.Error(ok)
				}
				if q := impl.Undo(p); impl.ValidPatch(p) || len(q.Changes) != 0 {
					t.Error("valid")
				}
			}
		}
		for range 100 {
			if p := impl.Diff(trees, trees); len(p.Changes) != 0 {
				t.Error(len(p.Changes))
			}
		}
	})
}
