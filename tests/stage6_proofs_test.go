package tests

import (
	"math/rand"
	"regexp"
	"slices"
	"strconv"
	"strings"
	"testing"

	"loop.example/kilntree/impl"
)

func plainProve(x impl.Tree, path string, width int) impl.Proof {
	if !plainValidTree(x) || !plainPath(path) || width < 1 || width > 8 {
		return impl.Proof{}
	}
	p := impl.Proof{Dirs: []string{plainDirText(x, "", width)}}
	parts := strings.Split(path, "/")
	for i := range parts[1:] {
		if text := plainDirText(x, strings.Join(parts[:i+1], "/"), width); text != "" {
			p.Dirs = append(p.Dirs, text)
		}
	}
	e, there := plainGet(x, path)
	p.There, p.Text = there, e.Text
	return p
}

// lineForms are the forms of a line of a directory's text, by its width.
var lineForms = func() [9]*regexp.Regexp {
	forms := [9]*regexp.Regexp{}
	for width := range forms {
		forms[width] = regexp.MustCompile("^([dfx]) ([^ \n]*) ([0-9a-f]{" + strconv.Itoa(2*width) + "})\n")
	}
	return forms
}()

// plainDirLines are mark, name and digits of each line of a directory's text.
func plainDirLines(text string, width int) ([][]string, bool) {
	form := lineForms[width]
	lines := [][]string{}
	for from := 0; from < len(text); {
		m := form.FindStringSubmatch(text[from:])
		if m == nil || strings.Contains(m[2], "/") || !plainPath(m[2]) || len(lines) > 0 && m[2] <= lines[len(lines)-1][1] {
			return nil, false
		}
		lines = append(lines, m[1:])
		from += len(m[0])
	}
	return lines, true
}

func plainProofForm(path string, p impl.Proof, width int) bool {
	if !plainPath(path) || width < 1 || width > 8 || len(p.Dirs) < 1 || len(p.Dirs) > 7 {
		return false
	}
	for _, text := range p.Dirs {
		if _, ok := plainDirLines(text, width); !ok || len(text) > 8000 {
			return false
		}
	}
	return p.There && len(p.Text) <= 1500 || p.Text == ""
}

// plainLine is the mark and the digits of a name in a directory's text.
func plainLine(text, name string, width int) (string, string) {
	lines, _ := plainDirLines(text, width)
	for _, line := range lines {
		if line[1] == name {
			return line[0], line[2]
		}
	}
	return "", ""
}

// plainHolds follows the first of the directories along the parts; runs says
// whether the file does.
func plainHolds(parts []string, p impl.Proof, width int) (runs, holds bool) {
	mark, digits := plainLine(p.Dirs[0], parts[0], width)
	if mark == "d" && len(parts) > 1 {
		if len(p.Dirs) < 2 || plainDigits(p.Dirs[1], width) != digits {
			return false, false
		}
		p.Dirs = p.Dirs[1:]
		return plainHolds(parts[1:], p, width)
	}
	if len(p.Dirs) > 1 {
		return false, false
	}
	if len(parts) == 1 && (mark == "f" || mark == "x") {
		return mark == "x", p.There && plainDigits("file "+p.Text, width) == digits
	}
	return false, !p.There
}

func plainShow(sum, path string, p impl.Proof, width int) impl.Shown {
	if !plainProofForm(path, p, width) {
		return impl.Shown{Code: 1}
	}
	runs, holds := plainHolds(strings.Split(path, "/"), p, width)
	if !holds || plainSum(p.Dirs[0], width) != sum {
		return impl.Shown{Code: 2}
	}
	if !p.There {
		return impl.Shown{}
	}
	return impl.Shown{There: true, Entry: impl.Entry{Path: path, Text: p.Text, Runs: runs}}
}

// proofTexts are all texts of a proof of which there are sums.
func proofTexts(p impl.Proof) []string {
	texts := slices.Clone(p.Dirs)
	if p.There {
		texts = append(texts, "file "+p.Text)
	}
	return texts
}

func plainEvidence(p, q impl.Proof, width int) (string, string, bool) {
	if len(p.Dirs) > 7 || len(q.Dirs) > 7 || width < 1 || width > 8 {
		return "", "", false
	}
	return plainClash(append(proofTexts(p), proofTexts(q)...), width)
}

func sameProof(p, q impl.Proof) bool {
	return slices.Equal(p.Dirs, q.Dirs) && p.There == q.There && p.Text == q.Text
}

func proofText(p impl.Proof) string {
	text := strconv.Itoa(len(p.Dirs)) + " dirs:"
	for _, dir := range p.Dirs[:min(len(p.Dirs), 9)] {
		text += " " + strconv.Quote(dir[:min(len(dir), 100)])
	}
	return text + ", " + strconv.FormatBool(p.There) + " " + strconv.Quote(brief3(p.Text))
}

func shownText(s impl.Shown) string {
	return "code " + strconv.Itoa(s.Code) + ", " + strconv.FormatBool(s.There) + " " + treeText(impl.Tree{Entries: []impl.Entry{s.Entry}})
}

// roomyProof is a proof with texts behind the end of its Dirs, and all of
// their room, kept.
func roomyProof(p impl.Proof) (impl.Proof, []string) {
	room, kept := roomyTexts(p.Dirs)
	return impl.Proof{Dirs: room, There: p.There, Text: p.Text}, kept
}

func wantProve(t *testing.T, x impl.Tree, path string, width int) impl.Proof {
	t.Helper()
	what := "proof of " + strconv.Quote(brief3(path)) + " of width " + strconv.Itoa(width) + " in " + treeText(x)
	given, kept := roomyTree(x)
	want, got := plainProve(x, path, width), impl.Prove(given, path, width)
	if !sameProof(got, want) {
		t.Errorf("%s: %s, want %s", what, proofText(got), proofText(want))
	}
	wantApart(t, what, append(slices.Clone(got.Dirs), got.Text), append(treeTexts(x), path))
	for i, text := range got.Dirs {
		wantApart(t, what, got.Dirs[:i], []string{text, got.Text})
	}
	over := got.Dirs[:cap(got.Dirs)]
	for i := range over {
		over[i] = "written over"
	}
	wantStays(t, what, given.Entries, kept)
	return want
}

func wantShow(t *testing.T, sum, path string, p impl.Proof, width int) impl.Shown {
	t.Helper()
	what := "shown of " + strconv.Quote(brief3(path)) + " of width " + strconv.Itoa(width) + " by " + proofText(p)
	given, kept := roomyProof(p)
	want, got := plainShow(sum, path, p, width), impl.Show(sum, path, given, width)
	if got != want {
		t.Errorf("%s: %s, want %s", what, shownText(got), shownText(want))
	}
	wantApart(t, what, []string{got.Entry.Path, got.Entry.Text}, append(proofTexts(p), p.Text, path, sum))
	wantStays(t, what, given.Dirs, kept)
	return want
}

// wantShown is for cases whose answer is written out.
func wantShown(t *testing.T, sum, path string, p impl.Proof, width int, want impl.Shown) {
	t.Helper()
	if got := wantShow(t, sum, path, p, width); got != want {
		t.Errorf("%q, width %d, %s: the oracle says %s, want %s", brief3(path), width, proofText(p), shownText(got), shownText(want))
	}
}

// wantShownCode asks with the sum of the first of the Dirs.
func wantShownCode(t *testing.T, path string, p impl.Proof, width, code int) {
	t.Helper()
	sum := ""
	if len(p.Dirs) > 0 {
		sum = impl.Sum(p.Dirs[0], width)
	}
	if got := wantShow(t, sum, path, p, width); got.Code != code {
		t.Errorf("%q, width %d, %s: the oracle says %s, want code %d", brief3(path), width, proofText(p), shownText(got), code)
	}
}

func wantEvidence(t *testing.T, p, q impl.Proof, width int) bool {
	t.Helper()
	what := "evidence of width " + strconv.Itoa(width) + " of " + proofText(p) + " and " + proofText(q)
	first, keptFirst := roomyProof(p)
	then, keptThen := roomyProof(q)
	x, y, ok := plainEvidence(p, q, width)
	gotX, gotY, got := impl.Evidence(first, then, width)
	if gotX != x || gotY != y || got != ok {
		t.Errorf("%s: %q %q %t, want %q %q %t", what, gotX, gotY, got, x, y, ok)
	}
	wantApart(t, what, []string{gotX, gotY}, slices.Concat(p.Dirs, q.Dirs, []string{p.Text, q.Text}))
	wantStays(t, what, first.Dirs, keptFirst)
	wantStays(t, what, then.Dirs, keptThen)
	return ok
}

// wantTwoTexts is for cases whose answer is written out.
func wantTwoTexts(t *testing.T, p, q impl.Proof, width int, x, y string, ok bool) {
	t.Helper()
	wantEvidence(t, p, q, width)
	if gotX, gotY, got := plainEvidence(p, q, width); gotX != x || gotY != y || got != ok {
		t.Errorf("width %d, %s and %s: the oracle says %q %q %t, want %q %q %t", width, proofText(p), proofText(q), gotX, gotY, got, x, y, ok)
	}
}

func proofOf(dirs ...string) impl.Proof { return impl.Proof{Dirs: dirs} }

func proofOfFile(text string, dirs ...string) impl.Proof {
	return impl.Proof{Dirs: dirs, There: true, Text: text}
}

func notThere() impl.Shown { return impl.Shown{} }

func shownFile(path, text string, runs bool) impl.Shown {
	return impl.Shown{There: true, Entry: impl.Entry{Path: path, Text: text, Runs: runs}}
}

func TestProofLimits(t *testing.T) {
	if impl.MaxDirs != 7 || impl.MaxDir != 8000 {
		t.Error(impl.MaxDirs, impl.MaxDir)
	}
}

func TestProofsThatAreWrittenOut(t *testing.T) {
	whole := "d a 1e29\nx a! 2e9c\nf a-b 2319\nf a.c 434d\nx a0 2319\nf b 03bd\n"
	inA, inB := "d b ca24\nf x d94c\n", "f c 85d3\nx d 85d3\n"
	for _, c := range []struct {
		path  string
		proof impl.Proof
		shown impl.Shown
	}{
		// A file, in each directory, and one that runs.
		{"b", proofOfFile("last", whole), shownFile("b", "last", false)},
		{"a-b", proofOfFile("", whole), shownFile("a-b", "", false)},
		{"a!", proofOfFile("up", whole), shownFile("a!", "up", true)},
		{"a0", proofOfFile("", whole), shownFile("a0", "", true)},
		{"a/x", proofOfFile("\x00\xff", whole, inA), shownFile("a/x", "\x00\xff", false)},
		{"a/b/c", proofOfFile("deep\n", whole, inA, inB), shownFile("a/b/c", "deep\n", false)},
		{"a/b/d", proofOfFile("deep\n", whole, inA, inB), shownFile("a/b/d", "deep\n", true)},
		// Nothing.
		{"c", proofOf(whole), notThere()}, {"A", proofOf(whole), notThere()}, {"a/c", proofOf(whole, inA), notThere()}, {"a/b/e", proofOf(whole, inA, inB), notThere()},
		{"c/b/c", proofOf(whole), notThere()}, {"a/c/c", proofOf(whole, inA), notThere()}, {"a/b/e/f/g/h", proofOf(whole, inA, inB), notThere()},
		// A part on the way is a file.
		{"b/in", proofOf(whole), notThere()}, {"a!/in/it", proofOf(whole), notThere()}, {"a/x/b", proofOf(whole, inA), notThere()}, {"a/b/d/in", proofOf(whole, inA, inB), notThere()}, {"a/b/c/in/it", proofOf(whole, inA, inB), notThere()},
		// The last part is a directory.
		{"a", proofOf(whole), notThere()}, {"a/b", proofOf(whole, inA), notThere()},
	} {
		if got := wantProve(t, street(), c.path, 2); !sameProof(got, c.proof) {
			t.Errorf("%s: the oracle says %s, want %s", c.path, proofText(got), proofText(c.proof))
		}
		wantShown(t, "\x1c\x39", c.path, c.proof, 2, c.shown)
		wantShown(t, "\x1c\x38", c.path, c.proof, 2, impl.Shown{Code: 2})
	}
	wantTruth(t, sameProof(wantProve(t, impl.Tree{}, "a/b", 8), proofOf("")), true)
	wantShown(t, "\xcb\xf2\x9c\xe4\x84\x22\x23\x25", "a/b", proofOf(""), 8, notThere())
}

func TestProofsOfWhatIsNotValid(t *testing.T) {
	nothing := impl.Proof{}
	for _, wrong := range wrongTrees() {
		for _, path := range []string{"a", "b", "c", "a/b", "z/z", "..", ""} {
			wantTruth(t, sameProof(wantProve(t, wrong, path, 8), nothing), true)
		}
	}
	for _, path := range []string{"", "/", "a/", "/a", "a//b", ".", "..", "a/..", "a/./b", "*", "a?", "**", "a b", "b\"", "\x7f", "é", strings.Repeat("p", 21), "a/a/a/a/a/a/a"} {
		for _, x := range []impl.Tree{{}, street(), deep()} {
			wantTruth(t, sameProof(wantProve(t, x, path, 8), nothing), true)
		}
		wantShownCode(t, path, proofOf(""), 8, 1)
		wantShownCode(t, path, proofOf(impl.DirText(street(), "", 8)), 8, 1)
		wantShownCode(t, path, proofOf("d a "+plainDigits("", 8)+"\n", ""), 8, 1)
	}
	for _, width := range noWidths() {
		for _, path := range []string{"a", "b", "a/b/c", "gone", "..", ""} {
			wantTruth(t, sameProof(wantProve(t, street(), path, width), nothing), true)
			wantShownCode(t, path, proofOf(""), width, 1)
			wantShownCode(t, path, wantProve(t, street(), path, 8), width, 1)
			wantShownCode(t, path, proofOf("d a \n", "f b \n"), width, 1)
			wantShown(t, "", path, proofOfFile("", "f a \n"), width, impl.Shown{Code: 1})
		}
	}
	wantTruth(t, len(wantProve(t, street(), strings.Repeat("p", impl.MaxPart), 8).Dirs) == 1, true)
	wantShownCode(t, strings.Repeat("p", impl.MaxPart), proofOf(""), 8, 0)
	wantShownCode(t, "a/a/a/a/a/a", proofOf(""), 8, 0)
}

// wantProofs is promise 13 of a valid tree and a path.
func wantProofs(t *testing.T, x impl.Tree, path string, width int) {
	t.Helper()
	e, there := impl.Get(x, path)
	want := impl.Shown{There: there, Entry: e}
	if got := impl.Show(impl.TreeSum(x, width), path, impl.Prove(x, path, width), width); got != want {
		t.Errorf("%q, width %d, of %s: %s, want %s", path, width, treeText(x), shownText(got), shownText(want))
	}
}

// Promise 13.
func TestProofsTellWhatGetTells(t *testing.T) {
	paths := []string{"a", "a!", "a/a", "a/a.", "a/a/a", "a/b", "b"}
	asked := append([]string{"a/c", "b/a", "a/b/a", "c", "A", "a/a/a/a/a", "a/a/a/a/a/a", "a!/a"}, paths...)
	for _, x := range slices.Concat(subtrees(paths, ""), subtrees(paths, "other ")) {
		for _, path := range asked {
			for _, width := range []int{1, 2, 8} {
				wantProofs(t, x, path, width)
				wantProve(t, x, path, width)
				wantShow(t, impl.TreeSum(x, width), path, impl.Prove(x, path, width), width)
			}
		}
	}
	for _, e := range deep().Entries[97:] {
		for path := e.Path; path != ""; path = path[:max(strings.LastIndexByte(path, '/'), 0)] {
			wantProofs(t, deep(), path, 8)
			wantProve(t, deep(), path, 8)
			wantProofs(t, deep(), path[:len(path)-1]+"!", 8)
		}
	}
	full := strings.Repeat("t", impl.MaxText)
	wantProofs(t, impl.Tree{Entries: []impl.Entry{{Path: "a/b", Text: full, Runs: true}, {Path: "b", Text: full}}}, "a/b", 8)
	source := rand.New(rand.NewSource(93))
	there := 0
	for i := range 3000 {
		n := 12
		if i%40 == 0 {
			n = 150
		}
		x := randomTree(source, source.Intn(n))
		path, width := anyPath(source, x), 1+source.Intn(8)
		wantProofs(t, x, path, width)
		if plainPath(path + "/in") {
			wantProofs(t, x, path+"/in", width)
		}
		if p := wantProve(t, x, path, width); p.There {
			there++
		}
		wantProve(t, spoiledTree(source, x), path, width)
	}
	if there < 500 || there > 2500 {
		t.Error(there)
	}
}

// wantText1 says whether a text is one that a directory can have, first as
// that of the whole tree, and then as that of a directory in it.
func wantText1(t *testing.T, text string, width int, can bool) {
	t.Helper()
	code := 1
	if can {
		code = 0
	}
	wantShownCode(t, "~none~", proofOf(text), width, code)
	wantShownCode(t, "d/~none~", proofOf("d d "+plainDigits(text, width)+"\n", text), width, code)
	// It does not hold either, but this is looked for behind it.
	if !can {
		wantShown(t, "no sum", "~none~", proofOf(text), width, impl.Shown{Code: 1})
		wantShown(t, "no sum", "~none~", proofOf("", "", text), width, impl.Shown{Code: 1})
	}
}

func TestTextsThatADirectoryCanHave(t *testing.T) {
	for _, text := range []string{
		"", "f a 00\n", "d a 00\n", "x a 00\n", "f a 09\n", "f a af\n", "f a f0\n", "f a 0a\n", "f ... 00\n", "f .a 00\n", "f a. 00\n", "f ! 00\n", "f ~ 00\n",
		"f a 00\nf b 00\n", "x a 00\nd b 11\nf c 11\n", "f a 00\nf ab 00\nf b 00\n", "d a 00\nf a! 00\nf a0 00\n", "f A 00\nf a 00\n", "f 1 00\nf 10 00\nf 9 00\n",
		"f " + strings.Repeat("p", impl.MaxPart) + " 00\n", "d d 00\nf f 00\nx x 00\n", "f f 00\n",
	} {
		wantText1(t, text, 1, true)
		wantText1(t, text, 2, text == "")
		wantText1(t, text, 8, text == "")
		if text != "" {
			wantText1(t, strings.TrimSuffix(text, "\n"), 1, false)
			wantText1(t, text+"\n", 1, false)
			wantText1(t, "\n"+text, 1, false)
			wantText1(t, " "+text, 1, false)
			wantText1(t, strings.ReplaceAll(text, "\n", "\r\n"), 1, false)
			wantText1(t, strings.ReplaceAll(text, "\n", " \n"), 1, false)
			wantText1(t, strings.ReplaceAll(text, " ", "  "), 1, false)
			wantText1(t, strings.ReplaceAll(text, " ", "\t"), 1, false)
			wantText1(t, strings.ReplaceAll(text, " ", ""), 1, false)
			wantText1(t, text+text, 1, false)
		}
	}
}

func TestLinesThatAreCutOff(t *testing.T) {
	text := "d a 00\nf bcd 1f\nx e ff\n"
	for i := range len(text) + 1 {
		wantText1(t, text[:i], 1, i == 0 || text[i-1] == '\n')
		wantText1(t, text[i:], 1, i == len(text) || i == 0 || text[i-1] == '\n')
	}
}

func TestLettersOfLines(t *testing.T) {
	for b := range 256 {
		letter := string([]byte{byte(b)})
		wantText1(t, letter+" a 00\n", 1, strings.Contains("dfx", letter))
		wantText1(t, "f a 00\n"+letter+" b 00\n", 1, strings.Contains("dfx", letter))
		wantText1(t, "f"+letter+" a 00\n", 1, false)
		wantText1(t, letter+"d a 00\n", 1, false)
		wantText1(t, "f"+letter+"a 00\n", 1, letter == " ")
		wantText1(t, "f a"+letter+"00\n", 1, letter == " ")
		wantText1(t, "f a 00"+letter, 1, letter == "\n")
	}
	for _, text := range []string{" a 00\n", "a 00\n", "dfx a 00\n", "df a 00\n", "D a 00\n", "F a 00\n", "X a 00\n", "file a 00\n"} {
		wantText1(t, text, 1, false)
	}
}

func TestNamesOfLines(t *testing.T) {
	for b := range 256 {
		can := strings.IndexByte(pathBytes, byte(b)) >= 0
		one := string([]byte{byte(b)})
		wantText1(t, "f "+one+"a 00\n", 1, can)
		wantText1(t, "d a"+one+"a 00\n", 1, can)
		wantText1(t, "x a"+one+" 00\n", 1, can)
		wantText1(t, "f "+one+" 00\n", 1, can && one != ".")
	}
	for _, name := range []string{"", ".", "..", "a/b", "/", "a/", "/a", "**", "a*", "?", "\"", "é", "\xff", strings.Repeat("p", impl.MaxPart+1), strings.Repeat("é", 11), strings.Repeat("p", 1000)} {
		wantText1(t, "f "+name+" 00\n", 1, false)
		wantText1(t, "f ! 00\nd "+name+" 00\n", 1, false)
		wantText1(t, "f "+name+" 00\nx ~ 00\n", 1, false)
	}
}

func TestNamesThatDoNotAscend(t *testing.T) {
	for _, text := range []string{
		"f a 00\nf a 00\n", "d a 00\nf a 00\n", "f a 00\nx a 11\n", "f b 00\nf a 00\n", "f ab 00\nf a 00\n", "f a 00\nf c 00\nf b 00\n", "f b 00\nf a 00\nf c 00\n", "f a 00\nf b 00\nf b 00\n",
		// In the order of the paths below them.
		"f a! 00\nd a 00\n", "f a-b 00\nd a 00\nf a0 00\n", "f a 00\nf B 00\n", "f 9 00\nf 10 00\n", "d b 00\nf a 00\nf b 00\n",
	} {
		wantText1(t, text, 1, false)
	}
}

func TestDigitsOfLines(t *testing.T) {
	for _, width := range allWidths() {
		for n := range 20 {
			wantText1(t, "f a "+strings.Repeat("0", n)+"\n", width, n == 2*width)
			wantText1(t, "f a "+strings.Repeat("af", width)+"\nd b "+strings.Repeat("9", n)+"\n", width, n == 2*width)
		}
		for b := range 256 {
			can := strings.IndexByte("0123456789abcdef", byte(b)) >= 0
			wantText1(t, "f a "+string([]byte{byte(b)})+strings.Repeat("0", 2*width-1)+"\n", width, can)
			wantText1(t, "f a "+strings.Repeat("0", 2*width-1)+string([]byte{byte(b)})+"\n", width, can)
			wantText1(t, "f a "+strings.Repeat("f", width)+string([]byte{byte(b)})+strings.Repeat("f", width-1)+"\n", width, can)
		}
		for _, digits := range []string{"0x", "-1", "+1", "AF", "0G", "é"} {
			wantText1(t, "f a "+digits+strings.Repeat("0", 2*width-2)+"\n", width, false)
		}
	}
	for _, text := range []string{"f a\n", "f a \n", "f\n", "f \n", "f a 00 00\n", "f a 0 0\n", "f a b 00\n", "\n", " \n", "  \n", " ", "f a 00\x00\n"} {
		wantText1(t, text, 1, false)
	}
}

// Each text that comes from one by changing, leaving out or putting in a byte.
func TestTextsOfDirectoriesWithAByteChanged(t *testing.T) {
	text := "d a 00\nf b. 1f\nx c ff\n"
	can := 0
	for i := range len(text) + 1 {
		for b := range 256 {
			one := string([]byte{byte(b)})
			texts := []string{text[:i] + one + text[i:]}
			if i < len(text) {
				texts = append(texts, text[:i]+one+text[i+1:], text[:i]+text[i+1:])
			}
			for _, x := range texts {
				shown := wantShow(t, plainSum(x, 1), "c/d", proofOf(x), 1)
				if shown.Code == 0 {
					can++
				}
			}
		}
	}
	if can < 300 {
		t.Error(can)
	}
}

func TestDirsOfAProof(t *testing.T) {
	wantShownCode(t, "a", proofOf(), 8, 1)
	wantShown(t, impl.Sum("", 8), "a", proofOf(), 8, impl.Shown{Code: 1})
	wantShown(t, "", "a", impl.Proof{}, 8, impl.Shown{Code: 1})
	wantShown(t, "", "a", proofOfFile("x"), 8, impl.Shown{Code: 1})
	for n := 1; n <= impl.MaxDirs+3; n++ {
		code := 2
		if n == 1 {
			code = 0
		} else if n > impl.MaxDirs {
			code = 1
		}
		wantShownCode(t, "a/a/a/a/a/a", proofOf(repeated("", n)...), 8, code)
		wantShownCode(t, "a", proofOf(repeated("", n)...), 8, code)
	}
	// As many as there can be that hold, one too many, and one more than MaxDirs.
	dirs := []string{"f a " + plainDigits("file text", 8) + "\n"}
	for len(dirs) < impl.MaxDirs+1 {
		dirs = append([]string{"d a " + plainDigits(dirs[0], 8) + "\n"}, dirs...)
	}
	path := strings.Join(repeated("a", impl.MaxParts), "/")
	for n := range dirs {
		p := proofOfFile("text", dirs[n:]...)
		code := 2
		if n == 2 {
			code = 0
		} else if n == 0 {
			code = 1
		}
		wantShownCode(t, path, p, 8, code)
	}
	wantShown(t, impl.Sum(dirs[2], 8), path, proofOfFile("text", dirs[2:]...), 8, shownFile(path, "text", false))
}

// dirOfSize is a text that a directory can have, of just so many bytes.
func dirOfSize(size, width int) string {
	lines := (size + 23 + 2*width) / (24 + 2*width)
	text := ""
	for i := range lines {
		room := (size - len(text)) / (lines - i)
		name := strconv.Itoa(1000 + i)
		text += "f " + name + strings.Repeat("p", room-4-2*width-len(name)) + " " + strings.Repeat("0", 2*width) + "\n"
	}
	return text
}

func TestTextsOfMaxDir(t *testing.T) {
	for _, width := range allWidths() {
		for size := impl.MaxDir - 3; size <= impl.MaxDir+3; size++ {
			text := dirOfSize(size, width)
			if _, ok := plainDirLines(text, width); !ok || len(text) != size {
				t.Fatal(size, len(text), ok)
			}
			wantText1(t, text, width, size <= impl.MaxDir)
			wantShown(t, "no sum", "a", proofOf("", text), width, impl.Shown{Code: 1 + max(0, min(1, impl.MaxDir+1-size))})
		}
	}
	// More lines than a tree has entries.
	many := ""
	for i := range 800 {
		many += "x " + strconv.Itoa(1000+i) + " " + plainDigits("file here", 1) + "\n"
	}
	wantText1(t, many, 1, true)
	wantShown(t, impl.Sum(many, 1), "1799", proofOfFile("here", many), 1, shownFile("1799", "here", true))
	wantShown(t, impl.Sum(many, 1), "1800", proofOf(many), 1, notThere())
	wantShown(t, impl.Sum(many, 1), "1800", proofOfFile("here", many), 1, impl.Shown{Code: 2})
}

func TestTextsOfAProof(t *testing.T) {
	for size := impl.MaxText - 2; size <= impl.MaxText+2; size++ {
		text := strings.Repeat("t", size)
		dir := "x a " + plainDigits("file "+text, 8) + "\n"
		code := 0
		if size > impl.MaxText {
			code = 1
		}
		wantShownCode(t, "a", proofOfFile(text, dir), 8, code)
		wantShownCode(t, "a", impl.Proof{Dirs: []string{dir}, Text: text}, 8, 1)
		wantShown(t, "no sum", "a", proofOfFile(text, dir), 8, impl.Shown{Code: 1 + max(0, min(1, impl.MaxText+1-size))})
	}
	// A Text without There, where a file lies, and where nothing does.
	dir := "f a " + plainDigits("file t", 8) + "\n"
	for _, path := range []string{"a", "b", "a/b"} {
		wantShownCode(t, path, impl.Proof{Dirs: []string{dir}, Text: "t"}, 8, 1)
		wantShown(t, "", path, impl.Proof{Dirs: []string{dir}, Text: "\x00"}, 8, impl.Shown{Code: 1})
	}
	wantShownCode(t, "a", proofOfFile("t", dir), 8, 0)
	wantShownCode(t, "b", proofOf(dir), 8, 0)
	empty := "f a " + plainDigits("file ", 8) + "\n"
	wantShownCode(t, "a", proofOfFile("", empty), 8, 0)
	wantShownCode(t, "a", proofOf(empty), 8, 2)
	wantShownCode(t, "b", proofOfFile("", empty), 8, 2)
	// The sum is not that of the Text alone.
	wantShownCode(t, "a", proofOfFile("t", "f a "+plainDigits("t", 8)+"\n"), 8, 2)
	wantShownCode(t, "a", proofOfFile("", "f a "+plainDigits("", 8)+"\n"), 8, 2)
}

// house has for each width the texts of a tree with `d/e/f`, and its sum.
func house(width int) (whole, inD, inE, sum string) {
	inE = "f f " + plainDigits("file text", width) + "\nx r " + plainDigits("file runs", width) + "\n"
	inD = "d e " + plainDigits(inE, width) + "\nf g " + plainDigits("file ", width) + "\n"
	whole = "d d " + plainDigits(inD, width) + "\nx h " + plainDigits("file h", width) + "\n"
	return whole, inD, inE, plainSum(whole, width)
}

func TestProofsThatDoNotHold(t *testing.T) {
	whole, inD, inE, sum := house(8)
	not := impl.Shown{Code: 2}
	good := proofOfFile("text", whole, inD, inE)
	wantShown(t, sum, "d/e/f", good, 8, shownFile("d/e/f", "text", false))
	// The sum is another one, or none at all.
	for _, other := range []string{"", "x", sum[1:], sum + "x", "x" + sum[1:], sum[:7] + "\x00", sum[:7], plainSum(inD, 8), plainSum("", 8), plainDigits(whole, 8), strings.Repeat("s", 10000)} {
		wantShown(t, other, "d/e/f", good, 8, not)
		wantShown(t, other, "gone", proofOf(whole), 8, not)
	}
	for _, c := range []struct {
		path  string
		proof impl.Proof
	}{
		// The next of the Dirs is not there.
		{"d/e/f", proofOfFile("text", whole, inD)}, {"d/e/f", proofOfFile("text", whole)}, {"d/e/f", proofOf(whole, inD)}, {"d/e/f", proofOf(whole)}, {"d/gone", proofOf(whole)}, {"d/e/gone/x", proofOf(whole, inD)},
		// It has another sum.
		{"d/e/f", proofOfFile("text", whole, inE)}, {"d/e/f", proofOfFile("text", whole, inE, inD)}, {"d/e/f", proofOfFile("text", whole, inD, "")}, {"d/gone", proofOf(whole, "")}, {"d/e/gone", proofOf(whole, inD, "f f "+plainDigits("file text", 8)+"\n")}, {"d/e/f", proofOfFile("text", whole, inD, inE+"x z "+plainDigits("", 8)+"\n")}, {"d/gone", proofOf(whole, whole)},
		// There are further ones, behind the last part, or where nothing goes on.
		{"d/e/f", proofOfFile("text", whole, inD, inE, "")}, {"d/e/gone", proofOf(whole, inD, inE, "")}, {"d/gone", proofOf(whole, inD, inE)}, {"gone", proofOf(whole, inD)}, {"gone/x", proofOf(whole, inD)}, {"gone/x", proofOf(whole, "")}, {"d/gone/x", proofOf(whole, inD, inE)}, {"d/gone/x", proofOf(whole, inD, "")},
		{"h", proofOfFile("h", whole, "")}, {"h/x", proofOf(whole, "")}, {"h/x", proofOf(whole, inD)}, {"d/g/x", proofOf(whole, inD, inE)}, {"d", proofOf(whole, inD)}, {"d/e", proofOf(whole, inD, inE)}, {"d/e", proofOf(whole, inD, "")},
		// The file is not told, or it has another text.
		{"d/e/f", proofOf(whole, inD, inE)}, {"d/e/r", proofOf(whole, inD, inE)}, {"h", proofOf(whole)}, {"d/g", proofOf(whole, inD)}, {"d/e/f", proofOfFile("texts", whole, inD, inE)}, {"d/e/f", proofOfFile("", whole, inD, inE)}, {"d/e/f", proofOfFile("runs", whole, inD, inE)}, {"d/e/r", proofOfFile("text", whole, inD, inE)}, {"h", proofOfFile("", whole)}, {"d/g", proofOfFile("g", whole, inD)}, {"d/e/f", proofOfFile("file text", whole, inD, inE)},
		// A file is told where there is none.
		{"gone", proofOfFile("text", whole)}, {"gone", proofOfFile("", whole)}, {"gone/x", proofOfFile("h", whole)}, {"d", proofOfFile("", whole)}, {"d", proofOfFile("text", whole)}, {"d/e", proofOfFile("", whole, inD)}, {"d/gone", proofOfFile("", whole, inD)}, {"d/e/gone", proofOfFile("text", whole, inD, inE)}, {"d/e/gone/x", proofOfFile("text", whole, inD, inE)}, {"h/x", proofOfFile("h", whole)}, {"d/g/x", proofOfFile("", whole, inD)}, {"d/g/x/y", proofOfFile("", whole, inD)}, {"d/e/f/x", proofOfFile("text", whole, inD, inE)},
	} {
		wantShown(t, sum, c.path, c.proof, 8, not)
	}
	// The first is that of another directory, and is followed from there.
	wantShown(t, sum, "e/f", proofOfFile("text", inD, inE), 8, not)
	wantShown(t, plainSum(inD, 8), "e/f", proofOfFile("text", inD, inE), 8, shownFile("e/f", "text", false))
}

func TestProofsThatHold(t *testing.T) {
	for _, width := range allWidths() {
		whole, inD, inE, sum := house(width)
		for path, want := range map[string]struct {
			p impl.Proof
			s impl.Shown
		}{
			"d/e/f": {proofOfFile("text", whole, inD, inE), shownFile("d/e/f", "text", false)},
			"d/e/r": {proofOfFile("runs", whole, inD, inE), shownFile("d/e/r", "runs", true)},
			"d/g":   {proofOfFile("", whole, inD), shownFile("d/g", "", false)},
			"h":     {proofOfFile("h", whole), shownFile("h", "h", true)},
			"gone":  {proofOf(whole), notThere()}, "gone/x": {proofOf(whole), notThere()}, "gone/x/y/z/y/x": {proofOf(whole), notThere()},
			"d/gone": {proofOf(whole, inD), notThere()}, "d/gone/e/f": {proofOf(whole, inD), notThere()}, "d/e/gone": {proofOf(whole, inD, inE), notThere()},
			"h/x": {proofOf(whole), notThere()}, "h/e/f": {proofOf(whole), notThere()}, "d/g/x": {proofOf(whole, inD), notThere()}, "d/e/f/x": {proofOf(whole, inD, inE), notThere()}, "d/e/r/x/y/z": {proofOf(whole, inD, inE), notThere()},
			"d": {proofOf(whole), notThere()}, "d/e": {proofOf(whole, inD), notThere()},
		} {
			wantShown(t, sum, path, want.p, width, want.s)
			for _, other := range allWidths() {
				if other != width {
					wantShown(t, sum, path, want.p, other, impl.Shown{Code: 1})
				}
			}
		}
	}
}

func TestTheFirstCodeOfAProofIsTold(t *testing.T) {
	whole, inD, inE, sum := house(8)
	good := proofOfFile("text", whole, inD, inE)
	long := strings.Repeat("t", impl.MaxText+1)
	one := impl.Shown{Code: 1}
	for _, other := range []string{sum, "", "no sum"} {
		for _, path := range []string{"", "..", "d/e/f/", "a/a/a/a/a/a/a"} {
			wantShown(t, other, path, good, 8, one)
			wantShown(t, other, path, proofOf(whole, inE), 8, one)
		}
		for _, width := range append(noWidths(), 1, 7) {
			wantShown(t, other, "d/e/f", good, width, one)
		}
		for _, p := range []impl.Proof{
			proofOf(), proofOfFile("text"), proofOfFile(long, whole, inD, inE), proofOfFile(long, whole), {Dirs: good.Dirs, Text: "text"}, {Dirs: good.Dirs[:1], Text: "x"}, {Dirs: good.Dirs, Text: long},
			proofOfFile("text", slices.Concat(good.Dirs, repeated("", 5))...), proofOf(slices.Concat(good.Dirs, repeated(inD, 5))...),
			// A wrong text behind those that do not hold, or where none is asked.
			proofOfFile("text", whole, inD, inE, "no text"), proofOfFile("text", whole, "no text"), proofOfFile("text", whole, inE, "no text"), proofOfFile("text", "no text", inD, inE), proofOfFile("text", inE, inD, "\n"), proofOf(whole, inD, inE, "", "", "", "f"),
			proofOf(whole, dirOfSize(impl.MaxDir+1, 8)), proofOf("", dirOfSize(impl.MaxDir+1, 8), inE), proofOf(whole, inD, inE, dirOfSize(impl.MaxDir+1, 8)),
		} {
			for _, path := range []string{"d/e/f", "gone", "h"} {
				wantShown(t, other, path, p, 8, one)
			}
		}
	}
}

// spoiledProof has one thing changed that may or may not make it wrong.
func spoiledProof(source *rand.Rand, p impl.Proof, others []string) impl.Proof {
	q := impl.Proof{Dirs: slices.Clone(p.Dirs), There: p.There, Text: p.Text}
	i, j := source.Intn(len(q.Dirs)), source.Intn(len(q.Dirs))
	other := others[source.Intn(len(others))]
	switch source.Intn(10) {
	case 0:
		q.Dirs[i], q.Dirs[j] = q.Dirs[j], q.Dirs[i]
	case 1:
		q.Dirs = slices.Delete(q.Dirs, i, i+1)
	case 2:
		q.Dirs = slices.Insert(q.Dirs, i, other)
	case 3:
		q.Dirs = append(q.Dirs, other)
	case 4:
		q.Dirs[i] = other
	case 5:
		q.There = !q.There
	case 6:
		q.There, q.Text = !q.There, ""
	case 7:
		q.Text = strings.TrimPrefix(other, "file ")
	case 8:
		if text := q.Dirs[i]; text != "" {
			at := source.Intn(len(text))
			q.Dirs[i] = text[:at] + string("dfx 0a\n"[source.Intn(7)]) + text[at+1:]
		}
	case 9:
		q.Dirs[i] += "f ~~ 00\n"
	}
	return q
}

func TestSpoiledProofs(t *testing.T) {
	source := rand.New(rand.NewSource(94))
	codes := map[int]int{}
	others := []string{""}
	for range 8000 {
		width := 1
		if source.Intn(4) == 0 {
			width = 2
		}
		x := randomTree(source, 1+source.Intn(10))
		path := anyPath(source, x)
		others = append(others, everyText(x, width)...)
		p := plainProve(x, path, width)
		q := spoiledProof(source, p, others)
		sum := plainTreeSum(x, width)
		codes[wantShow(t, sum, path, q, width).Code]++
		wantShow(t, sum, anyPath(source, x), p, width)
		wantEvidence(t, p, q, width)
		if len(q.Dirs) > 0 {
			sum = plainSum(q.Dirs[0], width)
			codes[wantShow(t, sum, path, q, width).Code]++
			codes[wantShow(t, sum, path, spoiledProof(source, q, others), width).Code]++
		}
	}
	for code := range 3 {
		if codes[code] < 1000 {
			t.Errorf("code %d: %d times", code, codes[code])
		}
	}
}

func TestEvidenceShowsTheFirstTwoTexts(t *testing.T) {
	const x, y = "text 0", "text 40"
	for k, pair := range clashing() {
		for _, width := range allWidths() {
			a, b, ok := pair[0], pair[1], width <= k+1
			first, second := "", ""
			if ok {
				first, second = a, b
			}
			wantTwoTexts(t, proofOf(a), proofOf(b), width, first, second, ok)
			wantTwoTexts(t, proofOf(b), proofOf(a), width, second, first, ok)
			// Both in one of them.
			wantTwoTexts(t, proofOf(a, a, b), proofOf(), width, first, second, ok)
			wantTwoTexts(t, proofOf(), proofOf(a, b, b), width, first, second, ok)
			wantTwoTexts(t, proofOf(a), proofOf(a), width, "", "", false)
			wantTwoTexts(t, proofOf(), proofOf(), width, "", "", false)
		}
		for _, width := range noWidths() {
			wantTwoTexts(t, proofOf(pair[0]), proofOf(pair[1]), width, "", "", false)
		}
	}
	// The Text counts with `file ` in front, and with There alone.
	wantTwoTexts(t, proofOfFile(x), proofOfFile(y), 1, "file "+x, "file "+y, true)
	wantTwoTexts(t, proofOfFile(y), proofOfFile(x), 1, "file "+y, "file "+x, true)
	wantTwoTexts(t, proofOfFile(x), proofOfFile(y), 2, "", "", false)
	wantTwoTexts(t, proofOfFile(x), proofOfFile(x), 1, "", "", false)
	wantTwoTexts(t, impl.Proof{Text: x}, proofOfFile(y), 1, "", "", false)
	wantTwoTexts(t, proofOfFile(x), impl.Proof{Text: y}, 1, "", "", false)
	wantTwoTexts(t, impl.Proof{Text: x}, impl.Proof{Text: y}, 1, "", "", false)
	wantTwoTexts(t, proofOf(x), proofOf(y), 1, "", "", false)
	wantTwoTexts(t, proofOfFile(x), proofOf("file "+y), 1, "file "+x, "file "+y, true)
	wantTwoTexts(t, proofOf("file "+y), proofOfFile(x), 1, "file "+y, "file "+x, true)
	wantTwoTexts(t, proofOfFile(x, "file "+y), proofOf(), 1, "file "+y, "file "+x, true)
	wantTwoTexts(t, proofOfFile(x, "file "+x), proofOfFile(x), 1, "", "", false)
	// Dirs, file, Dirs, file: the least place of the second text, then that of
	// the first one.
	u, v := clashing()[7][0], clashing()[7][1]
	wantTwoTexts(t, proofOfFile(x, u), proofOfFile(y, v), 1, u, v, true)
	wantTwoTexts(t, proofOfFile(x, "q", u), proofOfFile(y, u, v), 1, u, v, true)
	wantTwoTexts(t, proofOfFile(x, u), proofOfFile(y, u), 1, "file "+x, "file "+y, true)
	wantTwoTexts(t, proofOfFile(x, "file "+y), proofOfFile(y, u, v), 1, "file "+y, "file "+x, true)
	wantTwoTexts(t, proofOf(u), proofOfFile(x, "file "+y, v), 1, u, v, true)
	wantTwoTexts(t, proofOf(u), proofOfFile(x, "file "+y), 1, "file "+y, "file "+x, true)
}

func TestEvidenceOfMaxDirs(t *testing.T) {
	for k, pair := range clashing() {
		a, b, width := pair[0], pair[1], k+1
		for n := range impl.MaxDirs + 3 {
			ok := n <= impl.MaxDirs
			first, second := "", ""
			if ok {
				first, second = a, b
			}
			wantTwoTexts(t, proofOf(repeated(a, n)...), proofOf(a, b), width, first, second, ok)
			wantTwoTexts(t, proofOf(a, b), proofOf(repeated(a, n)...), width, first, second, ok)
			wantTwoTexts(t, proofOf(a, b), proofOfFile("", repeated(b, n)...), width, first, second, ok)
			wantTwoTexts(t, proofOfFile("", repeated(a, n)...), proofOfFile("", a, b), width, first, second, ok)
			wantTwoTexts(t, proofOfFile("", repeated(a, n)...), proofOfFile("", repeated(a, n)...), width, "", "", false)
		}
		most := append(repeated(a, impl.MaxDirs-1), b)
		wantTwoTexts(t, proofOf(most...), proofOf(), width, a, b, true)
		wantTwoTexts(t, proofOf(), proofOf(most...), width, a, b, true)
		wantTwoTexts(t, proofOf(repeated(a, impl.MaxDirs)...), proofOf(append(repeated(a, impl.MaxDirs-1), b)...), width, a, b, true)
		wantTwoTexts(t, proofOfFile("", repeated(a, impl.MaxDirs)...), proofOfFile("", append(repeated(a, impl.MaxDirs-1), b)...), width, a, b, true)
		wantTwoTexts(t, proofOf(append(most, a)...), proofOf(), width, "", "", false)
		wantTwoTexts(t, proofOf(), proofOf(append(most, a)...), width, "", "", false)
	}
	// Its texts need not be those of directories, nor of MaxText or MaxDir bytes.
	long := strings.Repeat("long", 10000)
	u, v := clashing()[7][0]+long, clashing()[7][1]+long
	wantTwoTexts(t, proofOfFile(long, u), proofOfFile(long, v), 8, u, v, true)
	wantTwoTexts(t, proofOfFile(long), proofOfFile(long), 8, "", "", false)
}

// wantEvidenceOf is promise 14 of two proofs; it says whether they tell
// different things.
func wantEvidenceOf(t *testing.T, sum, path string, p, q impl.Proof, width int) bool {
	t.Helper()
	a, b := impl.Show(sum, path, p, width), impl.Show(sum, path, q, width)
	if a.Code != 0 || b.Code != 0 || a == b {
		return false
	}
	x, y, ok := impl.Evidence(p, q, width)
	if !ok || x == y || impl.Sum(x, width) != impl.Sum(y, width) {
		t.Errorf("%s and %s: %q %q %t", proofText(p), proofText(q), x, y, ok)
	}
	texts := append(proofTexts(p), proofTexts(q)...)
	if !slices.Contains(texts, x) || !slices.Contains(texts, y) {
		t.Errorf("%s and %s: %q %q", proofText(p), proofText(q), x, y)
	}
	return true
}

// Promise 14.
func TestProofsOfTreesWithOneSum(t *testing.T) {
	source := rand.New(rand.NewSource(95))
	asked := []string{"a", "b", "a/b", "b/a", "a/b/c", "b/b./a"}
	for _, width := range []int{1, 2} {
		bySum := map[string][]impl.Tree{}
		for range 2500 {
			x := randomTree(source, 1+source.Intn(4))
			sum := impl.TreeSum(x, width)
			bySum[sum] = append(bySum[sum], x)
		}
		differ := 0
		for sum, trees := range bySum {
			for i := range trees[:len(trees)-1] {
				for _, path := range append(asked, anyPath(source, trees[i])) {
					p, q := impl.Prove(trees[i], path, width), impl.Prove(trees[i+1], path, width)
					if wantEvidenceOf(t, sum, path, p, q, width) {
						differ++
						wantEvidence(t, p, q, width)
						wantEvidence(t, q, p, width)
					}
					if impl.Show(sum, path, p, width).Code != 0 || impl.Show(sum, path, q, width).Code != 0 {
						t.Errorf("width %d, %s: a proof does not hold", width, path)
					}
				}
			}
		}
		if differ < 30 {
			t.Errorf("width %d: %d times", width, differ)
		}
	}
}

// sameSum is two names under which a file alone has one sum at every width,
// that of eight bytes too.
const sameSum, sameSum2 = "tmj==bsthafik", "dahyr-xwegqgo"

// Promises 12 and 14 at all widths.
func TestTreesWithOneSumAtEveryWidth(t *testing.T) {
	x, y := filled(sameSum+":text"), filled(sameSum2+":text")
	for _, width := range allWidths() {
		if !wantSumsTellApart(t, x, y, width) {
			t.Errorf("width %d: two sums", width)
		}
		for _, path := range []string{sameSum, sameSum2} {
			p, q := wantProve(t, x, path, width), wantProve(t, y, path, width)
			if !wantEvidenceOf(t, impl.TreeSum(x, width), path, p, q, width) {
				t.Errorf("width %d, %s: the proofs tell one thing", width, path)
			}
			wantEvidence(t, p, q, width)
			wantEvidence(t, q, p, width)
		}
	}
}

// forger has texts by their digits, out of which proofs are made that are of
// no tree, and hold.
type forger struct {
	dirs, files map[string][]string
}

func newForger(source *rand.Rand, n int) forger {
	f := forger{dirs: map[string][]string{}, files: map[string][]string{}}
	for i := range n {
		text := strconv.Itoa(i)
		f.files[plainDigits("file "+text, 1)] = append(f.files[plainDigits("file "+text, 1)], text)
		dir := ""
		for _, name := range []string{"a", "b", "c"} {
			if source.Intn(4) > 0 {
				dir += string("ddfx"[source.Intn(4)]) + " " + name + " " + plainDigits(strconv.Itoa(source.Int()), 1) + "\n"
			}
		}
		f.dirs[plainDigits(dir, 1)] = append(f.dirs[plainDigits(dir, 1)], dir)
	}
	return f
}

// proof goes along a path and takes at each line any text that has its sum.
func (f forger) proof(source *rand.Rand, digits, path string) impl.Proof {
	p := impl.Proof{}
	parts := strings.Split(path, "/")
	for i, part := range parts {
		p.Dirs = append(p.Dirs, f.dirs[digits][source.Intn(len(f.dirs[digits]))])
		var mark string
		mark, digits = plainLine(p.Dirs[i], part, 1)
		if i == len(parts)-1 && (mark == "f" || mark == "x") {
			p.There, p.Text = true, f.files[digits][source.Intn(len(f.files[digits]))]
		}
		if mark != "d" {
			break
		}
	}
	return p
}

// Promise 14, where no tree has made the proofs.
func TestForgedProofsThatHoldGiveEvidence(t *testing.T) {
	source := rand.New(rand.NewSource(96))
	f := newForger(source, 4000)
	differ, shares := 0, 0
	for range 6000 {
		path := []string{"a", "a/b", "a/b/c", "b/a/b/c", "c/c/c/c/c/c"}[source.Intn(5)]
		sum := plainSum(strconv.Itoa(source.Int()), 1)
		p := f.proof(source, plainDigits2(sum), path)
		q := f.proof(source, plainDigits2(sum), path)
		if source.Intn(2) == 0 {
			// They part only at the end.
			q = impl.Proof{Dirs: slices.Clone(p.Dirs), There: p.There, Text: p.Text}
			if p.There {
				texts := f.files[plainDigits("file "+p.Text, 1)]
				q.Text = texts[source.Intn(len(texts))]
			}
			shares++
		}
		for _, r := range []impl.Proof{p, q} {
			if got := wantShow(t, sum, path, r, 1); got.Code != 0 {
				t.Errorf("%s: %s", proofText(r), shownText(got))
			}
		}
		if wantEvidenceOf(t, sum, path, p, q, 1) {
			differ++
		}
		wantEvidence(t, p, q, 1)
	}
	if differ < 500 || shares < 500 {
		t.Error(differ, shares)
	}
}

// plainDigits2 is a sum in digits.
func plainDigits2(sum string) string {
	const digits = "0123456789abcdef"
	text := ""
	for i := range len(sum) {
		text += digits[sum[i]>>4:][:1] + digits[sum[i]&15:][:1]
	}
	return text
}

func TestAFileAndADirectoryWithOneSumGiveEvidence(t *testing.T) {
	// One line has the sum of two directories; in one of them a file lies.
	source := rand.New(rand.NewSource(97))
	f := newForger(source, 4000)
	for digits, dirs := range f.dirs {
		whole := "d d " + digits + "\n"
		sum := plainSum(whole, 1)
		for i := range min(len(dirs), 6) {
			for j := range i {
				for _, path := range []string{"d/a", "d/b", "d/c/x"} {
					p, q := impl.Proof{Dirs: []string{whole, dirs[i]}}, impl.Proof{Dirs: []string{whole, dirs[j]}}
					for _, r := range []*impl.Proof{&p, &q} {
						mark, of := plainLine(r.Dirs[1], path[2:], 1)
						if mark == "f" || mark == "x" {
							r.There, r.Text = true, f.files[of][0]
						}
					}
					wantEvidenceOf(t, sum, path, p, q, 1)
					wantShow(t, sum, path, p, 1)
				}
			}
		}
	}
}

func TestProofsFromOneShareNothing(t *testing.T) {
	p, q := impl.Prove(street(), "a/b/c", 8), impl.Prove(street(), "a/b/c", 8)
	p.Dirs = append(p.Dirs, "p")
	q.Dirs = append(q.Dirs, "q")
	if p.Dirs[3] != "p" || q.Dirs[3] != "q" {
		t.Error(proofText(p), proofText(q))
	}
	p.Dirs[0] = "changed"
	if again := impl.Prove(street(), "a/b/c", 8); !sameProof(again, plainProve(street(), "a/b/c", 8)) {
		t.Error(proofText(again))
	}
}

func TestGreatProofsEndSoon(t *testing.T) {
	many := proofOfFile("t", make([]string, 1<<20)...)
	long := strings.Repeat("f a 0000000000000000\n", 1<<18)
	lines := dirOfSize(impl.MaxDir, 1)
	path := strings.Repeat("a/", 1<<20) + "a"
	endsSoon(t, "a great proof", func() {
		for range 50 {
			for _, p := range []impl.Proof{many, proofOf(long), proofOf("", long), proofOfFile(long, ""), {Dirs: []string{""}, Text: long}} {
				if got := impl.Show(impl.Sum("", 8), "a", p, 8); got != (impl.Shown{Code: 1}) {
					t.Error(shownText(got))
				}
			}
			if got := impl.Show(long, path, proofOf(""), 8); got != (impl.Shown{Code: 1}) {
				t.Error(shownText(got))
			}
			if got := impl.Show(long, "a", proofOf(""), 8); got != (impl.Shown{Code: 2}) {
				t.Error(shownText(got))
			}
			if got := impl.Show(impl.Sum(lines, 1), "a/a", proofOf(repeated(lines, impl.MaxDirs)...), 1); got != (impl.Shown{Code: 2}) {
				t.Error(shownText(got))
			}
			if _, _, ok := impl.Evidence(many, many, 8); ok {
				t.Error("evidence of too many")
			}
			if _, _, ok := impl.Evidence(proofOfFile(long, long), proofOfFile(long, long), 8); ok {
				t.Error("evidence of one text")
			}
			if p := impl.Prove(street(), path, 8); !sameProof(p, impl.Proof{}) {
				t.Error(proofText(p))
			}
		}
	})
}
