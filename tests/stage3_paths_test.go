package tests

import (
	"math/rand"
	"regexp"
	"slices"
	"strings"
	"testing"
	"time"

	"loop.example/kilntree/impl"
)

// pathBytes are the bytes of a part, written out.
const pathBytes = "!#$%&'()+,-.0123456789:;<=>@ABCDEFGHIJKLMNOPQRSTUVWXYZ[\\]^_`abcdefghijklmnopqrstuvwxyz{|}~"

func plainParts(text, bytes string) bool {
	parts := strings.Split(text, "/")
	for _, part := range parts {
		if part == "" || part == "." || part == ".." || len(part) > 20 {
			return false
		}
		for i := range len(part) {
			if strings.IndexByte(bytes, part[i]) < 0 {
				return false
			}
		}
	}
	return len(parts) <= 6
}

func plainPath(path string) bool { return plainParts(path, pathBytes) }

func plainGlob(glob string) bool { return plainParts(glob, pathBytes+"*?") }

// plainMatch has a glob as a regular expression of paths with `/` in front of
// each part.
func plainMatch(glob, path string) bool {
	return plainGlob(glob) && plainPath(path) && globPattern(glob).MatchString("/"+path)
}

func globPattern(glob string) *regexp.Regexp {
	pattern := ""
	for _, part := range strings.Split(glob, "/") {
		if part == "**" {
			pattern += "(/[^/]+)*"
			continue
		}
		pattern += "/"
		for i := range len(part) {
			switch part[i] {
			case '*':
				pattern += "[^/]*"
			case '?':
				pattern += "[^/]"
			default:
				pattern += regexp.QuoteMeta(part[i : i+1])
			}
		}
	}
	return regexp.MustCompile("^" + pattern + "$")
}

// allTexts are the texts of at most n bytes out of letters.
func allTexts(letters string, n int) []string {
	texts := []string{""}
	for from := 0; n > 0; n-- {
		to := len(texts)
		for _, text := range texts[from:to] {
			for i := range len(letters) {
				texts = append(texts, text+letters[i:i+1])
			}
		}
		from = to
	}
	return texts
}

func wantParts(t *testing.T, text string, path, glob bool) {
	t.Helper()
	if got := impl.ValidPath(text); got != path {
		t.Errorf("%.60q: a path: %t", text, got)
	}
	if got := impl.ValidGlob(text); got != glob {
		t.Errorf("%.60q: a glob: %t", text, got)
	}
	if got := impl.Match(text, text); got != path {
		t.Errorf("%.60q: matches itself: %t", text, got)
	}
}

func TestPathLimits(t *testing.T) {
	if impl.MaxPart != 20 || impl.MaxParts != 6 || impl.MaxGlobs != 20 {
		t.Error(impl.MaxPart, impl.MaxParts, impl.MaxGlobs)
	}
}

func TestEveryByteOfAPart(t *testing.T) {
	paths, globs := 0, 0
	for b := range 256 {
		one := string([]byte{byte(b)})
		// A `.` alone is no part, and a `/` none of its bytes: both are looked
		// at inside other texts.
		for _, text := range []string{one, "x" + one + "y", one + "y", "x" + one, "p/x" + one + "/q"} {
			wantParts(t, text, plainPath(text), plainGlob(text))
		}
		if impl.ValidPath("x" + one) {
			paths++
		}
		if impl.ValidGlob("x" + one) {
			globs++
		}
	}
	if paths != 126-33+1-4 || globs != paths+2 {
		t.Error(paths, globs)
	}
	for _, text := range []string{"é", "aé", "日", "\xff", "\xc3", "a\xc3/b", "\u2044", "\uff0f", "a\x00", "a\nb"} {
		wantParts(t, text, false, false)
	}
}

func TestDotsAreNoParts(t *testing.T) {
	for _, part := range []string{".", ".."} {
		for _, text := range []string{part, part + "/a", "a/" + part, "a/" + part + "/b", part + "/" + part, "**/" + part, part + "/*"} {
			wantParts(t, text, false, false)
		}
	}
	for _, part := range []string{"...", ".a", "a.", "a..", "..a", "a.b", "....", strings.Repeat(".", 20)} {
		for _, text := range []string{part, part + "/a", "a/" + part, "a/" + part + "/b"} {
			wantParts(t, text, true, true)
		}
	}
	for _, part := range []string{".*", ".?", "*.", "?.", "*..", "..*", "*", "**", "***", "?", "??", "a**b"} {
		for _, text := range []string{part, part + "/a", "a/" + part, "a/" + part + "/b"} {
			wantParts(t, text, false, true)
		}
	}
}

func TestEmptyPartsAreNone(t *testing.T) {
	for _, text := range []string{"", "/", "//", "a/", "/a", "a//b", "a/b/", "/a/b", "a///b", "*/", "/*", "**//a", "**/", "/**"} {
		wantParts(t, text, false, false)
	}
}

func TestMaxPartAndMaxParts(t *testing.T) {
	for n := 1; n <= impl.MaxParts+2; n++ {
		fits := n <= impl.MaxParts
		wantParts(t, strings.Join(repeated("p", n), "/"), fits, fits)
		wantParts(t, strings.Join(repeated(strings.Repeat("p", impl.MaxPart), n), "/"), fits, fits)
		wantParts(t, strings.Join(repeated("**", n), "/"), false, fits)
		wantParts(t, strings.Join(repeated("?*", n), "/"), false, fits)
		for i := range n {
			parts := repeated("p", n)
			for _, size := range []int{impl.MaxPart - 1, impl.MaxPart, impl.MaxPart + 1, impl.MaxPart + 2, 300} {
				parts[i] = strings.Repeat("q", size)
				wantParts(t, strings.Join(parts, "/"), fits && size <= 20, fits && size <= 20)
				parts[i] = strings.Repeat("*", size)
				wantParts(t, strings.Join(parts, "/"), false, fits && size <= 20)
				parts[i] = strings.Repeat("?", size)
				wantParts(t, strings.Join(parts, "/"), false, fits && size <= 20)
			}
		}
	}
}

func TestEveryShortTextIsAPathOrNot(t *testing.T) {
	for _, text := range allTexts("a./*?\" ", 5) {
		wantParts(t, text, plainPath(text), plainGlob(text))
	}
}

func wantMatch(t *testing.T, glob, path string, want bool) {
	t.Helper()
	if got := impl.Match(glob, path); got != want {
		t.Errorf("%q, %q: %t", glob, path, got)
	}
}

func TestMatchIsAsItsPiecesSay(t *testing.T) {
	for _, c := range []struct {
		glob string
		yes  string
		no   string
	}{
		{"a", "a", "b aa A a/a a/b"},
		{"a/b", "a/b", "a b b/a a/b/c x/a/b ab"},
		{"?", "a ~ !", "aa ... a/b"},
		{"??", "ab", "a abc a/b"},
		{"a?", "ab a.", "a abc ba a/b"},
		{"?a", "ba aa", "a ab"},
		{"*", "a ab ...", "a/b a/b/c"},
		{"*/*", "a/b ab/cd", "a a/b/c"},
		{"a*", "a ab abc", "b ba a/b"},
		{"*a", "a ba aba", "b ab b/a"},
		{"a*b", "ab axb abb a.b", "a b ba axc a/b"},
		{"*a*", "a xa ax xax", "b x/a"},
		{"*?", "a ab", "a/b"},
		{"?*?", "ab abc", "a"},
		{"*.go", "a.go .go", "a.gop a/b.go go"},
		{"***", "a ab abc", "a/b"},
		{"a**b", "ab axb axxb", "a/b a/x/b"},
		{"a***", "a ab", "a/b"},
		{"**", "a a/b a/b/c/d/e/f", ""},
		{"**/a", "a b/a c/b/a a/a", "b a/b b/aa ba"},
		{"a/**", "a a/b a/b/c a/a", "b b/a ab ab/c"},
		{"**/a/**", "a b/a a/b b/a/c", "b ab b/ab/c"},
		{"a/**/b", "a/b a/x/b a/x/y/z/b a/b/b", "a b a/b/x ab a/xb"},
		{"**/**", "a a/b a/b/c", ""},
		{"**/*", "a a/b a/b/c", ""},
		{"*/**", "a a/b a/b/c", ""},
		{"*/**/*", "a/b a/b/c", "a"},
		{"**/?/**", "a a/bb bb/a bb/a/cc", "bb bb/cc"},
		{"**/a/**/b", "a/b x/a/b a/x/b x/a/y/b a/b/b a/a/b", "b a b/a a/b/x"},
		{"[a]", "[a]", "a"},
		{"a.b", "a.b", "axb"},
		{"a\\b", "a\\b", "ab"},
		{"(a|b)+", "(a|b)+", "a b"},
	} {
		for _, path := range strings.Fields(c.yes) {
			wantMatch(t, c.glob, path, true)
		}
		for _, path := range strings.Fields(c.no) {
			wantMatch(t, c.glob, path, false)
		}
	}
}

func TestEveryShortGlobAtEveryShortPath(t *testing.T) {
	paths := slices.DeleteFunc(allTexts("ab/", 5), func(path string) bool { return !plainPath(path) })
	matched := 0
	for _, glob := range allTexts("ab*?/", 5) {
		if !plainGlob(glob) {
			continue
		}
		pattern := globPattern(glob)
		for _, path := range paths {
			want := pattern.MatchString("/" + path)
			if impl.Match(glob, path) != want {
				t.Fatalf("%q, %q: want %t", glob, path, want)
			}
			if want {
				matched++
			}
		}
	}
	if matched < 10000 {
		t.Error(matched)
	}
}

func randomParts(source *rand.Rand, pieces []string, most int) string {
	parts := []string{}
	for range 1 + source.Intn(most) {
		part := ""
		for range 1 + source.Intn(4) {
			part += pieces[source.Intn(len(pieces))]
		}
		parts = append(parts, part)
	}
	return strings.Join(parts, "/")
}

// randomGlob puts marks into a path, so that it matches it often.
func randomGlob(source *rand.Rand, path string) string {
	parts := strings.Split(path, "/")
	for i, part := range parts {
		switch source.Intn(4) {
		case 0:
			at := source.Intn(len(part))
			parts[i] = part[:at] + "?" + part[at+1:]
		case 1:
			from := source.Intn(len(part) + 1)
			to := from + source.Intn(len(part)-from+1)
			parts[i] = part[:from] + "*" + part[to:]
		case 2:
			parts[i] = []string{"**", "*", "**", "?*", part}[source.Intn(5)]
		}
	}
	if from := source.Intn(2 * len(parts)); from < len(parts) {
		to := from + source.Intn(len(parts)-from+1)
		parts = slices.Concat(parts[:from], []string{"**"}, parts[to:])
	}
	return strings.Join(parts, "/")
}

func TestRandomGlobsAtRandomPaths(t *testing.T) {
	source := rand.New(rand.NewSource(41))
	matched := 0
	const times = 30000
	for range times {
		path := randomParts(source, []string{"a", "b", "ab", "."}, impl.MaxParts)
		glob := randomGlob(source, path)
		if source.Intn(3) == 0 {
			path = randomParts(source, []string{"a", "b"}, impl.MaxParts)
		}
		want := plainMatch(glob, path)
		wantMatch(t, glob, path, want)
		if want {
			matched++
		}
	}
	if matched < times/5 || matched > 4*times/5 {
		t.Errorf("%d of %d matched", matched, times)
	}
}

// Promise 4, its first half.
func TestGlobsWithoutMarksMatchThemselvesAlone(t *testing.T) {
	paths := slices.DeleteFunc(allTexts("ab./", 4), func(path string) bool { return !plainPath(path) })
	for _, glob := range paths {
		for _, path := range paths {
			wantMatch(t, glob, path, glob == path)
		}
	}
	source := rand.New(rand.NewSource(42))
	for range 3000 {
		x := randomParts(source, strings.Split(pathBytes, ""), impl.MaxParts)
		y := randomParts(source, strings.Split(pathBytes, ""), impl.MaxParts)
		wantMatch(t, x, x, plainPath(x))
		wantMatch(t, x, y, x == y && plainPath(x))
	}
}

// Promise 4, its second half.
func TestAnyPartsInFrontMatchLongerPaths(t *testing.T) {
	source := rand.New(rand.NewSource(43))
	matched := 0
	for range 20000 {
		path := randomParts(source, []string{"a", "b"}, impl.MaxParts)
		parts := strings.Split(path, "/")
		rest := randomGlob(source, strings.Join(parts[source.Intn(len(parts)):], "/"))
		if strings.Count(rest, "/") > impl.MaxParts-2 {
			continue
		}
		want := false
		for i := range parts {
			want = want || impl.Match(rest, strings.Join(parts[i:], "/"))
		}
		wantMatch(t, "**/"+rest, path, want)
		if want {
			matched++
		}
	}
	if matched < 4000 {
		t.Error(matched)
	}
}

func TestWhatIsNoGlobOrNoPathMatchesNothing(t *testing.T) {
	long := strings.Repeat("a", impl.MaxPart+1)
	deep := strings.Join(repeated("a", impl.MaxParts+1), "/")
	no := []string{"", "/", "a/", "/a", "a//b", ".", "..", "a/.", "a b", "a\"", "\x7f", "\x20", "é", long, deep, "a/" + long}
	for _, wrong := range no {
		for _, glob := range []string{"**", "*", "a", "*/*", "?", wrong, "**/**", "a/**", "**/a"} {
			wantMatch(t, glob, wrong, false)
		}
		for _, path := range []string{"a", "a/b", "a/a", strings.Repeat("a", impl.MaxPart)} {
			wantMatch(t, wrong, path, false)
		}
	}
	// Marks are no bytes of a path, and match no marks.
	for _, path := range []string{"*", "?", "**", "a*", "a/?", "***"} {
		for _, glob := range []string{path, "*", "**", "?", "??", "a*", "a/*"} {
			wantMatch(t, glob, path, false)
		}
	}
	// A glob of one part too many would match, if it were one.
	wantMatch(t, strings.Join(repeated("**", impl.MaxParts), "/"), "a", true)
	wantMatch(t, strings.Join(repeated("**", impl.MaxParts+1), "/"), "a", false)
	wantMatch(t, strings.Repeat("*", impl.MaxPart), "a", true)
	wantMatch(t, strings.Repeat("*", impl.MaxPart+1), "a", false)
	wantMatch(t, strings.Repeat("?", impl.MaxPart), strings.Repeat("a", impl.MaxPart), true)
	wantMatch(t, strings.Repeat("?", impl.MaxPart+1), strings.Repeat("a", impl.MaxPart+1), false)
}

// endsSoon is for calls that would take years if they went back.
func endsSoon(t *testing.T, what string, call func()) {
	t.Helper()
	done := make(chan int)
	go func() {
		call()
		close(done)
	}()
	select {
	case <-done:
	case <-time.After(60 * time.Second):
		t.Fatal(what + " does not end soon")
	}
}

func TestManyMarksAtLongPathsEndSoon(t *testing.T) {
	as := strings.Repeat("a", impl.MaxPart)
	path := strings.Join(repeated(as, impl.MaxParts), "/")
	marks := strings.Repeat("*a", impl.MaxPart/2-1) + "*b"
	globs := []string{
		strings.Join(repeated(marks, impl.MaxParts), "/"),
		strings.Join([]string{"**", "*" + strings.Repeat("*a", 9), "**", "*" + strings.Repeat("*a", 9), "**", marks}, "/"),
		strings.Join([]string{strings.Repeat("*a", 10), "**", strings.Repeat("?*", 10), "**", "**", marks}, "/"),
		strings.Join(append(repeated("**", impl.MaxParts-1), "b"), "/"),
		strings.Join(append(repeated("**", impl.MaxParts-1), strings.Repeat("*", 19)+"b"), "/"),
	}
	endsSoon(t, "a glob that misses", func() {
		for range 2000 {
			for _, glob := range globs {
				if impl.Match(glob, path) || !impl.ValidGlob(glob) {
					t.Errorf("%q", glob)
					return
				}
			}
		}
	})
	wantMatch(t, strings.Join(repeated(strings.Repeat("*a", 10), impl.MaxParts), "/"), path, true)
	wantMatch(t, strings.Join(repeated(strings.Repeat("*", 20), impl.MaxParts), "/"), path, true)
	wantMatch(t, strings.Join(append(repeated("**", 5), strings.Repeat("a", 20)), "/"), path, true)
}

func TestLongTextsAreNoPaths(t *testing.T) {
	const size = 1 << 22
	endsSoon(t, "a long text", func() {
		for _, piece := range []string{"a", "/", "*", "**", "a/", "**/", "?", ".", "../", "\x00", "é"} {
			long := strings.Repeat(piece, size/len(piece))
			wantParts(t, long, false, false)
			wantMatch(t, "**", long, false)
			wantMatch(t, long, "a", false)
		}
	})
}
