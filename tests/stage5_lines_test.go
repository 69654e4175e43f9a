package tests

import (
	"cmp"
	"math/rand"
	"slices"
	"strconv"
	"strings"
	"testing"

	"loop.example/kilntree/impl"
)

func plainLines(text string) []string {
	lines, line := []string{}, ""
	if len(text) > 1500 {
		return lines
	}
	for i := range len(text) {
		line += text[i : i+1]
		if text[i] == '\n' {
			lines, line = append(lines, line), ""
		}
	}
	if line != "" {
		lines = append(lines, line)
	}
	return lines
}

// everyCommon is all lists of pairs of equal lines, from two places on.
func everyCommon(a, b []string, i, j int) [][]impl.Pair {
	lists := [][]impl.Pair{nil}
	for x := i; x < len(a); x++ {
		for y := j; y < len(b); y++ {
			if a[x] != b[y] {
				continue
			}
			for _, rest := range everyCommon(a, b, x+1, y+1) {
				lists = append(lists, slices.Concat([]impl.Pair{{I: x, J: y}}, rest))
			}
		}
	}
	return lists
}

// comparePairs puts longer lists first, and of equally long ones that with the
// lesser pairs.
func comparePairs(p, q []impl.Pair) int {
	return cmp.Or(cmp.Compare(len(q), len(p)), slices.CompareFunc(p, q, func(x, y impl.Pair) int {
		return cmp.Or(cmp.Compare(x.I, y.I), cmp.Compare(x.J, y.J))
	}))
}

// plainCommon is for lists that are too long to go through all lists of pairs.
func plainCommon(a, b []string) []impl.Pair {
	if len(a) > 1500 || len(b) > 1500 {
		return nil
	}
	longest := make([][]int, len(a)+1)
	longest[len(a)] = make([]int, len(b)+1)
	for i := len(a) - 1; i >= 0; i-- {
		longest[i] = make([]int, len(b)+1)
		for j := len(b) - 1; j >= 0; j-- {
			longest[i][j] = max(longest[i+1][j], longest[i][j+1])
			if a[i] == b[j] {
				longest[i][j] = max(longest[i][j], longest[i+1][j+1]+1)
			}
		}
	}
	pairs := []impl.Pair{}
	for i, j := 0, 0; longest[i][j] > 0; i++ {
		for y := j; y < len(b); y++ {
			if a[i] == b[y] && longest[i+1][y+1] == longest[i][j]-1 {
				pairs, j = append(pairs, impl.Pair{I: i, J: y}), y+1
				break
			}
		}
	}
	return pairs
}

// plainStretch is what comes out of three stretches.
func plainStretch(base, a, b []string) ([]string, bool) {
	switch {
	case slices.Equal(a, base):
		return b, true
	case slices.Equal(b, base), slices.Equal(a, b):
		return a, true
	}
	return nil, false
}

func partners(pairs []impl.Pair) map[int]int {
	js := map[int]int{}
	for _, p := range pairs {
		js[p.I] = p.J
	}
	return js
}

func plainMergeText(base, a, b string) (string, bool) {
	if len(base) > 1500 || len(a) > 1500 || len(b) > 1500 {
		return "", false
	}
	x, y, z := plainLines(base), plainLines(a), plainLines(b)
	inA, inB := partners(plainCommon(x, y)), partners(plainCommon(x, z))
	merged := []string{}
	fromX, fromY, fromZ := 0, 0, 0
	for i := range len(x) + 1 {
		toY, okY := inA[i]
		toZ, okZ := inB[i]
		if i == len(x) {
			toY, toZ, okY, okZ = len(y), len(z), true, true
		}
		if !okY || !okZ {
			continue
		}
		stretch, ok := plainStretch(x[fromX:i], y[fromY:toY], z[fromZ:toZ])
		if !ok {
			return "", false
		}
		merged = append(merged, stretch...)
		if i < len(x) {
			merged = append(merged, x[i])
		}
		fromX, fromY, fromZ = i+1, toY+1, toZ+1
	}
	return strings.Join(merged, ""), true
}

func letters(text string) []string { return strings.Split(text, "") }

// lined has a line for each letter.
func lined(text string) string {
	out := ""
	for _, letter := range letters(text) {
		out += letter + "\n"
	}
	return out
}

func pairsText(pairs []impl.Pair) string {
	words := []string{}
	for _, p := range pairs[:min(len(pairs), 30)] {
		words = append(words, strconv.Itoa(p.I)+":"+strconv.Itoa(p.J))
	}
	return strings.Join(words, " ")
}

// roomyTexts is a list with texts behind its end, and all of its room, kept.
func roomyTexts(texts []string) ([]string, []string) {
	room := append(slices.Clone(texts), "behind", "it")
	return room[:len(texts)], slices.Clone(room[:cap(room)])
}

func wantLines(t *testing.T, text string, want []string) {
	t.Helper()
	got := impl.Lines(text)
	if !slices.Equal(got, want) || !slices.Equal(plainLines(text), want) {
		t.Errorf("%.60q: %.200q", text, got)
	}
	wantApart(t, "lines", got, []string{text})
	over := got[:cap(got)]
	for i := range over {
		over[i] = "written over"
	}
	if again := impl.Lines(text); !slices.Equal(again, want) {
		t.Errorf("%.60q, once more: %.200q", text, again)
	}
}

func wantCommon(t *testing.T, a, b []string, want []impl.Pair) {
	t.Helper()
	x, keptX := roomyTexts(a)
	y, keptY := roomyTexts(b)
	got := impl.Common(x, y)
	if !slices.Equal(got, want) {
		t.Errorf("%.60q and %.60q: %s, want %s", a, b, pairsText(got), pairsText(want))
	}
	over := got[:cap(got)]
	for i := range over {
		over[i] = impl.Pair{I: -1, J: -1}
	}
	wantStays(t, "common", x, keptX)
	wantStays(t, "common", y, keptY)
}

func wantMergeText(t *testing.T, base, a, b string) (string, bool) {
	t.Helper()
	want, wantOK := plainMergeText(base, a, b)
	got, ok := impl.MergeText(base, a, b)
	if got != want || ok != wantOK {
		t.Errorf("%.60q, %.60q and %.60q: %.60q %t, want %.60q %t", base, a, b, got, ok, want, wantOK)
	}
	wantApart(t, "merge of texts", []string{got}, []string{base, a, b})
	return want, wantOK
}

// wantMergedText is for cases whose answer is written out; it holds for the
// sides either way round.
func wantMergedText(t *testing.T, base, a, b, want string, wantOK bool) {
	t.Helper()
	for range 2 {
		if got, ok := wantMergeText(t, base, a, b); got != want || ok != wantOK {
			t.Errorf("%.60q, %.60q and %.60q: the oracle says %.60q %t, want %.60q %t", base, a, b, got, ok, want, wantOK)
		}
		a, b = b, a
	}
}

func TestLinesOfTexts(t *testing.T) {
	wantLines(t, "", nil)
	for text, want := range map[string][]string{
		"a":            {"a"},
		"\n":           {"\n"},
		"a\n":          {"a\n"},
		"\na":          {"\n", "a"},
		"\n\n":         {"\n", "\n"},
		"a\nb":         {"a\n", "b"},
		"a\nb\n":       {"a\n", "b\n"},
		"a\n\nb":       {"a\n", "\n", "b"},
		"\n\na\n\n":    {"\n", "\n", "a\n", "\n"},
		"a\r\nb\rc\n":  {"a\r\n", "b\rc\n"},
		" \t\n ":       {" \t\n", " "},
		"\x00\n\xff":   {"\x00\n", "\xff"},
		"é\u2028\nü":   {"é\u2028\n", "ü"},
		"same\nsame\n": {"same\n", "same\n"},
	} {
		wantLines(t, text, want)
	}
	for _, text := range allTexts("a\n\r", 6) {
		want := plainLines(text)
		wantLines(t, text, want)
		if strings.Join(impl.Lines(text), "") != text {
			t.Errorf("%q", text)
		}
	}
}

func TestLinesOfLongTexts(t *testing.T) {
	wantLines(t, strings.Repeat("\n", impl.MaxText), repeated("\n", impl.MaxText))
	wantLines(t, strings.Repeat("\n", impl.MaxText+1), nil)
	wantLines(t, strings.Repeat("a", impl.MaxText), []string{strings.Repeat("a", impl.MaxText)})
	wantLines(t, strings.Repeat("a", impl.MaxText+1), nil)
	wantLines(t, strings.Repeat("a", impl.MaxText-1)+"\n", []string{strings.Repeat("a", impl.MaxText-1) + "\n"})
	wantLines(t, strings.Repeat("a", impl.MaxText)+"\n", nil)
	wantLines(t, strings.Repeat("ab\n", impl.MaxText/3), repeated("ab\n", impl.MaxText/3))
	wantLines(t, strings.Repeat("ab\n", impl.MaxText/3)+"a", nil)
	// Bytes are counted, not runes.
	wantLines(t, strings.Repeat("é", impl.MaxText/2)+"\n", nil)
	wantLines(t, strings.Repeat("a\n", 1<<21), nil)
}

func TestCommonPairs(t *testing.T) {
	for _, c := range []struct{ a, b, want string }{
		{"", "", ""}, {"", "a", ""}, {"a", "", ""}, {"a", "b", ""}, {"a", "a", "0:0"},
		{"abc", "abc", "0:0 1:1 2:2"}, {"abc", "abd", "0:0 1:1"}, {"xbc", "abc", "1:1 2:2"},
		{"ab", "ba", "0:1"}, {"ba", "ab", "0:1"}, {"abc", "cba", "0:2"},
		// Of several places the least, in a and then in b.
		{"a", "aa", "0:0"}, {"aa", "a", "0:0"}, {"aa", "aaa", "0:0 1:1"}, {"aab", "ab", "0:0 2:1"}, {"ab", "aab", "0:0 1:2"}, {"ab", "abb", "0:0 1:1"},
		{"xaxa", "ayay", "1:0 3:2"}, {"abab", "baba", "0:1 1:2 2:3"}, {"baba", "abab", "0:1 1:2 2:3"},
		// The first equal line is not in a longest list, or is in one alone.
		{"abcd", "bcda", "1:0 2:1 3:2"}, {"xabc", "abcx", "1:0 2:1 3:2"}, {"abxy", "xyab", "0:2 1:3"}, {"abcxy", "xyzabc", "0:3 1:4 2:5"},
		{"acbd", "abcd", "0:0 1:2 3:3"}, {"abcd", "acbd", "0:0 1:2 3:3"}, {"abacx", "xabca", "0:1 1:2 2:4"},
	} {
		a, b := letters(c.a), letters(c.b)
		want := plainCommon(a, b)
		if pairsText(want) != c.want {
			t.Errorf("%s and %s: the oracle says %s", c.a, c.b, pairsText(want))
		}
		wantCommon(t, a, b, want)
	}
	// A line is any text: empty, with newlines, or the beginning of another one.
	wantCommon(t, []string{"", "a", "\n"}, []string{"\n", "", "a\n", "a"}, []impl.Pair{{I: 0, J: 1}, {I: 1, J: 3}})
	wantCommon(t, []string{"a\n", "b"}, []string{"a", "b\n"}, nil)
	wantCommon(t, []string{"a\nb"}, []string{"a\n", "b"}, nil)
	wantCommon(t, nil, nil, nil)
	wantCommon(t, nil, []string{""}, nil)
}

// Promise 9: held against all lists of pairs.
func TestCommonIsTheLeastOfTheLongest(t *testing.T) {
	several := 0
	for _, of := range []struct {
		letters string
		n       int
	}{{"ab", 5}, {"abc", 4}, {"abcd", 3}} {
		texts := allTexts(of.letters, of.n)
		for _, x := range texts {
			for _, y := range texts {
				a, b := letters(x), letters(y)
				every := everyCommon(a, b, 0, 0)
				want := slices.MinFunc(every, comparePairs)
				wantCommon(t, a, b, want)
				if !slices.Equal(plainCommon(a, b), want) {
					t.Errorf("%s and %s: the oracle says %s", x, y, pairsText(plainCommon(a, b)))
				}
				for _, list := range every {
					if len(list) == len(want) && !slices.Equal(list, want) {
						several++
						break
					}
				}
			}
		}
	}
	if several < 5000 {
		t.Error(several)
	}
}

// longestCommon is how long a longest list of pairs is, from the front.
func longestCommon(a, b []string) int {
	row := make([]int, len(b)+1)
	for _, line := range a {
		next := make([]int, len(b)+1)
		for j := range b {
			next[j+1] = max(next[j], row[j+1])
			if line == b[j] {
				next[j+1] = max(next[j+1], row[j]+1)
			}
		}
		row = next
	}
	return row[len(b)]
}

// wantLongest is promise 9 of two lists.
func wantLongest(t *testing.T, a, b []string) {
	t.Helper()
	got := impl.Common(a, b)
	for n, p := range got {
		if p.I < 0 || p.J < 0 || p.I >= len(a) || p.J >= len(b) || a[p.I] != b[p.J] {
			t.Errorf("pair %d: %d %d", n, p.I, p.J)
		}
		if n > 0 && (p.I <= got[n-1].I || p.J <= got[n-1].J) {
			t.Errorf("pairs %d and %d do not ascend", n-1, n)
		}
	}
	if want := longestCommon(a, b); len(got) != want {
		t.Errorf("%d pairs, want %d", len(got), want)
	}
}

func randomLetters(source *rand.Rand, letters, n int) []string {
	lines := []string{}
	for range n {
		lines = append(lines, strconv.Itoa(source.Intn(letters)))
	}
	return lines
}

func TestCommonOfRandomLists(t *testing.T) {
	source := rand.New(rand.NewSource(71))
	for i := range 3000 {
		kinds := []int{1, 2, 3, 5, 10, 40}[i%6]
		a := randomLetters(source, kinds, source.Intn(40))
		b := randomLetters(source, kinds, source.Intn(40))
		wantCommon(t, a, b, plainCommon(a, b))
		wantCommon(t, b, a, plainCommon(b, a))
		wantLongest(t, a, b)
	}
	for _, kinds := range []int{2, 3, 50, 1500} {
		a, b := randomLetters(source, kinds, impl.MaxText), randomLetters(source, kinds, impl.MaxText-source.Intn(3))
		wantCommon(t, a, b, plainCommon(a, b))
		wantLongest(t, a, b)
	}
}

// sloped has n pairs, from two places on.
func sloped(i, j, n int) []impl.Pair {
	pairs := []impl.Pair{}
	for k := range n {
		pairs = append(pairs, impl.Pair{I: i + k, J: j + k})
	}
	return pairs
}

func TestCommonOfLongLists(t *testing.T) {
	const n = impl.MaxText
	same, other, each := repeated("a", n), repeated("b", n), []string{}
	for i := range n {
		each = append(each, strconv.Itoa(i))
	}
	back := slices.Clone(each)
	slices.Reverse(back)
	wantCommon(t, same, same, sloped(0, 0, n))
	wantCommon(t, same, other, nil)
	wantCommon(t, each, each, sloped(0, 0, n))
	wantCommon(t, each, back, []impl.Pair{{I: 0, J: n - 1}})
	wantCommon(t, same, []string{"a"}, sloped(0, 0, 1))
	wantCommon(t, []string{"a"}, same, sloped(0, 0, 1))
	wantCommon(t, append(repeated("b", n-1), "a"), same, []impl.Pair{{I: n - 1, J: 0}})
	wantCommon(t, same, append(repeated("b", n-1), "a"), []impl.Pair{{I: 0, J: n - 1}})
	wantCommon(t, each, slices.Concat(each[700:], each[:700]), sloped(700, 0, 800))
	wantCommon(t, each, slices.Concat(each[750:], each[:750]), sloped(0, 750, 750))
	wantCommon(t, same, nil, nil)
	wantCommon(t, nil, same, nil)
	// One more.
	more := append(slices.Clone(same), "a")
	wantCommon(t, more, same, nil)
	wantCommon(t, same, more, nil)
	wantCommon(t, more, more, nil)
	wantCommon(t, more, []string{"a"}, nil)
	wantCommon(t, []string{"a"}, more, nil)
	great := make([]string, 1<<20)
	endsSoon(t, "common of great lists", func() {
		for range 100 {
			if len(impl.Common(great, great))+len(impl.Common(great, same))+len(impl.Common(same, great)) != 0 {
				t.Error("pairs")
			}
		}
	})
}

func TestTextsThatMerge(t *testing.T) {
	for _, c := range []struct {
		base, a, b, want string
		ok               bool
	}{
		{"", "", "", "", true}, {"abc", "abc", "abc", "abc", true},
		// One side alone changes.
		{"abc", "abc", "axc", "axc", true}, {"abc", "abc", "", "", true}, {"", "", "abc", "abc", true}, {"abc", "abc", "cba", "cba", true},
		// In front of the first line that stands, and behind the last one.
		{"abc", "xabc", "abc", "xabc", true}, {"abc", "abcx", "abc", "abcx", true}, {"abc", "xabc", "abcy", "xabcy", true},
		{"abc", "bc", "ab", "b", true}, {"abc", "xbc", "aby", "xby", true}, {"abc", "xbc", "ybc", "", false}, {"abc", "abx", "aby", "", false},
		{"abc", "xabc", "yabc", "", false}, {"abc", "abcx", "abcy", "", false}, {"abc", "xabc", "xabc", "xabc", true}, {"abc", "abcx", "abcx", "abcx", true},
		// Between them.
		{"abc", "axc", "ayc", "", false}, {"abc", "axc", "axc", "axc", true}, {"abc", "ac", "ac", "ac", true}, {"abc", "ac", "axc", "", false},
		{"ab", "axb", "ayb", "", false}, {"ab", "axb", "axb", "axb", true}, {"ab", "axb", "ab", "axb", true}, {"abcd", "axcd", "abyd", "", false}, {"abcde", "axcde", "abcye", "axcye", true},
		// Both sides change one stretch in one way, and another one in two.
		{"abcde", "axcye", "axcde", "axcye", true}, {"abcde", "axcye", "axcze", "", false}, {"abcde", "axcye", "azcye", "", false}, {"abcde", "axcye", "axcye", "axcye", true},
		// A line stands with one side alone, or with neither.
		{"abc", "ac", "abcd", "acd", true}, {"ab", "b", "a", "", false}, {"abc", "ac", "ab", "", false}, {"abcd", "acd", "abd", "", false}, {"abcde", "acde", "abce", "ace", true},
		{"ab", "x", "ab", "x", true}, {"ab", "x", "y", "", false}, {"ab", "x", "x", "x", true}, {"ab", "", "", "", true}, {"abc", "", "abx", "", false},
		// A line is in both sides, and in one pair alone, or in none.
		{"ab", "ba", "ab", "ba", true}, {"ab", "ba", "abx", "", false}, {"ab", "ba", "xab", "", false}, {"abc", "cab", "abcx", "", false}, {"abc", "cab", "axbc", "caxb", true}, {"ab", "ba", "ba", "ba", true},
		// The first of several equal lines stands.
		{"aa", "a", "aax", "", false}, {"aa", "a", "xaa", "xa", true}, {"aa", "a", "axa", "", false}, {"a", "aa", "xa", "xaa", true}, {"a", "aa", "ax", "", false}, {"aaa", "aa", "aaaa", "", false}, {"aba", "a", "xaba", "xa", true},
		{"", "x", "y", "", false}, {"", "x", "x", "x", true}, {"", "x", "", "x", true},
	} {
		wantMergedText(t, lined(c.base), lined(c.a), lined(c.b), lined(c.want), c.ok)
	}
}

func TestTextsWithoutANewlineAtTheirEndMerge(t *testing.T) {
	for _, c := range []struct {
		base, a, b, want string
		ok               bool
	}{
		{"a", "a\n", "a", "a\n", true}, {"a\n", "a", "a\n", "a", true}, {"a", "a\n", "a\n", "a\n", true}, {"a", "a\n", "a\nb", "", false},
		{"a\nb", "x\na\nb", "a\nb", "x\na\nb", true}, {"a\nb", "x\na\nb", "a\nb\n", "x\na\nb\n", true}, {"a\nb", "a\nb\nc", "a\nb", "a\nb\nc", true},
		{"a\nb\n", "a\nb", "x\na\nb\n", "x\na\nb", true}, {"a\nb\n", "a\nb", "a\nb\nc\n", "", false}, {"a\nb", "a\n", "x\nb", "", false}, {"a\nb\nc", "a\nb\n", "x\nb\nc", "x\nb\n", true},
		{"a", "b", "a", "b", true}, {"a", "b", "c", "", false}, {"", "\n", "", "\n", true}, {"", "\n", "\n\n", "", false}, {"\n", "\n\n", "x\n\n", "x\n\n\n", true},
		{"a\r\n", "a\n", "a\r\n", "a\n", true}, {"\x00\n\xff", "\x00\n", "\x01\n\x00\n\xff", "\x01\n\x00\n", true},
	} {
		wantMergedText(t, c.base, c.a, c.b, c.want, c.ok)
	}
}

func TestLongTextsMerge(t *testing.T) {
	const n = impl.MaxText
	full, more := strings.Repeat("a", n), strings.Repeat("a", n+1)
	newlines := strings.Repeat("\n", n)
	wantMergedText(t, full, full, full, full, true)
	wantMergedText(t, newlines, newlines, newlines, newlines, true)
	wantMergedText(t, full, newlines, full, newlines, true)
	wantMergedText(t, newlines, full, newlines, full, true)
	wantMergedText(t, "", full, "", full, true)
	wantMergedText(t, full, "", full, "", true)
	wantMergedText(t, "", full, newlines, "", false)
	wantMergedText(t, newlines, newlines[1:], newlines, newlines[1:], true)
	wantMergedText(t, newlines[1:], "a"+newlines[1:], newlines, "", false)
	// One more: no text of the three may have it.
	for _, long := range []string{more, newlines + "\n", full + "\n"} {
		for _, text := range []string{"", "a", full, newlines} {
			wantMergedText(t, text, text, long, "", false)
			wantMergedText(t, text, long, long, "", false)
			wantMergedText(t, long, text, text, "", false)
			wantMergedText(t, long, long, text, "", false)
		}
		wantMergedText(t, long, long, long, "", false)
	}
	// What comes out may have more, up to both sides without base.
	front, behind := strings.Repeat("f\n", n/2-1), strings.Repeat("b\n", n/2-1)
	wantMergedText(t, "m\n", front+"m\n", "m\n"+behind, front+"m\n"+behind, true)
	wantMergedText(t, "m\n", strings.Repeat("f", n-3)+"\nm\n", "m\nx\n", strings.Repeat("f", n-3)+"\nm\nx\n", true)
	wantMergedText(t, "m\n", strings.Repeat("f", n-5)+"\nm\n", "m\nx\n", strings.Repeat("f", n-5)+"\nm\nx\n", true)
	wantMergedText(t, "m\n", strings.Repeat("f", n-4)+"\nm\n", "m\nx\n", strings.Repeat("f", n-4)+"\nm\nx\n", true)
	great := strings.Repeat("a\n", 1<<21)
	endsSoon(t, "a merge of great texts", func() {
		for range 100 {
			if s, ok := impl.MergeText(great, great, great); ok || s != "" {
				t.Error(ok)
			}
		}
	})
}

// wantMergePromises is promise 10 of three texts.
func wantMergePromises(t *testing.T, base, a, b string) {
	t.Helper()
	x, okX := impl.MergeText(base, a, b)
	y, okY := impl.MergeText(base, b, a)
	if x != y || okX != okY || !okX && x != "" {
		t.Errorf("%.60q, %.60q and %.60q: %.60q %t, the other way round %.60q %t", base, a, b, x, okX, y, okY)
	}
	if got, ok := impl.MergeText(base, base, b); got != b || !ok {
		t.Errorf("%.60q, twice, and %.60q: %.60q %t", base, b, got, ok)
	}
	if got, ok := impl.MergeText(base, a, a); got != a || !ok {
		t.Errorf("%.60q, and %.60q twice: %.60q %t", base, a, got, ok)
	}
}

// Promise 10.
func TestEveryThreeSmallTextsMerge(t *testing.T) {
	merged, not := 0, 0
	for _, texts := range [][]string{allTexts("a\n", 4), allTexts("ab\n", 3), linedTexts("ab", 4), linedTexts("abc", 3)} {
		for _, base := range texts {
			for _, a := range texts {
				for _, b := range texts {
					if _, ok := wantMergeText(t, base, a, b); ok {
						merged++
					} else {
						not++
					}
					wantMergePromises(t, base, a, b)
				}
			}
		}
	}
	if merged < 10000 || not < 10000 {
		t.Error(merged, not)
	}
}

func linedTexts(letters string, n int) []string {
	texts := []string{}
	for _, text := range allTexts(letters, n) {
		texts = append(texts, lined(text))
	}
	return texts
}

// editedText has some of its lines changed, taken away, or put.
func editedText(source *rand.Rand, text string, edits int) string {
	lines := plainLines(text)
	for range edits {
		i := source.Intn(len(lines) + 1)
		line := strconv.Itoa(source.Intn(12)) + "\n"
		switch {
		case i == len(lines) || source.Intn(3) == 0:
			lines = slices.Insert(lines, i, line)
		case source.Intn(2) == 0:
			lines[i] = line
		default:
			lines = slices.Delete(lines, i, i+1)
		}
	}
	edited := strings.Join(lines, "")
	if source.Intn(8) == 0 {
		edited = strings.TrimSuffix(edited, "\n")
	}
	return edited
}

func TestRandomTextsMerge(t *testing.T) {
	source := rand.New(rand.NewSource(72))
	merged, not := 0, 0
	for i := range 6000 {
		base := editedText(source, "", source.Intn(30))
		a := editedText(source, base, source.Intn(4))
		b := editedText(source, base, source.Intn(4))
		if i%5 == 0 {
			b = editedText(source, a, source.Intn(2))
		}
		if _, ok := wantMergeText(t, base, a, b); ok {
			merged++
		} else {
			not++
		}
		wantMergePromises(t, base, a, b)
	}
	if merged < 1000 || not < 500 {
		t.Error(merged, not)
	}
	for range 10 {
		base := strings.Join(randomLetters(source, 10, impl.MaxText/2-10), "\n") + "\n"
		a, b := editedText(source, base, 5), editedText(source, base, 5)
		wantMergeText(t, base, a, b)
		wantMergePromises(t, base, a, b)
	}
}
