package tests

import (
	"encoding/binary"
	"hash/fnv"
	"math"
	"math/rand"
	"slices"
	"strconv"
	"strings"
	"testing"

	"loop.example/kilntree/impl"
)

// plainSum is the sum as the standard library makes it.
func plainSum(text string, width int) string {
	h := fnv.New64a()
	h.Write([]byte(text))
	whole := binary.BigEndian.AppendUint64(nil, h.Sum64())
	return string(whole[8-width:])
}

// plainClash looks through all pairs in the order that the document names.
func plainClash(texts []string, width int) (string, string, bool) {
	for j := range texts {
		for i := range j {
			if texts[i] != texts[j] && plainSum(texts[i], width) == plainSum(texts[j], width) {
				return texts[i], texts[j], true
			}
		}
	}
	return "", "", false
}

// clashing has for each width two texts with one sum of just that width: one
// of a byte more tells them apart.
func clashing() [][2]string {
	return [][2]string{
		{"FlydpwsddgCx", "EqAjckBtnwfu"},
		{"glcaaaaa", "kidaaaaa"},
		{"wvFuzzsipxko", "CaxhszFEgFAn"},
		{"outglbuBClBo", "jlfpifhDxtun"},
		{"czrCxjBkBdzA", "sFfBvjDqFoCB"},
		{"aitfdepeskgx", "FArtcDCgvlel"},
		{"mulcCfqtkiEC", "okahacnzpvvl"},
		{"8yn0iYCKYHlIj4-BwPqk", "GReLUrM4wMqfg9yzV3KQ"},
	}
}

func noWidths() []int {
	return []int{0, -1, -8, impl.MaxWidth + 1, 64, math.MaxInt, math.MinInt}
}

func wantClash(t *testing.T, texts []string, width int, x, y string, ok bool) {
	t.Helper()
	kept := slices.Clone(texts)
	gotX, gotY, got := impl.Clash(texts, width)
	if gotX != x || gotY != y || got != ok {
		t.Errorf("width %d, %d texts: %q %q %v, want %q %q %v", width, len(texts), gotX, gotY, got, x, y, ok)
	}
	if !slices.Equal(kept, texts) {
		t.Errorf("width %d: the texts were changed", width)
	}
}

func TestSumLimits(t *testing.T) {
	if impl.MaxWidth != 8 || impl.MaxTexts != 3000 {
		t.Error(impl.MaxWidth, impl.MaxTexts)
	}
}

func TestSumIsThatOfTheDocument(t *testing.T) {
	for text, want := range map[string]string{
		"":       "\xcb\xf2\x9c\xe4\x84\x22\x23\x25",
		"a":      "\xaf\x63\xdc\x4c\x86\x01\xec\x8c",
		"foobar": "\x85\x94\x41\x71\xf7\x39\x67\xe8",
	} {
		for width := 1; width <= impl.MaxWidth; width++ {
			if got := impl.Sum(text, width); got != want[8-width:] {
				t.Errorf("%q, width %d: %x", text, width, got)
			}
		}
	}
	source := rand.New(rand.NewSource(1))
	for range 500 {
		b := make([]byte, source.Intn(60))
		source.Read(b)
		for width := 1; width <= impl.MaxWidth; width++ {
			if got := impl.Sum(string(b), width); got != plainSum(string(b), width) {
				t.Errorf("%q, width %d: %x", b, width, got)
			}
		}
	}
	for _, width := range noWidths() {
		if got := impl.Sum("a", width); got != "" {
			t.Errorf("width %d: %x", width, got)
		}
	}
}

func TestClashAtEveryWidth(t *testing.T) {
	for k, pair := range clashing() {
		x, y := pair[0], pair[1]
		for width := 1; width <= impl.MaxWidth; width++ {
			if width <= k+1 {
				wantClash(t, []string{x, y}, width, x, y, true)
				wantClash(t, []string{y, x, y, x}, width, y, x, true)
			} else {
				wantClash(t, []string{x, y, x}, width, "", "", false)
			}
		}
		for _, width := range noWidths() {
			wantClash(t, []string{x, y}, width, "", "", false)
		}
	}
}

func TestEqualTextsAreNoClash(t *testing.T) {
	for width := 1; width <= impl.MaxWidth; width++ {
		wantClash(t, nil, width, "", "", false)
		wantClash(t, []string{}, width, "", "", false)
		wantClash(t, []string{"a"}, width, "", "", false)
		wantClash(t, []string{"", ""}, width, "", "", false)
		wantClash(t, []string{"a", "b", "a", "b", "a"}, width, "", "", false)
		wantClash(t, make([]string, impl.MaxTexts), width, "", "", false)
	}
}

// texts0 are n different texts, no two of which have one sum of 8 bytes.
func texts0(n int) []string {
	list := []string{}
	for i := range n {
		list = append(list, "text "+strconv.Itoa(i))
	}
	return list
}

func TestClashTakesTheFirstPair(t *testing.T) {
	pairs := clashing()
	x, y := pairs[7][0], pairs[7][1]
	u, v := pairs[6][0], pairs[6][1]
	// u and v come first by i, x and y by j.
	wantClash(t, []string{u, x, y, v}, 7, x, y, true)
	wantClash(t, []string{u, x, v, y}, 7, u, v, true)
	wantClash(t, []string{u, x, v, y}, 8, x, y, true)
	wantClash(t, []string{u, u, x, x, x, u, y, v}, 7, x, y, true)
	source := rand.New(rand.NewSource(2))
	for range 400 {
		pool := texts0(1 + source.Intn(60))
		list := []string{}
		for range source.Intn(80) {
			list = append(list, pool[source.Intn(len(pool))])
		}
		for width := 1; width <= 3; width++ {
			a, b, ok := plainClash(list, width)
			wantClash(t, list, width, a, b, ok)
		}
	}
}

func TestClashAmongMaxTexts(t *testing.T) {
	for k, pair := range clashing() {
		width := k + 1
		list := slices.Repeat([]string{pair[0]}, impl.MaxTexts-1)
		wantClash(t, append(list, pair[1]), width, pair[0], pair[1], true)
		wantClash(t, append(list, pair[1], pair[0]), width, "", "", false)
	}
	pair := clashing()[7]
	list := texts0(impl.MaxTexts - 1)
	wantClash(t, append(list, pair[0]), 8, "", "", false)
	list[1] = pair[1]
	wantClash(t, append(list, pair[0]), 8, pair[1], pair[0], true)
	wantClash(t, append(list, pair[0], "z"), 8, "", "", false)
	wantClash(t, make([]string, impl.MaxTexts+1), 8, "", "", false)
}

func TestClashOfLongTexts(t *testing.T) {
	long := strings.Repeat("long", 100000)
	wantClash(t, []string{long, long}, 8, "", "", false)
	pair := clashing()[7]
	// What follows two texts with one sum leaves them with one sum.
	x, y := pair[0]+long, pair[1]+long
	wantClash(t, []string{long, x, x, y}, 8, x, y, true)
}
