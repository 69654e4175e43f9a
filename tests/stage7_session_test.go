package tests

import (
	"fmt"
	"math/rand"
	"regexp"
	"slices"
	"strconv"
	"strings"
	"sync"
	"testing"

	"loop.example/kilntree/impl"
)

// lineForm is the form of a line: words, and behind them Q, of which all ways
// to write a byte are listed.
var lineForm = regexp.MustCompile(`^([^ "]+(?: [^ "]+)*)(?: "((?:[ !#-\[\]-~]|\\(?:[01][0-9a-f]|22|5c|7f|[89a-f][0-9a-f]))*)")?$`)

var writtenByte = regexp.MustCompile(`\\..`)

func plainUnquote(inside string) string {
	return writtenByte.ReplaceAllStringFunc(inside, func(written string) string {
		n, err := strconv.ParseUint(written[1:], 16, 8)
		if err != nil {
			panic(err)
		}
		return string([]byte{byte(n)})
	})
}

func plainQuote(text string) string {
	written := ""
	for i := range len(text) {
		if text[i] < 32 || text[i] > 126 || strings.Contains(`"\`, text[i:i+1]) {
			written += fmt.Sprintf(`\%02x`, text[i])
		} else {
			written += text[i : i+1]
		}
	}
	return `"` + written + `"`
}

// plainTrees are the named trees of a session.
type plainTrees map[string]impl.Tree

func (s plainTrees) keep(name string, x impl.Tree, code int) string {
	if code == 0 {
		s[name] = x
	}
	return "code " + strconv.Itoa(code)
}

func orMinus(words []string) string {
	if len(words) == 0 {
		return "-"
	}
	return strings.Join(words, " ")
}

func (s plainTrees) answer(line string) string {
	at := lineForm.FindStringSubmatchIndex(line)
	if at == nil {
		return "bad"
	}
	words := strings.Split(line[at[2]:at[3]], " ")
	form := words[0] + strings.Repeat(" _", len(words)-1)
	if at[4] >= 0 {
		form += " Q"
		return s.put(form, words, plainUnquote(line[at[4]:at[5]]))
	}
	if strings.HasPrefix(form, "pick _ _") {
		s[words[1]] = plainPick(s[words[1]], words[2:])
		return strconv.Itoa(len(s[words[1]].Entries))
	}
	for len(words) < 4 {
		words = append(words, "")
	}
	if told := s.ask(form, words[1], words[2], words[3]); told != "" {
		return told
	}
	return s.change(form, words[1], words[2], words[3])
}

func (s plainTrees) put(form string, words []string, text string) string {
	if form != "put _ _ Q" && form != "run _ _ Q" {
		return "bad"
	}
	x, code := plainPut(s[words[1]], impl.Entry{Path: words[2], Text: text, Runs: words[0] == "run"})
	return s.keep(words[1], x, code)
}

// change does the lines that name trees.
func (s plainTrees) change(form, first, second, third string) string {
	switch form {
	case "del _ _":
		x, code := plainRemove(s[first], second)
		return s.keep(first, x, code)
	case "copy _ _":
		s[second] = s[first]
		return "ok"
	case "under _ _ _":
		s[third] = plainUnder(s[first], second)
		return "ok"
	case "mount _ _ _":
		x, code := plainMount(s[first], second, s[third])
		return s.keep(first, x, code)
	case "over _ _":
		x, code := plainOverlay(s[first], s[second])
		return s.keep(first, x, code)
	case "merge _ _ _":
		m := plainMerge(s[first], s[second], s[third])
		told := s.keep(first, m.Tree, m.Code)
		for _, path := range m.Clashes {
			told += " " + path
		}
		return told
	}
	return "bad"
}

// ask does the lines that change nothing; no text for all others.
func (s plainTrees) ask(form, first, second, third string) string {
	switch form {
	case "diff _ _":
		marked := []string{}
		for _, c := range plainDiff(s[first], s[second]).Changes {
			marks := map[[2]bool]string{{false, true}: "+", {true, false}: "-", {true, true}: "~"}
			marked = append(marked, marks[[2]bool{c.Old.There, c.New.There}]+c.Path)
		}
		return orMinus(marked)
	case "list _":
		return orMinus(strings.Fields(treePaths(s[first])))
	case "show _ _":
		if e, ok := plainGet(s[first], second); ok {
			return plainQuote(e.Text)
		}
		return "none"
	case "sum _ _":
		if !regexp.MustCompile(`^[0-9]$`).MatchString(second) {
			return "bad"
		}
		if second == "0" || second == "9" {
			return "none"
		}
		width, _ := strconv.Atoi(second)
		return plainDigits2(plainTreeSum(s[first], width))
	case "proof _ _ _":
		shown := plainShow(plainTreeSum(s[third], 8), second, plainProve(s[first], second, 8), 8)
		there := map[bool]string{true: "0 there", false: "0 not there"}
		if shown.Code == 0 {
			return there[shown.There]
		}
		return strconv.Itoa(shown.Code)
	}
	return ""
}

func plainSession(text string) string {
	lines := strings.SplitAfter(text, "\n")
	if lines[len(lines)-1] == "" {
		lines = lines[:len(lines)-1]
	}
	if len(text) > 20000 || len(lines) > 400 {
		return "too long\n"
	}
	trees, told := plainTrees{}, ""
	for _, line := range lines {
		told += trees.answer(strings.TrimSuffix(line, "\n")) + "\n"
	}
	return told
}

// wantSession holds a session against the oracle, and gives its answer.
func wantSession(t *testing.T, text string) string {
	t.Helper()
	want := plainSession(text)
	got := impl.Session(text)
	if got != want {
		asked, told, wanted := strings.Split(text, "\n"), strings.Split(got, "\n"), strings.Split(want, "\n")
		for i := range max(len(told), len(wanted)) {
			if i >= min(len(told), len(wanted)) || told[i] != wanted[i] {
				t.Errorf("of %d lines of %.300q: line %d %.200q: answer %.200q, want %.200q", len(asked), text, i,
					lineAt(asked, i), lineAt(told, i), lineAt(wanted, i))
				break
			}
		}
	}
	if shareBytes(got, text) {
		t.Errorf("the answer to %.300q lies in its memory", text)
	}
	return got
}

func lineAt(lines []string, i int) string {
	if i < len(lines) {
		return lines[i]
	}
	return "(no line)"
}

// wantFirstLines is promise 15: of lines and their answers each number of
// first ones is a session, too, whether its last line has a newline or not.
func wantFirstLines(t *testing.T, lines, answers []string) {
	t.Helper()
	if len(lines) != len(answers) {
		t.Errorf("%d lines, %d answers", len(lines), len(answers))
		return
	}
	for n := range len(lines) + 1 {
		text, want := joined(lines[:n]), joined(answers[:n])
		if got := impl.Session(text); got != want {
			t.Errorf("of %d lines %.500q: %.500q, want %.500q", n, text, got, want)
		}
		if n == 0 || lines[n-1] == "" {
			continue
		}
		text = strings.TrimSuffix(text, "\n")
		if got := impl.Session(text); got != want {
			t.Errorf("of %d lines without a last newline %.500q: %.500q, want %.500q", n, text, got, want)
		}
	}
}

// joined has a newline behind each line.
func joined(lines []string) string {
	text := ""
	for _, line := range lines {
		text += line + "\n"
	}
	return text
}

// wantTalk reads lines of the form `line => answer`: each answer is written
// out, and the oracle has it too.
func wantTalk(t *testing.T, talk string) {
	t.Helper()
	lines, answers := talkLines(talk)
	if got := wantSession(t, joined(lines)); got != joined(answers) {
		told := strings.Split(got, "\n")
		for i := range answers {
			if lineAt(told, i) != answers[i] {
				t.Errorf("line %d, %.200q: the oracle says %.200q, want %.200q", i, lines[i], lineAt(told, i), answers[i])
				return
			}
		}
		t.Errorf("%d answers to %d lines", len(told)-1, len(lines))
	}
	wantFirstLines(t, lines, answers)
}

func talkLines(talk string) (lines, answers []string) {
	for _, both := range strings.Split(strings.Trim(talk, "\n"), "\n") {
		at := strings.LastIndex(both, " => ")
		lines, answers = append(lines, both[:at]), append(answers, both[at+len(" => "):])
	}
	return lines, answers
}

// asked has the same answer to each line.
func asked(answer string, lines ...string) string {
	talk := ""
	for _, line := range lines {
		talk += line + " => " + answer + "\n"
	}
	return talk
}

func TestSessionLimits(t *testing.T) {
	if impl.MaxSession != 20000 || impl.MaxLines != 400 {
		t.Errorf("%d, %d", impl.MaxSession, impl.MaxLines)
	}
}

func TestTheExampleOfSessions(t *testing.T) {
	wantTalk(t, `
put a lib/x "one\0a" => code 0
put a main "two" => code 0
copy a b => ok
put b lib/x "one\0amore\0a" => code 0
copy a c => ok
run c lib/x "zero\0aone\0a" => code 0
merge a b c => code 0
show a lib/x => "zero\0aone\0amore\0a"
diff b a => ~lib/x
proof b lib/x b => 0 there
proof b lib/x c => 2
`)
}

func TestPutsInSessions(t *testing.T) {
	wantTalk(t, `
put a b/x "1" => code 0
put a b "2" => code 3
list a => b/x
put a b/x/y "2" => code 3
list a => b/x
show a b/x => "1"
put a b/x "2" => code 0
show a b/x => "2"
put a c "" => code 0
show a c => ""
put a /c "3" => code 2
put a c/ "3" => code 2
put a b//y "3" => code 2
put a * "3" => code 2
put a .. "3" => code 2
put a a/b/c/d/e/f "6" => code 0
put a b/b/c/d/e/f/g "7" => code 2
put a aaaaaaaaaaaaaaaaaaaa "20" => code 0
put a aaaaaaaaaaaaaaaaaaaaa "21" => code 2
list a => a/b/c/d/e/f aaaaaaaaaaaaaaaaaaaa b/x c
run a c "3" => code 0
show a c => "3"
run a b "3" => code 3
run a c/d "3" => code 3
run a c? "3" => code 2
list b => -
list a => a/b/c/d/e/f aaaaaaaaaaaaaaaaaaaa b/x c
`)
}

func TestRunsInSessions(t *testing.T) {
	wantTalk(t, `
put a x "1" => code 0
run b x "1" => code 0
diff a b => ~x
diff b a => ~x
show a x => "1"
show b x => "1"
run a x "1" => code 0
diff a b => -
put b x "1" => code 0
diff a b => ~x
put c x "1" => code 0
diff b c => -
proof a x b => 2
proof b x c => 0 there
`)
}

func TestTextsOfMaxTextInSessions(t *testing.T) {
	full, more := strings.Repeat("t", impl.MaxText), strings.Repeat("t", impl.MaxText+1)
	wantTalk(t, strings.Join([]string{
		`put a x "` + full + `" => code 0`,
		`put a x "` + more + `" => code 2`,
		`run a y "` + more + `" => code 2`,
		`run a y "` + full + `" => code 0`,
		`list a => x y`,
		`show a x => "` + full + `"`,
	}, "\n"))
	// What is counted is bytes of the text, not of its Q.
	wantTalk(t, strings.Join([]string{
		`put a x "` + strings.Repeat(`\00`, impl.MaxText) + `" => code 0`,
		`put a x "` + strings.Repeat(`\ff`, impl.MaxText+1) + `" => code 2`,
		`show a x => "` + strings.Repeat(`\00`, impl.MaxText) + `"`,
	}, "\n"))
}

// manyPuts has a line for each of n files, with from in front of their names.
func manyPuts(name, from string, n int) string {
	talk := ""
	for i := range n {
		talk += "put " + name + " " + from + strconv.Itoa(100+i) + ` "" => code 0` + "\n"
	}
	return talk
}

// paths100 are the paths of n such files.
func paths100(from string, n int) string {
	paths := []string{}
	for i := range n {
		paths = append(paths, from+strconv.Itoa(100+i))
	}
	return strings.Join(paths, " ")
}

func TestFullTreesInSessions(t *testing.T) {
	full := paths100("f", impl.MaxEntries)
	wantTalk(t, manyPuts("a", "f", impl.MaxEntries)+
		"put a g \"1\" => code 4\n"+
		"run a g \"1\" => code 4\n"+
		"list a => "+full+"\n"+
		"put a f100 \"1\" => code 0\n"+
		"show a f100 => \"1\"\n"+
		"put b g \"1\" => code 0\n"+
		"mount a d b => code 4\n"+
		"over a b => code 4\n"+
		"list a => "+full+"\n"+
		"over b a => code 4\n"+
		"list b => g\n"+
		"merge c a b => code 3\n"+
		"list c => -\n"+
		"del a f199 => code 0\n"+
		"mount a d b => code 0\n"+
		"list a => d/g "+paths100("f", impl.MaxEntries-1)+"\n"+
		"del a d/g => code 0\n"+
		"merge c b a => code 0\n"+
		"over a b => code 0\n"+
		"diff a c => -\n"+
		"list c => "+paths100("f", impl.MaxEntries-1)+" g\n"+
		"pick c ** => 100\n"+
		"pick c f1?? => 99\n")
}

func TestDelsInSessions(t *testing.T) {
	wantTalk(t, `
del a x => code 4
put a x "1" => code 0
put a d/y "2" => code 0
del a z => code 4
del a d => code 4
del a y => code 4
del a * => code 4
del a x/ => code 4
list a => d/y x
del a x => code 0
list a => d/y
del a x => code 4
del b d/y => code 4
del a d/y => code 0
list a => -
put a d "3" => code 0
`)
}

func TestCopiesInSessions(t *testing.T) {
	wantTalk(t, `
put a x "1" => code 0
copy a b => ok
list b => x
put a y "2" => code 0
list b => x
put b z "3" => code 0
list a => x y
list b => x z
copy b a => ok
list a => x z
copy c a => ok
list a => -
list b => x z
copy b b => ok
list b => x z
copy c d => ok
list d => -
run b x "1" => code 0
copy b e => ok
diff b e => -
diff a e => +x +z
`)
}

func TestUndersInSessions(t *testing.T) {
	wantTalk(t, `
put a d/x "1" => code 0
run a d/e/y "2" => code 0
put a z "3" => code 0
under a d b => ok
list b => e/y x
show b e/y => "2"
list a => d/e/y d/x z
under a d/e b => ok
list b => y
under a z b => ok
list b => -
under a d c => ok
under a d/ c => ok
list c => -
under a d c => ok
under a ** c => ok
list c => -
under a d a => ok
list a => e/y x
under n d a => ok
list a => -
run f e/y "2" => code 0
under f e g => ok
run h y "2" => code 0
diff g h => -
`)
}

func TestMountsInSessions(t *testing.T) {
	wantTalk(t, `
put a x "1" => code 0
put a d/old "2" => code 0
run s y "3" => code 0
put s e/z "4" => code 0
mount a d s => code 0
list a => d/e/z d/y x
show a d/y => "3"
list s => e/z y
mount a x s => code 3
mount a x/y s => code 3
mount a d/y n => code 3
mount a * s => code 1
mount a d/ s => code 1
mount a a/b/c/d/e s => code 2
mount n a/b/c/d/e s => code 2
list n => -
list a => d/e/z d/y x
mount a a/b/c/d s => code 0
list a => a/b/c/d/e/z a/b/c/d/y d/e/z d/y x
mount a a n => code 0
list a => d/e/z d/y x
mount a d a => code 0
list a => d/d/e/z d/d/y d/x x
mount n d s => code 0
list n => d/e/z d/y
under n d m => ok
diff m s => -
mount q d q => code 0
list q => -
`)
}

func TestPicksInSessions(t *testing.T) {
	globs := strings.Repeat(" z", impl.MaxGlobs-1)
	wantTalk(t, `
put a x "1" => code 0
run a d/x "2" => code 0
put a d/e/y "3" => code 0
put a z "4" => code 0
pick a ** => 4
copy a b => ok
pick b x => 1
list b => x
copy a b => ok
pick b x gone z => 2
list b => x z
copy a b => ok
pick b **/x d/** => 3
list b => d/e/y d/x x
copy a b => ok
pick b x x x => 1
copy a b => ok
pick b gone => 0
list b => -
pick n ** => 0
copy a b => ok
pick b .. d//x a/ x => 1
list b => x
copy a b => ok
pick b d => 0
copy a b => ok
pick b x`+globs+` => 2
copy a b => ok
pick b x z`+globs+` => 0
list b => -
pick a d/? => 1
show a d/x => "2"
run c d/x "2" => code 0
diff a c => -
`)
}

func TestOversInSessions(t *testing.T) {
	wantTalk(t, `
put a x "1" => code 0
put a d/y "2" => code 0
put b x "3" => code 0
run b d "4" => code 0
put b z "5" => code 0
copy a c => ok
over c b => code 0
list c => d x z
show c x => "3"
list b => d x z
diff b c => -
copy b c => ok
over c a => code 0
list c => d/y x z
show c x => "1"
over a n => code 0
list a => d/y x
over n a => code 0
diff n a => -
over a a => code 0
list a => d/y x
over p q => code 0
list p => -
`)
}

func TestMergesInSessions(t *testing.T) {
	wantTalk(t, `
put o x "1\0a2\0a3\0a" => code 0
put o y "y" => code 0
copy o a => ok
copy o b => ok
put a x "0\0a1\0a2\0a3\0a" => code 0
run b x "1\0a2\0a3\0a4\0a" => code 0
del b y => code 0
put a d/z "z" => code 0
copy o m => ok
merge m a b => code 0
list m => d/z x
show m x => "0\0a1\0a2\0a3\0a4\0a"
list o => x y
list a => d/z x y
list b => x
put c x "0\0a1\0a2\0a3\0a4\0a" => code 0
diff c m => +d/z ~x
run c x "0\0a1\0a2\0a3\0a4\0a" => code 0
diff c m => +d/z
put b d/z "w" => code 0
put b x "9\0a2\0a3\0a" => code 0
copy o m => ok
merge m a b => code 2 d/z x
diff m o => -
merge m b a => code 2 d/z x
diff m o => -
del b d/z => code 0
merge m a b => code 2 x
copy o m => ok
merge m o o => code 0
diff m o => -
merge m a a => code 0
diff m a => -
merge m m b => code 0
diff m b => -
merge m b m => code 0
diff m b => -
merge m m m => code 0
diff m b => -
merge n p q => code 0
list n => -
merge n n b => code 0
diff n b => -
`)
	wantTalk(t, `
put a d "1" => code 0
put a e/f "1" => code 0
put a g "1" => code 0
put b d/x "2" => code 0
put b e "2" => code 0
put b e/f/g "2" => code 3
merge n a b => code 3 d e
list n => -
put b g "2" => code 0
merge n a b => code 2 g
merge n b a => code 2 g
list a => d e/f g
list b => d/x e g
list n => -
merge a b n => code 2 g
list a => d e/f g
`)
}

// A text that comes out of a merge with more than MaxText bytes is a clash.
func TestMergedTextsOfMaxTextInSessions(t *testing.T) {
	half := strings.Repeat("h", impl.MaxText/2-2)
	wantTalk(t, strings.Join([]string{
		`put o x "m\0a" => code 0`,
		`put a x "` + half + `\0am\0a" => code 0`,
		`put b x "m\0a` + half + `\0a" => code 0`,
		`copy o m => ok`,
		`merge m a b => code 0`,
		`show m x => "` + half + `\0am\0a` + half + `\0a"`,
		`put b x "m\0a` + half + `h\0a" => code 0`,
		`merge o a b => code 2 x`,
		`show o x => "m\0a"`,
	}, "\n"))
}

func TestDiffsInSessions(t *testing.T) {
	wantTalk(t, `
diff a b => -
put a x "1" => code 0
diff a b => -x
diff b a => +x
diff a a => -
put b x "1" => code 0
diff a b => -
put b x "2" => code 0
diff a b => ~x
put b d/y "3" => code 0
put a z "4" => code 0
diff a b => +d/y ~x -z
diff b a => -d/y ~x +z
put a d "5" => code 0
diff a b => -d +d/y ~x -z
put a - "" => code 0
put a + "" => code 0
put b ~ "" => code 0
diff a b => -+ -- -d +d/y ~x -z +~
list a => + - d x z
diff n n => -
`)
}

func TestListsInSessions(t *testing.T) {
	wantTalk(t, `
list a => -
put a x "1" => code 0
list a => x
put a a/c "2" => code 0
put a a! "3" => code 0
put a a0 "4" => code 0
put a B "5" => code 0
list a => B a! a/c a0 x
list A => -
pick a x => 1
list a => x
del a x => code 0
list a => -
put a - "" => code 0
list a => -
del a - => code 0
del a - => code 4
`)
}

func TestShowsInSessions(t *testing.T) {
	all := []byte{}
	for b := range 256 {
		all = append(all, byte(b))
	}
	written := plainQuote(string(all))
	wantTalk(t, `
show a x => none
put a d/x "none" => code 0
show a d/x => "none"
show a d => none
show a x => none
show a d/x/y => none
show a d/* => none
show a / => none
show b d/x => none
put a x `+written+` => code 0
show a x => `+written+`
put a x "\22\5c\0a\0d\09\00\7f\80\ff " => code 0
show a x => "\22\5c\0a\0d\09\00\7f\80\ff "
run a x " / / -> é" => bad
put a x "\c3\a9" => code 0
show a x => "\c3\a9"
run a x " a  \22b\22  " => code 0
show a x => " a  \22b\22  "
run a x "" => code 0
show a x => ""
`)
}

func TestSumsInSessions(t *testing.T) {
	wantTalk(t, `
sum a 0 => none
sum a 1 => 25
sum a 2 => 2325
sum a 3 => 222325
sum a 4 => 84222325
sum a 5 => e484222325
sum a 6 => 9ce484222325
sum a 7 => f29ce484222325
sum a 8 => cbf29ce484222325
sum a 9 => none
sum a 10 => bad
sum a 00 => bad
sum a 08 => bad
sum a -1 => bad
sum a +1 => bad
sum a x => bad
sum a / => bad
sum a : => bad
sum a . => bad
sum a ٣ => bad
sum a ² => bad
sum a "1" => bad
sum a  => bad
sum a => bad
sum a 1 1 => bad
`)
	talk := "put a lib/x \"one\" => code 0\nrun a main \"\" => code 0\ncopy a b => ok\nput b main \"\" => code 0\n"
	for _, name := range []string{"a", "b", "n"} {
		x := map[string]impl.Tree{
			"a": {Entries: []impl.Entry{{Path: "lib/x", Text: "one"}, {Path: "main", Runs: true}}},
			"b": {Entries: []impl.Entry{{Path: "lib/x", Text: "one"}, {Path: "main"}}},
		}[name]
		for width := 1; width <= 8; width++ {
			talk += "sum " + name + " " + strconv.Itoa(width) + " => " + plainDigits(plainDirText(x, "", width), width) + "\n"
		}
		talk += asked("none", "sum "+name+" 0", "sum "+name+" 9")
	}
	wantTalk(t, talk)
}

func TestProofsInSessions(t *testing.T) {
	wantTalk(t, `
proof a x a => 0 not there
proof a x b => 0 not there
put a d/x "1" => code 0
run a y "2" => code 0
proof a d/x a => 0 there
proof a y a => 0 there
proof a d a => 0 not there
proof a d/y a => 0 not there
proof a d/x/z a => 0 not there
proof a y/z a => 0 not there
proof a z/z/z a => 0 not there
proof a d/x b => 2
proof b d/x a => 2
proof a z b => 2
proof a * a => 1
proof a /x a => 1
proof a d//x b => 1
proof a a/b/c/d/e/f a => 0 not there
proof a a/b/c/d/e/f/g a => 1
copy a b => ok
proof a d/x b => 0 there
proof b y a => 0 there
put b y "2" => code 0
proof a d/x b => 2
proof a y b => 2
run b y "2" => code 0
proof a y b => 0 there
put b d/x "3" => code 0
proof a y b => 2
proof b d/x b => 0 there
put c a/b/c/d/e/f "6" => code 0
proof c a/b/c/d/e/f c => 0 there
proof c a/b/c/d/e/g c => 0 not there
proof c a/b/c/d c => 0 not there
`)
}

// Two files with one sum of width 7: one of a byte more tells them apart.
func TestProofsInSessionsAreOfWidth8(t *testing.T) {
	lines := `put a x "jjc+hez-kfwb"
put b x "bt-mdbxAtxza"
proof a x b
proof b x a
proof a y b
proof b x b
sum a 7
sum b 7`
	answers := strings.Split(wantSession(t, lines), "\n")
	wantText(t, strings.Join(answers[:6], " "), "code 0 code 0 2 2 2 0 there")
	wantText(t, answers[6], answers[7])
}

// The sum alone is the second's; what is told is what the first has.
func TestProofsInSessionsOfTreesWithOneSum(t *testing.T) {
	talk := `
put a NAME "" => code 0
put b OTHER "" => code 0
diff a b => +OTHER -NAME
proof a NAME b => 0 there
proof b NAME a => 0 not there
proof a OTHER b => 0 not there
proof b OTHER a => 0 there
put b OTHER "1" => code 0
proof a NAME b => 2
proof b NAME a => 2
`
	wantTalk(t, strings.NewReplacer("NAME", sameSum, "OTHER", sameSum2).Replace(talk))
}

func TestTreesNamedTwiceInALine(t *testing.T) {
	wantTalk(t, `
put a d/x "1" => code 0
put a d/d/x "2" => code 0
run a y "3" => code 0
copy a a => ok
over a a => code 0
merge a a a => code 0
diff a a => -
proof a d/x a => 0 there
list a => d/d/x d/x y
mount a e a => code 0
list a => d/d/x d/x e/d/d/x e/d/x e/y y
under a e a => ok
list a => d/d/x d/x y
under a d a => ok
list a => d/x x
merge a b b => code 0
list a => -
mount a d a => code 0
under a d a => ok
over a a => code 0
merge a a a => code 0
copy a a => ok
list a => -
`)
}

// Every word but Q may name a tree: a command, a path, a mark.
func TestNamesOfTrees(t *testing.T) {
	names := []string{"put", "list", "bad", "-", "*", "**", "..", "/", "a/b", "0", `\`, `\22`, "'", "A", "a", "aa", strings.Repeat("a", 2000), "é", "\xff", "\t", "\r", "\x00", "a\r", "a\t", "\u00a0"}
	talk := ""
	for i, name := range names {
		talk += "list " + name + " => -\nput " + name + " x" + strconv.Itoa(i) + " \"1\" => code 0\n"
	}
	for i, name := range names {
		talk += "list " + name + " => x" + strconv.Itoa(i) + "\n"
	}
	wantTalk(t, talk)
	for b := range 256 {
		want := "code 0\nx\n-\n"
		name := string([]byte{byte(b)})
		switch name {
		case " ", `"`:
			want = "bad\nbad\n-\n"
		case "\n":
			want = "bad\nbad\nbad\nbad\n-\n"
		}
		wantText(t, wantSession(t, "put "+name+" x \"1\"\nlist "+name+"\nlist b!"), want)
	}
}

// What is no path and no glob is a word all the same: no line is bad by it.
func TestWordsThatAreNoPaths(t *testing.T) {
	for _, word := range []string{"/", "a/", "a//b", ".", "..", "*", "?", "**", "\t", "\x00", "\xff", "a\r", "é", "\x7f", strings.Repeat("a", 21), "1/2/3/4/5/6/7", strings.Repeat("a/", 700)} {
		wantTalk(t, `
put a x "1" => code 0
put a `+word+` "1" => code 2
run a `+word+` "1" => code 2
del a `+word+` => code 4
mount a `+word+` n => code 1
show a `+word+` => none
proof a `+word+` a => 1
copy a b => ok
under a `+word+` b => ok
list b => -
list a => x
`)
	}
	wantTalk(t, `
put a x "1" => code 0
pick a . .. / x/ /x x//x X `+strings.Repeat("a", 21)+` 1/2/3/4/5/6/7 => 0
`)
}

func TestNothingIsKeptBetweenSessions(t *testing.T) {
	wantText(t, impl.Session("put a x \"1\"\ncopy a b\nlist b"), "code 0\nok\nx\n")
	wantText(t, impl.Session("list a\nlist b\nshow a x"), "-\n-\nnone\n")
	wantText(t, impl.Session("put a x \"1\nlist a"), "bad\n-\n")
	wantText(t, impl.Session("list a"), "-\n")
}

func TestSessionsAtTheSameTime(t *testing.T) {
	source := rand.New(rand.NewSource(101))
	sessions, want := []string{}, []string{}
	for range 12 {
		text := randomSession(source, 60)
		sessions, want = append(sessions, text), append(want, plainSession(text))
	}
	var wait sync.WaitGroup
	for i := range 8 {
		wait.Go(func() {
			for j := range 24 {
				k := (i + j) % len(sessions)
				if got := impl.Session(sessions[k]); got != want[k] {
					t.Errorf("session %d: %.500q", k, got)
				}
			}
		})
	}
	wait.Wait()
}

// randomLine is one of the table's, about few trees and few paths.
func randomLine(source *rand.Rand) string {
	one := func(words ...string) string { return words[source.Intn(len(words))] }
	tree := func() string { return one("a", "b", "c") }
	path := func() string {
		return one("a", "a/b", "a/b/c", "a/b!", "b", "b/a", "b/c/d/e/a/a", "c", "a/b/c", "x/y", "x/..", "*")
	}
	glob := func() string { return one("a", "**", "*", "**/a", "?/**", "a/**", "b", "a/*", "a//b") }
	text := func() string {
		if source.Intn(4) == 0 {
			return plainQuote(randomBytes(source, source.Intn(6)))
		}
		return plainQuote(lined(one("", "l", "lm", "lmn", "klmn", "lmno", "kmn", "lmn")))
	}
	switch source.Intn(18) {
	case 0, 1, 2, 3:
		return "put " + tree() + " " + path() + " " + text()
	case 4:
		return "run " + tree() + " " + path() + " " + text()
	case 5:
		return "del " + tree() + " " + path()
	case 6:
		return "copy " + tree() + " " + tree()
	case 7:
		return "under " + tree() + " " + path() + " " + tree()
	case 8:
		return "mount " + tree() + " " + path() + " " + tree()
	case 9:
		return "pick " + tree() + " " + glob() + one("", " "+glob(), " "+glob()+" "+glob())
	case 10:
		return "over " + tree() + " " + tree()
	case 11, 12:
		return "merge " + tree() + " " + tree() + " " + tree()
	case 13:
		return "diff " + tree() + " " + tree()
	case 14:
		return "list " + tree()
	case 15:
		return "show " + tree() + " " + path()
	case 16:
		return "sum " + tree() + " " + strconv.Itoa(source.Intn(11))
	}
	return "proof " + tree() + " " + path() + " " + tree()
}

func randomSession(source *rand.Rand, n int) string {
	lines := []string{}
	for range n {
		lines = append(lines, randomLine(source))
	}
	return joined(lines)
}

// spoiledLine has a byte more, less or another, or a word more or less.
func spoiledLine(source *rand.Rand, line string) string {
	at := source.Intn(len(line))
	switch source.Intn(5) {
	case 0:
		return line[:at] + line[at+1:]
	case 1:
		return line[:at] + []string{" ", `"`, `\`, "\n", "0", "\x7f", "F"}[source.Intn(7)] + line[at:]
	case 2:
		return line[:at] + string([]byte{byte(source.Intn(256))}) + line[at+1:]
	case 3:
		return line + []string{" a", ` "a"`, " ", `"`, ` "`}[source.Intn(5)]
	}
	words := strings.Split(line, " ")
	at = source.Intn(len(words))
	return strings.Join(slices.Concat(words[:at], words[at+1:]), " ")
}

// kindOf is the command of a line, and what kind of answer it has.
func kindOf(line, answer string) string {
	word, _, _ := strings.Cut(line, " ")
	first, behind, more := strings.Cut(answer, " ")
	switch {
	case answer == "bad":
		return word + " bad"
	case word == "diff" || word == "list":
		return word + " " + map[bool]string{true: "-", false: "paths"}[answer == "-"]
	case word == "show" || word == "sum":
		return word + " " + map[bool]string{true: "none", false: "text"}[answer == "none"]
	case word == "pick":
		return word
	case word == "merge" && strings.Count(answer, " ") > 1:
		return word + " " + answer[:len("code 0")] + " with paths"
	case more:
		return word + " " + first + " " + behind
	}
	return word + " " + first
}

func TestRandomSessions(t *testing.T) {
	source := rand.New(rand.NewSource(102))
	kinds := map[string]int{}
	for range 1500 {
		lines := strings.Split(strings.TrimSuffix(randomSession(source, 40), "\n"), "\n")
		answers := strings.Split(wantSession(t, joined(lines)), "\n")
		for i, line := range lines {
			kinds[kindOf(line, answers[i])]++
		}
	}
	for _, kind := range []string{
		"put code 0", "put code 2", "put code 3", "run code 0", "run code 2", "run code 3", "del code 0", "del code 4",
		"copy ok", "under ok", "mount code 0", "mount code 1", "mount code 2", "mount code 3", "pick", "over code 0",
		"merge code 0", "merge code 2 with paths", "merge code 3 with paths", "diff -", "diff paths", "list -", "list paths",
		"show none", "show text", "sum none", "sum text", "sum bad", "proof 0 there", "proof 0 not there", "proof 1", "proof 2",
	} {
		if kinds[kind] < 50 {
			t.Errorf("%s: %d times", kind, kinds[kind])
		}
	}
}

// Promise 15, and lines of all kinds that are spoiled.
func TestFirstLinesOfRandomSessions(t *testing.T) {
	source := rand.New(rand.NewSource(103))
	bad := 0
	for range 150 {
		lines := []string{}
		for range 30 {
			line := randomLine(source)
			if source.Intn(4) == 0 {
				line = spoiledLine(source, line)
			}
			lines = append(lines, strings.Split(line, "\n")...)
		}
		answers := strings.Split(wantSession(t, joined(lines)), "\n")
		wantFirstLines(t, lines, answers[:len(answers)-1])
		bad += strings.Count(joined(answers), "bad\n")
	}
	if bad < 300 || bad > 3000 {
		t.Errorf("%d bad lines", bad)
	}
}

func TestAnyTextsAreAnswered(t *testing.T) {
	source := rand.New(rand.NewSource(104))
	for range 3000 {
		text := randomBytes(source, source.Intn(40))
		wantSession(t, text)
		pieces := []string{"put", "a", "b", " ", " ", `"`, `"`, `\`, "0", "a", "\n", "list", "sum", "show", "\xff", ` "x"`}
		text = ""
		for range source.Intn(30) {
			text += pieces[source.Intn(len(pieces))]
		}
		wantSession(t, text)
	}
}
