package tests

import (
	"fmt"
	"slices"
	"strconv"
	"strings"
	"testing"

	"loop.example/kilntree/impl"
)

// wantQ puts a text that is written in some way, and asks for it.
func wantQ(t *testing.T, written string, text string, is bool) {
	t.Helper()
	want := "bad\nnone\n"
	if is {
		want = "code 0\n" + plainQuote(text) + "\n"
	}
	for _, word := range []string{"put", "run"} {
		wantText(t, wantSession(t, word+" a x "+written+"\nshow a x"), want)
	}
}

func TestEveryByteOfQ(t *testing.T) {
	for b := range 256 {
		text := string([]byte{byte(b)})
		itself := b >= 32 && b <= 126 && b != '"' && b != '\\'
		lower := fmt.Sprintf(`\%02x`, b)
		upper := fmt.Sprintf(`\%02X`, b)
		for _, around := range []string{`"_"`, `"x_"`, `"_x"`, `" _ "`, `"\00_\ff"`} {
			inside := strings.Trim(around, `"`)
			whole := plainUnquote(strings.Replace(inside, "_", plainQuote(text)[1:len(plainQuote(text))-1], 1))
			if b != '\n' {
				wantQ(t, strings.Replace(around, "_", text, 1), whole, itself)
			}
			wantQ(t, strings.Replace(around, "_", lower, 1), whole, !itself)
			if upper != lower {
				wantQ(t, strings.Replace(around, "_", upper, 1), whole, false)
			}
		}
	}
	wantText(t, wantSession(t, "put a x \"a\nb\"\nlist a"), "bad\nbad\n-\n")
}

func TestWaysToWriteQ(t *testing.T) {
	for written, text := range map[string]string{
		`""`:                "",
		`" "`:               " ",
		`"  "`:              "  ",
		`" x "`:             " x ",
		`"x y  z"`:          "x y  z",
		`"a b"`:             "a b",
		`"\0a"`:             "\n",
		`"\0a\0a"`:          "\n\n",
		`"\22"`:             `"`,
		`"\5c"`:             `\`,
		`"\5c0a"`:           `\0a`,
		`"\5c\0a"`:          "\\\n",
		`"\5c\22"`:          `\"`,
		`"\22 \22"`:         `" "`,
		`"\7f"`:             "\x7f",
		`"\80\ff"`:          "\x80\xff",
		`"\1f!~\7f"`:        "\x1f!~\x7f",
		`"\00a"`:            "\x00a",
		`"0a"`:              "0a",
		`"'"`:               "'",
		`"put a x"`:         "put a x",
		`"\c3\a9"`:          "\u00e9",
		`"\e2\80\a8\c2\85"`: "\u2028\u0085",
	} {
		wantQ(t, written, text, true)
	}
}

func TestWaysInWhichQIsNotWritten(t *testing.T) {
	for _, written := range []string{
		`"`, `"x`, `"x\`, `"\`, `"\0`, `"\0a`, `"\22`, // no quote at the end
		`"\"`, `"x\"`, `"\0"`, `"\1"`, `"x\f"`, `"\5c\"`, `"\0a\"`, // a \ at the end, or one digit alone
		`"\ 0a"`, `"\0 a"`, `"\0 "`, `"\ "`, `"\0\0a"`, `"\\0a"`, `"\\"`, `"\\\\"`,
		`"\n"`, `"\t"`, `"\""`, `"\x0a"`, `"\u000a"`, `"\10"x"`, `"\012`, `"\g0"`, `"\0g"`, `"\-1"`, `"\+1"`, `"\0x"`,
		`"\41"`, `"\20"`, `"\7e"`, `"\21"`, `"\23"`, `"\5b"`, `"\5d"`, `"\61\0a"`, `"\0a\61"`, // bytes that stand for themselves
		`"\0A"`, `"\0D"`, `"\5C"`, `"\7F"`, `"\Ff"`, `"\fF"`, `"\FF"`, `"\A0"`,
		`"""`, `""""`, `"x"y"`, `"x""`, `""x"`, `"x" "y"`, `"" ""`, `"x "y"`, `"x" y"`, // a quote inside
		`"x" `, `"x"  `, `"x" y`, `"x"y`, `""x`, `"" `, `""a b`, "\"x\"\r", "\"x\"\t", `"x"\`, `"x"\0a`, // something behind the quote
		"\"\t\"", "\"\x00\"", "\"\x7f\"", "\"\x80\"", "\"\u00e9\"", "\"\xff\"", "\"\r\"", "\"\x1f\"",
		`x`, `x"`, `'x'`, `x"y"`, `\22x\22`, `“x”`, ``, ` `, ` "x"`, `  "x"`, `y "x"`, `"x" "`, `x "`,
	} {
		wantQ(t, written, "", false)
	}
}

// linesInSessions asks for many lines, in as few sessions as they fit into.
func linesInSessions(t *testing.T, lines []string, each int) {
	t.Helper()
	for some := range slices.Chunk(lines, each) {
		if wantSession(t, joined(some)) == tooLong {
			t.Errorf("%d lines are too long", len(some))
		}
	}
}

func TestEveryShortQ(t *testing.T) {
	lines := []string{}
	for _, inside := range allTexts(`"\2fF 0`+"\x7f", 4) {
		lines = append(lines, `put a x "`+inside+`"`, "show a x", `put a x "`+inside, "show a x")
	}
	for _, inside := range allTexts(`\"25cf`, 5) {
		lines = append(lines, `put a x "`+inside+`"`, "show a x")
	}
	linesInSessions(t, lines, impl.MaxLines)
}

// Every line of few words: with too many and too few, with spaces at the head,
// the end and between, with quotes everywhere.
func TestEveryLineOfFewWords(t *testing.T) {
	lines := [][]string{{}}
	for from := 0; len(lines[from]) < 5; from++ {
		for _, word := range []string{"put", "a", "x", "1", `"x"`, "", `"`} {
			lines = append(lines, append(slices.Clone(lines[from]), word))
		}
	}
	texts := []string{}
	for _, words := range lines {
		texts = append(texts, strings.Join(words, " "))
	}
	linesInSessions(t, texts, impl.MaxLines)
	for _, command := range commandWords() {
		texts = texts[:0]
		for _, words := range lines {
			if len(words) < 5 && !slices.Contains(words, "put") {
				texts = append(texts, strings.Join(append([]string{command}, words...), " "))
			}
		}
		linesInSessions(t, texts, impl.MaxLines)
	}
}

func commandWords() []string {
	return []string{"put", "run", "del", "copy", "under", "mount", "pick", "over", "merge", "diff", "list", "show", "sum", "proof"}
}

// goodLines has for each command a line that is not bad.
func goodLines() []string {
	return []string{
		`put a x "1"`, `run a y "2"`, "del a x", "copy a b", "under a d c", "mount a d b", "pick a **", "pick a x y z",
		"over a b", "merge a b c", "diff a b", "list a", "show a x", "sum a 8", "proof a x b",
	}
}

func TestWordsOfEachCommand(t *testing.T) {
	for _, line := range goodLines() {
		if got := wantSession(t, line); got == "bad\n" || strings.Count(got, "\n") != 1 {
			t.Errorf("%q: %q", line, got)
		}
		front, q := line, ""
		if at := strings.Index(line, ` "`); at >= 0 {
			front, q = line[:at], line[at:]
		}
		words := strings.Split(front, " ")
		bad := []string{
			" " + line, line + " ", "  " + line, line + "  ", " " + line + " ", "\t" + line, line + `"`, line + ` "`, line + ` ""`,
			strings.ToUpper(words[0]) + line[len(words[0]):], words[0] + "s" + line[len(words[0]):], words[0][1:] + line[len(words[0]):],
			words[0] + "\t" + line[len(words[0]):], line[len(words[0])+1:], line[len(words[0]):], words[0] + q, words[0],
			`"` + line, `"` + line + `"`, words[0] + `"` + line[len(words[0]):],
		}
		for i := range words {
			if words[0] != "pick" || len(words) == 3 {
				bad = append(bad, strings.Join(slices.Delete(slices.Clone(words), i, i+1), " ")+q)
			}
			bad = append(bad, strings.Join(words[:i+1], " ")+"  "+strings.Join(words[i+1:], " ")+q)
			for _, quoted := range []string{`"` + words[i], words[i] + `"`, words[i][:1] + `"` + words[i][1:], `"` + words[i] + `"`, `"`} {
				bad = append(bad, strings.Join(slices.Replace(slices.Clone(words), i, i+1, quoted), " ")+q)
			}
		}
		if q == "" {
			bad = append(bad, line+` "x"`, line+` "\0a"`)
		} else {
			bad = append(bad, front, front+" x", front+" x"+q, front+q+q, front+q+" x", front+strings.TrimSpace(q))
		}
		if words[0] != "pick" {
			bad = append(bad, front+" more"+q)
		}
		wantTalk(t, asked("bad", bad...))
	}
}

func TestLinesThatAreNoCommands(t *testing.T) {
	wantTalk(t, asked("bad",
		"", " ", "  ", "x", "a b c", "look a b", "Put a x \"1\"", "LIST a", "lists a", "lis a", "list", "list ", " list a", "list a ", "list  a",
		"list\ta", "list\va", "list a b", "list \"a\"", "list a\"", "list \"", "list a \"", "list a \"\"", "\"", "\"\"", "\"list\" a", "\"list a\"",
		"put", "put a", "put a b", "put a b \"x", "put a b c \"x\"", "put a \"x\"", "put \"x\"", "put a b x", "put a  b \"x\"", "put a b  \"x\"", "put a b\"x\"",
		"put a b\"x \"y\"", "put \"a\" b \"x\"", "put a \"b\" \"x\"", "put a b \"x\" \"y\"", " put a b \"x\"", "put a b \"x\" ", "put  \"x\"", "put a b \"x\"y\"",
		"pick", "pick a", "pick a ", "pick a  x", "pick a x ", "pick a x \"y\"", "pick a \"x\"", "pick a x\"", "sum a", "sum a 10", "sum a x", "sum a 1 2", "sum a 1 \"\"",
		"merge a", "merge a b", "merge a b c d", "proof a b", "proof a b c d", "under a b", "mount a b", "mount a b c d", "copy a", "copy a b c", "over a", "over a b c",
		"diff a", "diff a b c", "show a", "show a b c", "show a b \"c\"", "del a", "del a b c", "del  a b", "del a b \"\"",
		"#", "# list a", "code 0", "ok", "bad", "list a\x00 b", "\x00", "\xff", "\r", "list a;list b", "listen a", "", "", " x", "x "))
	// What looks like space is a byte of a word.
	wantTalk(t, asked("-", "list a\r", "list \t", "list a\t", "list \v", "list a\tb", "list \u00a0", "list \u2003", "list \x00"))
}

// A line that is bad changes nothing, whatever lies around it.
func TestBadLinesChangeNothing(t *testing.T) {
	talk := []string{
		`put a x "1"`, `put a d/y "2"`, "copy a b", `run b x "3\0a"`, "under a d c", "mount b e a", "list b", "merge a b c", "list a", "diff a b", "show b x",
		"pick b e/**", "over c b", "sum c 8", "proof b e/x c", "del a x", "list a", "list b", "list c",
	}
	bad := []string{
		"", `put a x "9`, `put a x "9" `, `put a x "\39"`, `put a x y "9"`, `run b x "\0A"`, `run b x 9`, `del a x ""`, "del a x y", "del a", "copy n a b", "copy n",
		`copy n a "x"`, "under n x", "under n x a b", `under n x a "x"`, "mount a d n n", `mount a d n "x"`, "pick a", `pick a gone "x"`, "pick b  gone", "pick c gone ",
		"over a", "over a n n", `over n a "x"`, "merge a n", "merge a n n n", `merge a n n "x"`, "sum a 10", `put "a" x "9"`, ` put a x "9"`, "over  n a", "look a",
	}
	answers := strings.Split(wantSession(t, joined(talk)), "\n")
	answers = answers[:len(answers)-1]
	for _, line := range bad {
		for at := range len(talk) + 1 {
			lines, want := slices.Insert(slices.Clone(talk), at, line), slices.Insert(slices.Clone(answers), at, "bad")
			wantText(t, impl.Session(joined(lines)), joined(want))
		}
	}
	lines, want := []string{}, []string{}
	for i, line := range talk {
		some := bad[i%len(bad) : min(len(bad), i%len(bad)+10)]
		lines, want = append(append(lines, some...), line), append(append(want, repeated("bad", len(some))...), answers[i])
	}
	wantText(t, wantSession(t, joined(lines)), joined(want))
	wantFirstLines(t, lines, want)
}

func TestEndsOfSessions(t *testing.T) {
	for text, want := range map[string]string{
		"":                     "",
		"\n":                   "bad\n",
		"\n\n":                 "bad\nbad\n",
		"\n\n\n":               "bad\nbad\nbad\n",
		" ":                    "bad\n",
		" \n":                  "bad\n",
		"\n ":                  "bad\nbad\n",
		"x":                    "bad\n",
		"x\n":                  "bad\n",
		"list a":               "-\n",
		"list a\n":             "-\n",
		"list a\n\n":           "-\nbad\n",
		"\nlist a":             "bad\n-\n",
		"\nlist a\n":           "bad\n-\n",
		"list a\nlist b":       "-\n-\n",
		"list a\r\nlist b\r\n": "-\n-\n",
		"list a\rlist b":       "bad\n",
		"put a x \"":           "bad\n",
		"put a x \"\n":         "bad\n",
		"put a x \"\n\"":       "bad\nbad\n",
		"put a x \"\"":         "code 0\n",
		"put a x \"\"\n":       "code 0\n",
	} {
		wantText(t, wantSession(t, text), want)
	}
}

const tooLong = "too long\n"

func TestMaxSession(t *testing.T) {
	line := "list " + strings.Repeat("a", impl.MaxSession-len("list "))
	wantText(t, wantSession(t, line), "-\n")
	wantText(t, wantSession(t, line[1:]), "bad\n")
	wantText(t, wantSession(t, line[:len(line)-1]), "-\n")
	wantText(t, wantSession(t, line[:len(line)-1]+"\n"), "-\n")
	for _, more := range []string{"a", "\n", " ", `"`, "\x00", "\nlist a\n"} {
		wantText(t, wantSession(t, line+more), tooLong)
		wantText(t, wantSession(t, more+line), tooLong)
	}
	wantText(t, wantSession(t, strings.Repeat("x", impl.MaxSession)), "bad\n")
	wantText(t, wantSession(t, strings.Repeat("x", impl.MaxSession+1)), tooLong)
	wantText(t, wantSession(t, strings.Repeat(" ", impl.MaxSession)), "bad\n")
	wantText(t, wantSession(t, strings.Repeat(`"`, impl.MaxSession)), "bad\n")

	q := `put a x "` + strings.Repeat("t", impl.MaxSession-len(`put a x ""`)) + `"`
	wantText(t, wantSession(t, q), "code 2\n")
	wantText(t, wantSession(t, q+" "), tooLong)
	wantText(t, wantSession(t, `put a x "`+strings.Repeat(`\00`, 6663)+`"`), "code 2\n")

	// Fifty bytes a line: as many lines, and as many bytes, as there may be.
	fifty := "list " + strings.Repeat("b", impl.MaxSession/impl.MaxLines-len("list \n")) + "\n"
	full := strings.Repeat(fifty, impl.MaxLines)
	wantText(t, strconv.Itoa(len(full)), "20000")
	wantText(t, wantSession(t, full), strings.Repeat("-\n", impl.MaxLines))
	wantText(t, wantSession(t, full+"\n"), tooLong)
	wantText(t, wantSession(t, full+"l"), tooLong)
	wantText(t, wantSession(t, "l"+full), tooLong)
	wantText(t, wantSession(t, full[1:]), "bad\n"+strings.Repeat("-\n", impl.MaxLines-1))
	wantText(t, wantSession(t, full[:len(full)-1]), strings.Repeat("-\n", impl.MaxLines))
}

func TestMaxLines(t *testing.T) {
	for line, answer := range map[string]string{"": "bad", "x": "bad", "list a": "-", "copy a b": "ok", "pick a x": "0", "sum a 8": "cbf29ce484222325", `put a x "1"`: "code 0"} {
		full := strings.Repeat(line+"\n", impl.MaxLines)
		want := strings.Repeat(answer+"\n", impl.MaxLines)
		wantText(t, wantSession(t, full), want)
		for _, more := range []string{"\n", " ", "x", "list a", "list a\n", line + "\n"} {
			wantText(t, wantSession(t, full+more), tooLong)
		}
		if line != "" {
			wantText(t, wantSession(t, strings.TrimSuffix(full, "\n")), want)
			wantText(t, wantSession(t, full+line), tooLong)
			wantText(t, wantSession(t, line+"\n"+full), tooLong)
		}
	}
	wantText(t, wantSession(t, strings.Repeat("\n", impl.MaxSession)), tooLong)
	wantText(t, wantSession(t, strings.Repeat("\n", impl.MaxSession+1)), tooLong)
}

// Promise 15 up to MaxLines: with one more line nothing is answered but this.
func TestFirstLinesUpToMaxLines(t *testing.T) {
	lines, answers := []string{}, []string{}
	for i := range impl.MaxLines {
		path := "f" + strconv.Itoa(100+i/4)
		switch i % 4 {
		case 0:
			lines, answers = append(lines, "put a "+path+` "`+strconv.Itoa(i)+`"`), append(answers, "code 0")
		case 1:
			lines, answers = append(lines, "show a "+path), append(answers, `"`+strconv.Itoa(i-1)+`"`)
		case 2:
			lines, answers = append(lines, "put a "+path+"/x \"\""), append(answers, "code 3")
		case 3:
			lines, answers = append(lines, "pick a ** x"), append(answers, strconv.Itoa(1+i/4))
		}
	}
	wantFirstLines(t, lines, answers)
	for _, last := range []string{"list a", "x", " ", "too long"} {
		wantText(t, wantSession(t, joined(lines)+last), tooLong)
		wantText(t, wantSession(t, joined(append(lines[:len(lines):len(lines)], last))), tooLong)
	}
	wantText(t, wantSession(t, joined(append(lines[:len(lines):len(lines)], ""))), tooLong)
}

func TestGreatSessionsEndSoon(t *testing.T) {
	great := []string{strings.Repeat("x", 1<<26), strings.Repeat("\n", 1<<26), strings.Repeat("list a\n", 1<<22), strings.Repeat(` "`, 1<<25)}
	words := "pick a" + strings.Repeat(" x", (impl.MaxSession-6)/2)
	quotes := "put a x \"" + strings.Repeat(`\0a`, (impl.MaxSession-12)/3) + "\""
	endsSoon(t, "a great session", func() {
		for _, text := range great {
			for range 20 {
				if got := impl.Session(text); got != tooLong {
					t.Errorf("%.100q", got)
				}
			}
		}
		for range 100 {
			if got := impl.Session(words); got != "0\n" {
				t.Errorf("%.100q", got)
			}
			if got := impl.Session(quotes); got != "code 2\n" {
				t.Errorf("%.100q", got)
			}
		}
	})
}
