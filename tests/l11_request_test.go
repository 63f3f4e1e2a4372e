package tests

import (
	"fmt"
	"slices"
	"strconv"
	"strings"
	"testing"

	"loop.example/g00124/impl"
)

// What ParseRequest tells beside the arguments.
const (
	waits = 0
	there = 1
	never = 2
)

func someArgs(list ...string) []string         { return list }
func someRequests(list ...[]string) [][]string { return list }

func manyArgs(count int, arg string) []string { return slices.Repeat([]string{arg}, count) }

func requestByHand(args ...string) string {
	text := fmt.Sprintf("*%d\r\n", len(args))
	for _, arg := range args {
		text += fmt.Sprintf("$%d\r\n%s\r\n", len(arg), arg)
	}
	return text
}

// plainHead holds buf against all heads that there are, one by one.
func plainHead(buf, mark string, limit int) (int, string, int) {
	state := never
	for n := range limit + 1 {
		head := mark + strconv.Itoa(n) + "\r\n"
		if rest, ok := strings.CutPrefix(buf, head); ok {
			return n, rest, there
		}
		if strings.HasPrefix(head, buf) {
			state = waits
		}
	}
	return 0, "", state
}

func plainCounted(buf string) ([]string, string, int) {
	count, rest, state := plainHead(buf, "*", 8)
	var args []string
	for len(args) < count && state == there {
		length := 0
		if length, rest, state = plainHead(rest, "$", 60); state != there {
			break
		}
		// The bytes of an argument are any: what stands there is taken for its own, and the rest is looked at.
		arg := rest[:min(length, len(rest))]
		whole := arg + strings.Repeat("?", length-len(arg)) + "\r\n"
		switch {
		case strings.HasPrefix(rest, whole):
			args, rest = append(args, arg), rest[len(whole):]
		case len(rest) < len(whole) && strings.HasPrefix(whole, rest):
			state = waits
		default:
			state = never
		}
	}
	return args, rest, state
}

func plainLine(buf string) ([]string, string, int) {
	var words []string
	word, at := "", 0
	for at < len(buf) && buf[at] != '\n' {
		at++
	}
	switch {
	case at > 80:
		return nil, "", never
	case at == len(buf):
		return nil, "", waits
	}
	for place, b := range []byte(buf[:at]) {
		switch {
		case b == ' ':
			words, word = append(words, word), ""
		case b == '\r' && place == at-1:
		default:
			word += string([]byte{b})
		}
	}
	words = slices.DeleteFunc(append(words, word), func(word string) bool { return word == "" })
	if len(words) > 8 || slices.ContainsFunc(words, func(word string) bool { return len(word) > 60 }) {
		return nil, "", never
	}
	return words, buf[at+1:], there
}

// plainParse is the rule again: what the program answers is held against it.
func plainParse(buf string) ([]string, int, int) {
	parse := plainLine
	if strings.HasPrefix(buf, "*") {
		parse = plainCounted
	}
	args, rest, state := parse(buf)
	if state != there {
		return nil, 0, state
	}
	return args, len(buf) - len(rest), there
}

func plainRequests(buf string) ([][]string, int, bool) {
	var list [][]string
	took := 0
	for {
		args, more, state := plainParse(buf[took:])
		if state != there {
			return list, took, state == never
		}
		list, took = append(list, args), took+more
	}
}

func sameRequests(a, b [][]string) bool { return slices.EqualFunc(a, b, slices.Equal) }

func mustParse(t *testing.T, why, buf string, want []string, wantTook, wantState int) {
	t.Helper()
	before := strings.Clone(buf)
	args, took, state := impl.ParseRequest(buf)
	if !slices.Equal(args, want) || took != wantTook || state != wantState {
		t.Errorf("%s: ParseRequest(%.120q) is %.80q, %d, %d, not %.80q, %d, %d", why, buf, args, took, state, want, wantTook, wantState)
	}
	if buf != before {
		t.Errorf("%s: ParseRequest has changed its bytes", why)
	}
}

func mustWait(t *testing.T, why, buf string) {
	t.Helper()
	mustParse(t, why, buf, nil, 0, waits)
}

func mustNeverParse(t *testing.T, why, buf string) {
	t.Helper()
	mustParse(t, why, buf, nil, 0, never)
}

func mustParsePlainly(t *testing.T, why, buf string) int {
	t.Helper()
	args, took, state := plainParse(buf)
	mustParse(t, why, buf, args, took, state)
	return state
}

func mustTakeRequests(t *testing.T, why, buf string, want [][]string, wantTook int, wantNone bool) {
	t.Helper()
	list, took, none := impl.Requests(buf)
	if !sameRequests(list, want) || took != wantTook || none != wantNone {
		t.Errorf("%s: Requests(%.120q) is %.120q, %d, %v, not %.120q, %d, %v", why, buf, list, took, none, want, wantTook, wantNone)
	}
}

type namedRequest struct {
	name string
	text string
	args []string
}

// countedRequests are in the first form, just as RequestText writes them.
func countedRequests() []namedRequest {
	list := []namedRequest{
		{"no arguments", "*0\r\n", nil},
		{"one argument", "*1\r\n$3\r\nGET\r\n", someArgs("GET")},
		{"two arguments", "*2\r\n$3\r\nGET\r\n$1\r\nx\r\n", someArgs("GET", "x")},
		{"three arguments", "*3\r\n$3\r\nset\r\n$2\r\nab\r\n$1\r\n7\r\n", someArgs("set", "ab", "7")},
		{"an empty argument", "*1\r\n$0\r\n\r\n", someArgs("")},
		{"empty arguments alone", "*3\r\n$0\r\n\r\n$0\r\n\r\n$0\r\n\r\n", someArgs("", "", "")},
		{"an empty argument among others", "*3\r\n$1\r\na\r\n$0\r\n\r\n$1\r\nb\r\n", someArgs("a", "", "b")},
		{"an argument of CR and LF", "*1\r\n$2\r\n\r\n\r\n", someArgs("\r\n")},
		{"an argument of a CR", "*1\r\n$1\r\n\r\r\n", someArgs("\r")},
		{"an argument of a LF", "*1\r\n$1\r\n\n\r\n", someArgs("\n")},
		{"an argument of LF and CR", "*1\r\n$2\r\n\n\r\r\n", someArgs("\n\r")},
		{"an argument of blanks", "*2\r\n$3\r\n   \r\n$3\r\na b\r\n", someArgs("   ", "a b")},
		{"marks as arguments", "*2\r\n$1\r\n*\r\n$1\r\n$\r\n", someArgs("*", "$")},
		{"a request as an argument", "*1\r\n$11\r\n*1\r\n$1\r\nx\r\n\r\n", someArgs("*1\r\n$1\r\nx\r\n")},
		{"a head as an argument", "*2\r\n$6\r\n$1\r\nx\r\r\n$4\r\n*0\r\n\r\n", someArgs("$1\r\nx\r", "*0\r\n")},
		{"bytes of any kind", "*1\r\n$4\r\n\x00\xff\x80\x7f\r\n", someArgs("\x00\xff\x80\x7f")},
		{"letters of several bytes", "*1\r\n$4\r\nüß\r\n", someArgs("üß")},
		{"figures as arguments", "*2\r\n$2\r\n10\r\n$1\r\n0\r\n", someArgs("10", "0")},
		{"lengths of two figures", "*2\r\n$10\r\n0123456789\r\n$9\r\n012345678\r\n", someArgs("0123456789", "012345678")},
		{"the most arguments", "*8\r\n" + strings.Repeat("$1\r\nx\r\n", 8), manyArgs(8, "x")},
		{"one less than the most", "*7\r\n" + strings.Repeat("$1\r\nx\r\n", 7), manyArgs(7, "x")},
		{"the most empty arguments", "*8\r\n" + strings.Repeat("$0\r\n\r\n", 8), manyArgs(8, "")},
		{"the longest argument", "*1\r\n$60\r\n" + someText(60) + "\r\n", someArgs(someText(60))},
		{"the longest argument of LFs", "*1\r\n$60\r\n" + strings.Repeat("\n", 60) + "\r\n", someArgs(strings.Repeat("\n", 60))},
		{"one byte less than the longest", "*1\r\n$59\r\n" + someText(59) + "\r\n", someArgs(someText(59))},
		{"the longest request", "*8\r\n" + strings.Repeat("$60\r\n"+someText(60)+"\r\n", 8), manyArgs(8, someText(60))},
	}
	for length := range impl.MaxItem + 1 {
		text := someText(length)
		list = append(list, namedRequest{fmt.Sprint(length, " bytes"), fmt.Sprintf("*1\r\n$%d\r\n%s\r\n", length, text), someArgs(text)})
	}
	return list
}

// lineRequests are in the second form.
func lineRequests() []namedRequest {
	return []namedRequest{
		{"LF alone", "\n", nil},
		{"CR alone", "\r\n", nil},
		{"a blank alone", " \n", nil},
		{"blanks alone", "     \n", nil},
		{"blanks and a CR", "   \r\n", nil},
		{"the most blanks", strings.Repeat(" ", 80) + "\n", nil},
		{"the most blanks with a CR", strings.Repeat(" ", 79) + "\r\n", nil},
		{"one word", "GET\n", someArgs("GET")},
		{"one word and a CR", "GET\r\n", someArgs("GET")},
		{"two words", "GET x\n", someArgs("GET", "x")},
		{"two words and a CR", "GET x\r\n", someArgs("GET", "x")},
		{"blanks between", "GET    x\n", someArgs("GET", "x")},
		{"blanks ahead", "   GET x\n", someArgs("GET", "x")},
		{"blanks behind", "GET x   \n", someArgs("GET", "x")},
		{"blanks everywhere", "  GET   x  \r\n", someArgs("GET", "x")},
		{"a blank and a CR behind", "x \r\n", someArgs("x")},
		{"a CR and a blank behind", "x\r \n", someArgs("x\r")},
		{"a CR and a blank and a CR", "x\r \r\n", someArgs("x\r")},
		{"two CRs", "x\r\r\n", someArgs("x\r")},
		{"three CRs", "x\r\r\r\n", someArgs("x\r\r")},
		{"two CRs alone", "\r\r\n", someArgs("\r")},
		{"a CR behind a blank, and one", " \r\r\n", someArgs("\r")},
		{"a CR inside a word", "a\rb\n", someArgs("a\rb")},
		{"a CR inside a word, and one ahead of the LF", "a\rb c\r\n", someArgs("a\rb", "c")},
		{"a CR ahead of a word", "\ra\n", someArgs("\ra")},
		{"a CR between blanks", "a \r b\n", someArgs("a", "\r", "b")},
		{"a tab is no blank", "a\tb\n", someArgs("a\tb")},
		{"a tab alone", "\t\n", someArgs("\t")},
		{"other bytes that look blank", "a\xa0b\vc\fd\u2003e\x00f\n", someArgs("a\xa0b\vc\fd\u2003e\x00f")},
		{"bytes of any kind", "\x00\xff \x80\x7f\n", someArgs("\x00\xff", "\x80\x7f")},
		{"a zero byte", "\x00\n", someArgs("\x00")},
		{"marks inside", "a* $1 *\n", someArgs("a*", "$1", "*")},
		{"a blank ahead of the mark", " *1\r\n", someArgs("*1")},
		{"the other mark ahead", "$3\r\n", someArgs("$3")},
		{"a minus ahead", "-ERR\r\n", someArgs("-ERR")},
		{"figures", "12 0 007\n", someArgs("12", "0", "007")},
		{"small letters stay", "get X\n", someArgs("get", "X")},
		{"the most words", "1 2 3 4 5 6 7 8\n", strings.Fields("1 2 3 4 5 6 7 8")},
		{"the most words and blanks", "  1 2  3 4 5 6 7   8  \r\n", strings.Fields("1 2 3 4 5 6 7 8")},
		{"the longest word", strings.Repeat("w", 60) + "\n", someArgs(strings.Repeat("w", 60))},
		{"the longest word and a CR", strings.Repeat("w", 60) + "\r\n", someArgs(strings.Repeat("w", 60))},
		{"the longest word with a CR at its end", strings.Repeat("w", 59) + "\r\r\n", someArgs(strings.Repeat("w", 59) + "\r")},
		{"the longest word between blanks", "  " + strings.Repeat("w", 60) + "   \n", someArgs(strings.Repeat("w", 60))},
		{"the longest word among others", "a " + strings.Repeat("w", 60) + " b\n", someArgs("a", strings.Repeat("w", 60), "b")},
		{"the longest line", strings.Repeat("a", 60) + " " + strings.Repeat("b", 19) + "\n", someArgs(strings.Repeat("a", 60), strings.Repeat("b", 19))},
		{"the longest line with a CR", strings.Repeat("a", 60) + " " + strings.Repeat("b", 18) + "\r\n", someArgs(strings.Repeat("a", 60), strings.Repeat("b", 18))},
		{"the longest line of words", strings.Repeat("abcdefghi ", 8) + "\n", manyArgs(8, "abcdefghi")},
		{"one byte less than the longest line", strings.Repeat("abcdefgh  ", 7) + "abcdefghi\n", append(manyArgs(7, "abcdefgh"), "abcdefghi")},
	}
}

func rightRequests() []namedRequest { return append(countedRequests(), lineRequests()...) }

// waitingTexts can be requests still.
func waitingTexts() map[string]string {
	return map[string]string{
		"nothing":                               "",
		"the mark alone":                        "*",
		"no arguments without its end":          "*0",
		"no arguments without its LF":           "*0\r",
		"the greatest number":                   "*8",
		"the number without its LF":             "*8\r",
		"no argument yet":                       "*2\r\n",
		"the argument's mark":                   "*1\r\n$",
		"one figure of a length":                "*1\r\n$6",
		"a length of one figure":                "*1\r\n$9",
		"a length of nothing":                   "*1\r\n$0",
		"the greatest length":                   "*1\r\n$60",
		"a length without its LF":               "*1\r\n$3\r",
		"no byte of the argument":               "*1\r\n$3\r\n",
		"some bytes of the argument":            "*1\r\n$3\r\nGE",
		"CR and LF in the argument":             "*1\r\n$3\r\n\r\n",
		"all bytes of the argument":             "*1\r\n$3\r\nGET",
		"the argument without its LF":           "*1\r\n$3\r\nGET\r",
		"an empty argument":                     "*1\r\n$0\r\n",
		"an empty argument without its LF":      "*1\r\n$0\r\n\r",
		"one argument of two":                   "*2\r\n$3\r\nGET\r\n",
		"one argument of two, and a mark":       "*2\r\n$3\r\nGET\r\n$",
		"all but the last LF":                   strings.TrimSuffix(requestByHand(manyArgs(8, someText(60))...), "\n"),
		"a blank":                               " ",
		"a CR":                                  "\r",
		"two CRs":                               "\r\r",
		"a word":                                "GET",
		"a word and a CR":                       "GET\r",
		"words":                                 "GET x",
		"the other mark":                        "$",
		"the most words":                        "1 2 3 4 5 6 7 8",
		"one word more":                         "1 2 3 4 5 6 7 8 9",
		"one word more, and a CR":               "1 2 3 4 5 6 7 8 9\r",
		"as many words as there can be":         strings.Repeat("a ", 40),
		"the longest word":                      strings.Repeat("w", 60),
		"one byte more":                         strings.Repeat("w", 61),
		"one byte more, and a CR":               strings.Repeat("w", 61) + "\r",
		"one byte more, and a further word":     strings.Repeat("w", 61) + " x",
		"the longest line of blanks":            strings.Repeat(" ", 80),
		"the longest line of one word":          strings.Repeat("w", 80),
		"the longest line of CRs":               strings.Repeat("\r", 80),
		"the longest line with a CR at its end": strings.Repeat("w", 79) + "\r",
		"one byte less than the longest line":   strings.Repeat("w", 79),
		"a longest line of words":               strings.Repeat("abcdefghi ", 8),
	}
}

// wrongTexts can be none, and each of them as soon as its last byte stands there, but for those of lines.
func wrongTexts() map[string]string {
	list := map[string]string{
		"one argument too many":           "*9",
		"ten arguments":                   "*10",
		"sixteen arguments":               "*16",
		"a number of many figures":        "*88",
		"a number that wraps round":       "*18446744073709551617",
		"a number of very many figures":   "*" + strings.Repeat("1", 5000),
		"a zero ahead":                    "*01",
		"two zeroes":                      "*00",
		"a minus":                         "*-",
		"a minus and a figure":            "*-1",
		"a plus":                          "*+",
		"a blank ahead of the number":     "* ",
		"a blank behind the number":       "*1 ",
		"no number":                       "*\r",
		"no number, and a LF":             "*\n",
		"two marks":                       "**",
		"a letter":                        "*a",
		"another figure":                  "*\xb2",
		"a letter behind":                 "*1a",
		"a point behind":                  "*1.",
		"a LF without its CR":             "*1\n",
		"no arguments, LF without its CR": "*0\n",
		"two CRs":                         "*1\r\r",
		"a letter behind CR":              "*1\ra",
		"no mark":                         "*1\r\n3",
		"another mark":                    "*1\r\n*",
		"a blank for a mark":              "*1\r\n ",
		"a CR for a mark":                 "*1\r\n\r",
		"a LF for a mark":                 "*1\r\n\n",
		"no length":                       "*1\r\n$\r",
		"two argument marks":              "*1\r\n$$",
		"a length that is negative":       "*1\r\n$-",
		"a length with a plus":            "*1\r\n$+",
		"a length with a blank":           "*1\r\n$ ",
		"a length with a zero ahead":      "*1\r\n$03",
		"a length of two zeroes":          "*1\r\n$00",
		"a length that is one too great":  "*1\r\n$61",
		"a length of 70":                  "*1\r\n$70",
		"a length of 99":                  "*1\r\n$99",
		"a length of three figures":       "*1\r\n$100",
		"a length of 60 and a figure":     "*1\r\n$600",
		"a length that wraps round":       "*1\r\n$18446744073709551617",
		"a length of very many figures":   "*1\r\n$" + strings.Repeat("9", 5000),
		"a length, LF without its CR":     "*1\r\n$3\n",
		"a length, a letter behind CR":    "*1\r\n$3\rG",
		"a length and a letter":           "*1\r\n$3x",
		"a length and a blank":            "*1\r\n$3 ",
		"an argument that is too long":    "*1\r\n$3\r\nGETx",
		"an argument and a LF":            "*1\r\n$3\r\nGET\n",
		"an argument and two CRs":         "*1\r\n$3\r\nGET\r\r",
		"an argument that is too short":   "*1\r\n$3\r\nGE\r\n$",
		"a byte behind an empty argument": "*1\r\n$0\r\nx",
		"a LF behind an empty argument":   "*1\r\n$0\r\n\n",
		"a wrong second argument":         "*2\r\n$3\r\nGET\r\nx",
		"a request for the second":        "*2\r\n$3\r\nGET\r\n*",
		"the last argument's end":         strings.TrimSuffix(requestByHand(manyArgs(8, "x")...), "\n") + "x",
		"a line that is too long":         strings.Repeat("w", 81),
		"blanks that are too many":        strings.Repeat(" ", 81),
		"CRs that are too many":           strings.Repeat("\r", 81),
		"a CR too much":                   strings.Repeat(" ", 80) + "\r",
		"a very long line":                strings.Repeat("abcdefghi ", 500),
	}
	for name, line := range map[string]string{
		"too long by one":           strings.Repeat("w", 61) + " " + strings.Repeat("w", 19),
		"blanks too many":           strings.Repeat(" ", 81),
		"too long by a CR":          strings.Repeat(" ", 80) + "\r",
		"right words, but too long": strings.Repeat("abcdefghi ", 8) + " ",
		"one word too many":         "1 2 3 4 5 6 7 8 9",
		"one word too many and CR":  "1 2 3 4 5 6 7 8 9\r",
		"one word too many, a CR":   "1 2 3 4 5 6 7 8 \r\r",
		"many words":                strings.Repeat("a ", 40),
		"a word too long":           strings.Repeat("w", 61),
		"a word too long, CR":       strings.Repeat("w", 61) + "\r",
		"a word too long by a CR":   strings.Repeat("w", 60) + "\r\r",
		"a word too long, the last": "a " + strings.Repeat("w", 61),
		"a word too long, a second": "a " + strings.Repeat("w", 61) + " b",
		"one word as long as lines": strings.Repeat("w", 80),
	} {
		list["a line: "+name] = line + "\n"
	}
	return list
}

// behinds are bytes that may stand behind others.
func behinds() []string {
	list := []string{"rest", "\r\n", "\n\n", "*0\r\n", "*1\r\n$1\r\nx\r\n", "GET x\n", "$3\r\n", "*x", strings.Repeat(" ", 100), strings.Repeat("\n", 100), someText(3000)}
	for b := range 256 {
		list = append(list, string([]byte{byte(b)}))
	}
	return list
}

func TestRequestConstants(t *testing.T) {
	if got := []int{impl.MaxArgs, impl.MaxLine}; !slices.Equal(got, []int{8, 80}) {
		t.Errorf("constants: %v", got)
	}
}

func TestRequestsAreParsed(t *testing.T) {
	for _, c := range rightRequests() {
		mustParse(t, c.name, c.text, c.args, len(c.text), there)
		mustParsePlainly(t, c.name, c.text)
		for _, behind := range behinds() {
			mustParse(t, c.name+", and more", c.text+behind, c.args, len(c.text), there)
		}
	}
}

func TestBeginningsOfRequestsWait(t *testing.T) {
	for _, c := range rightRequests() {
		for cut := range len(c.text) {
			mustWait(t, c.name, c.text[:cut])
		}
	}
	for name, text := range waitingTexts() {
		mustWait(t, name, text)
		mustParsePlainly(t, name, text)
	}
}

// finished goes on with the first byte that is not refused, as long as the text waits.
func finished(buf string) (string, int) {
	_, _, state := impl.ParseRequest(buf)
	for range 1000 {
		if state != waits {
			break
		}
		state = never
		for _, b := range "\r\n$0" {
			if _, _, next := impl.ParseRequest(buf + string(b)); next != never {
				buf, state = buf+string(b), next
				break
			}
		}
	}
	return buf, state
}

// What waits in the first form can become a request indeed: one byte behind the other makes it one.
func TestWhatWaitsCanBecomeARequest(t *testing.T) {
	list := []string{"*"}
	for _, c := range countedRequests() {
		for cut := 1; cut < len(c.text); cut++ {
			list = append(list, c.text[:cut])
		}
	}
	for _, text := range waitingTexts() {
		if strings.HasPrefix(text, "*") {
			list = append(list, text)
		}
	}
	for _, text := range list {
		whole, state := finished(text)
		if args, _, want := plainParse(whole); state != there || want != there {
			t.Errorf("%.120q waits, and %.120q is told %d", text, whole, state)
		} else {
			mustParse(t, "finished", whole, args, len(whole), there)
		}
	}
}

func TestLinesOfEachLength(t *testing.T) {
	for n := range impl.MaxLine + 1 {
		line := strings.Repeat(" ", n)
		mustWait(t, "blanks", line)
		mustParse(t, "blanks", line+"\n", nil, n+1, there)
	}
	for n := range impl.MaxArgs + 1 {
		line := strings.Repeat("x ", n)
		mustWait(t, "words", line)
		mustParse(t, "words", line+"\r\n", manyArgs(n, "x"), 2*n+2, there)
	}
	for n := 1; n <= impl.MaxItem; n++ {
		word := strings.Repeat("w", n)
		mustWait(t, "a word", word)
		mustParse(t, "a word", word+"\r\n", someArgs(word), n+2, there)
	}
}

// As the document has it, a line without its LF waits as long as it is short enough, though its LF makes it none.
func TestLinesWithoutTheirEndWaitByTheirLength(t *testing.T) {
	for n := impl.MaxArgs + 1; n <= impl.MaxLine/2; n++ {
		line := strings.Repeat("x ", n)
		mustWait(t, "too many words", line)
		mustWait(t, "too many words", strings.TrimSuffix(line, " "))
		mustNeverParse(t, "too many words", line+"\n")
		mustNeverParse(t, "too many words", strings.TrimSuffix(line, " ")+"\r\n")
	}
	for n := impl.MaxItem + 1; n <= impl.MaxLine; n++ {
		line := strings.Repeat("w", n)
		mustWait(t, "a word too long", line)
		mustNeverParse(t, "a word too long", line+"\n")
		mustNeverParse(t, "a word too long", line+" \n")
	}
	for n := impl.MaxLine + 1; n < impl.MaxLine+300; n++ {
		for _, fill := range []string{" ", "w", "\r", "w "} {
			line := strings.Repeat(fill, n)[:n]
			mustNeverParse(t, "a line too long", line)
			mustNeverParse(t, "a line too long", line+"\n")
			mustNeverParse(t, "a line too long", line+"\r\n")
		}
	}
}

func TestWhatCanBeNone(t *testing.T) {
	for name, text := range wrongTexts() {
		mustNeverParse(t, name, text)
		mustParsePlainly(t, name, text)
		for _, behind := range behinds() {
			mustNeverParse(t, name+", and more", text+behind)
		}
	}
}

// What can be none is told neither too early nor too late, wherever it is cut.
func TestWhatCanBeNoneIsToldAtOnce(t *testing.T) {
	last := 0
	for name, text := range wrongTexts() {
		for cut := range min(len(text), 200) {
			mustParsePlainly(t, name+", cut", text[:cut])
		}
		if _, _, state := impl.ParseRequest(text[:len(text)-1]); state == waits {
			last++
		}
	}
	if last < 60 {
		t.Errorf("only %d wrong texts wait without their last byte", last)
	}
}

// At every place of a mark, a CR or a LF each other byte is refused as soon as it stands there; the bytes of an argument may be any.
func TestEveryOtherByteIsRefusedAtOnce(t *testing.T) {
	// A further figure behind 7 and 8, too, makes a number that is too great.
	text := requestByHand("GET x y", "", "x\r\n\r\n$12")
	free := requestByHand("???????", "", "????????")
	if len(free) != len(text) {
		t.Fatalf("%q has not the places of %q", free, text)
	}
	for at := range len(text) {
		for b := range 256 {
			wrong := text[:at] + string([]byte{byte(b)})
			state := mustParsePlainly(t, "one byte turned", wrong)
			mustParsePlainly(t, "one byte turned, and the rest", wrong+text[at+1:])
			mark := strings.IndexByte("$\r\n", free[at]) >= 0
			if mark && byte(b) != text[at] && state != never {
				t.Errorf("%q is told %d", wrong, state)
			}
			if free[at] == '?' && state != waits {
				t.Errorf("%q is told %d: an argument has any bytes", wrong, state)
			}
		}
	}
}

func TestNumbersOfRequests(t *testing.T) {
	numbers := []string{"", "00", "01", "08", "060", "+1", "-0", "-1", " 1", "1 ", "0x1", "1e0", "1_0", "١", "²", "18446744073709551616", "9223372036854775808", "4294967296", "256"}
	for n := range 1200 {
		numbers = append(numbers, strconv.Itoa(n))
	}
	for _, number := range numbers {
		n, err := strconv.Atoi(number)
		plain := err == nil && strconv.Itoa(n) == number && n >= 0
		count := "*" + number + "\r\n"
		if plain && n <= 8 {
			mustParse(t, "a count", count+strings.Repeat("$1\r\nx\r\n", n), manyArgs(n, "x"), len(count)+7*n, there)
		} else {
			mustNeverParse(t, "a count", count)
			mustNeverParse(t, "a count", count+strings.Repeat("$1\r\nx\r\n", 70))
		}
		length := "*1\r\n$" + number + "\r\n"
		if plain && n <= 60 {
			mustParse(t, "a length", length+strings.Repeat("x", n)+"\r\n", someArgs(strings.Repeat("x", n)), len(length)+n+2, there)
			mustNeverParse(t, "a length", length+strings.Repeat("x", n+1))
			mustWait(t, "a length", length+strings.Repeat("x", n))
		} else {
			mustNeverParse(t, "a length", length)
			mustNeverParse(t, "a length", length+strings.Repeat("x", min(max(n, 0), 1200))+"\r\n")
		}
	}
}

// tryShort holds all texts of at most so many of these bytes against the rule, behind what stands ahead.
func tryShort(t *testing.T, ahead, bytes string, length int, states *[3]int) {
	t.Helper()
	states[mustParsePlainly(t, "short texts", ahead)]++
	if length == 0 {
		return
	}
	for _, b := range bytes {
		tryShort(t, ahead+string(b), bytes, length-1, states)
	}
}

func TestShortTextsAsRequests(t *testing.T) {
	var states [3]int
	tryShort(t, "", "*$0189 \r\na", 4, &states)
	tryShort(t, "", "*0 \r\na", 6, &states)
	tryShort(t, "*", "$012\r\n", 6, &states)
	tryShort(t, "*1\r\n", "$06\r\n", 6, &states)
	tryShort(t, "*1\r\n$1\r\n", "a\r\n*", 6, &states)
	tryShort(t, "*2\r\n$0\r\n", "$0\r\n", 6, &states)
	tryShort(t, strings.Repeat("w", 58), "w \r\n", 6, &states)
	tryShort(t, strings.Repeat("w", 58)+strings.Repeat(" ", 18), "w \r\n", 6, &states)
	tryShort(t, "1 2 3 4 5 6", "7 \r\n", 7, &states)
	for state, count := range states {
		if count < 500 {
			t.Errorf("only %d short texts are told %d", count, state)
		}
	}
}

func TestRequestText(t *testing.T) {
	for _, c := range countedRequests() {
		if text, ok := impl.RequestText(c.args); text != c.text || !ok {
			t.Errorf("%s: RequestText is %.120q, %v, not %.120q", c.name, text, ok, c.text)
		}
	}
	// A line is told in the first form: it has other bytes, but the same arguments.
	for _, c := range lineRequests() {
		text, ok := impl.RequestText(c.args)
		if text != requestByHand(c.args...) || !ok {
			t.Errorf("%s: RequestText is %.120q, %v", c.name, text, ok)
		}
		mustParse(t, c.name, text, c.args, len(text), there)
	}
}

func mustNotWrite(t *testing.T, why string, args []string) {
	t.Helper()
	if text, ok := impl.RequestText(args); text != "" || ok {
		t.Errorf("%s: RequestText is %.80q, %v", why, text, ok)
	}
}

func TestArgumentsThatAreNoRequest(t *testing.T) {
	for n := impl.MaxArgs + 1; n < 40; n++ {
		mustNotWrite(t, "too many arguments", manyArgs(n, "x"))
		mustNotWrite(t, "too many empty arguments", manyArgs(n, ""))
		mustNotWrite(t, "too many and too long", manyArgs(n, someText(61)))
	}
	for n := 1; n <= impl.MaxArgs; n++ {
		for place := range n {
			for _, length := range []int{61, 62, 100, 256, 316, 20000} {
				args := manyArgs(n, "x")
				args[place] = someText(length)
				mustNotWrite(t, "too long an argument", args)
			}
		}
	}
}

// What RequestText writes is read back, whole, and in two pieces: as long as the second one has not come, it waits.
func TestRequestsComeBackFromTheirTexts(t *testing.T) {
	draw := &drawer{state: 11}
	for range 400 {
		args := draw.args()
		text, ok := impl.RequestText(args)
		if text != requestByHand(args...) || !ok {
			t.Fatalf("RequestText(%.120q) is %.120q, %v", args, text, ok)
		}
		mustParse(t, "whole", text, args, len(text), there)
		for cut := range len(text) {
			mustWait(t, "the first piece", text[:cut])
			mustParse(t, "both pieces", text[:cut]+text[cut:]+text[:cut], args, len(text), there)
		}
	}
}

func TestRequestsOneBehindTheOther(t *testing.T) {
	get := "*2\r\n$3\r\nGET\r\n$1\r\nx\r\n"
	for _, c := range []struct {
		name string
		buf  string
		list [][]string
		took int
		none bool
	}{
		{"nothing", "", nil, 0, false},
		{"one", get, someRequests(someArgs("GET", "x")), 20, false},
		{"a line", "GET x\n", someRequests(someArgs("GET", "x")), 6, false},
		{"two", get + get, someRequests(someArgs("GET", "x"), someArgs("GET", "x")), 40, false},
		{"both forms", get + "a\r\n*0\r\n\nb", someRequests(someArgs("GET", "x"), someArgs("a"), nil, nil), 28, false},
		{"no arguments in both forms", "\n\r\n*0\r\n  \n", someRequests(nil, nil, nil, nil), 10, false},
		{"what waits alone", "*2\r\n$3\r\nGE", nil, 0, false},
		{"what can be none alone", "*x", nil, 0, true},
		{"one, and what waits", get + "*", someRequests(someArgs("GET", "x")), 20, false},
		{"one, and a line that waits", get + "GET", someRequests(someArgs("GET", "x")), 20, false},
		{"one, and what can be none", get + "*9", someRequests(someArgs("GET", "x")), 20, true},
		{"lines, and what can be none", "a\nb c\n*1\r\n3\r\nd\n", someRequests(someArgs("a"), someArgs("b", "c")), 6, true},
		{"what can be none ahead of one", "*1 \r\n" + get, nil, 0, true},
		{"a line too long ahead of one", strings.Repeat("w", 81) + "\n" + get, nil, 0, true},
		{"a line with too many words behind one", get + "1 2 3 4 5 6 7 8 9\n" + get, someRequests(someArgs("GET", "x")), 20, true},
		{"a line with too many words that waits", get + "1 2 3 4 5 6 7 8 9", someRequests(someArgs("GET", "x")), 20, false},
		{"an empty line between", "*1\r\n$1\r\nx\r\n\r\ny\n", someRequests(someArgs("x"), nil, someArgs("y")), 15, false},
	} {
		mustTakeRequests(t, c.name, c.buf, c.list, c.took, c.none)
		list, took, none := plainRequests(c.buf)
		mustTakeRequests(t, c.name, c.buf, list, took, none)
	}
}

// All right requests in one text, cut at every place: those are told that are whole, and what is cut waits.
func TestRequestsCutAtEveryPlace(t *testing.T) {
	buf := ""
	var list [][]string
	var ends []int
	for _, c := range rightRequests() {
		buf += c.text
		list = append(list, c.args)
		ends = append(ends, len(buf))
	}
	for cut := range len(buf) + 1 {
		count, took := 0, 0
		for count < len(ends) && ends[count] <= cut {
			took = ends[count]
			count++
		}
		mustTakeRequests(t, "cut", buf[:cut], list[:count], took, false)
	}
	for name, wrong := range wrongTexts() {
		mustTakeRequests(t, name+" behind right ones", buf+wrong, list, len(buf), true)
		mustTakeRequests(t, name+" ahead of right ones", wrong+buf, nil, 0, true)
	}
	for name, waiting := range waitingTexts() {
		mustTakeRequests(t, name+" behind right ones", buf+waiting, list, len(buf), false)
	}
}

func TestManyRequests(t *testing.T) {
	list, took, none := impl.Requests(strings.Repeat("\n", 100000) + "*9")
	if len(list) != 100000 || took != 100000 || !none {
		t.Errorf("empty lines: %d, %d, %v", len(list), took, none)
	}
	text := requestByHand(manyArgs(8, someText(60))...)
	list, took, none = impl.Requests(strings.Repeat(text, 300) + text[:70])
	if len(list) != 300 || took != 300*len(text) || none {
		t.Errorf("the longest requests: %d, %d, %v", len(list), took, none)
	}
}

func (w *drawer) args() []string {
	var args []string
	for range w.below(impl.MaxArgs + 1) {
		arg := w.item()
		if w.below(4) == 0 {
			arg = []string{"\r\n", "*1\r\n", "$0\r\n\r\n", " ", "\n", "GET", "x y"}[w.below(7)]
		}
		args = append(args, arg[:min(len(arg), impl.MaxItem)])
	}
	return args
}

// requestLine draws the words of a line, and the line with some blanks between them.
func (w *drawer) requestLine() ([]string, string) {
	var words []string
	line := strings.Repeat(" ", w.below(3))
	for range w.below(impl.MaxArgs + 1) {
		word := []string{"GET", "x", "set", "10", "a\rb", "\xff", "q*", "$1"}[w.below(8)]
		words = append(words, word)
		line += word + strings.Repeat(" ", 1+w.below(3))
	}
	return words, line + []string{"\n", "\r\n"}[w.below(2)]
}

func (w *drawer) request() ([]string, string) {
	if w.below(2) == 0 {
		return w.requestLine()
	}
	args := w.args()
	return args, requestByHand(args...)
}

func (w *drawer) requests(count int) ([][]string, string) {
	var list [][]string
	buf := ""
	for range count {
		args, text := w.request()
		list = append(list, args)
		buf += text
	}
	return list, buf
}

// takeInPieces is handed bytes as they come: what is taken is cut off, the rest waits for the next piece.
func takeInPieces(t *testing.T, pieces []string) ([][]string, string) {
	t.Helper()
	var all [][]string
	rest := ""
	for _, piece := range pieces {
		rest += piece
		list, took, none := impl.Requests(rest)
		if none {
			t.Errorf("%.120q can be none", rest)
		}
		all = append(all, list...)
		rest = rest[took:]
	}
	return all, rest
}

func (w *drawer) pieces(text string, longest int) []string {
	var list []string
	for text != "" {
		length := min(w.below(longest+1), len(text))
		list = append(list, text[:length])
		text = text[length:]
	}
	return list
}

// In whatever pieces the bytes come, the same requests are told.
func TestRequestsInPieces(t *testing.T) {
	draw := &drawer{state: 1111}
	for range 60 {
		list, buf := draw.requests(1 + draw.below(12))
		for _, longest := range []int{1, 2, 3, 7, 40, 400, 4000} {
			got, rest := takeInPieces(t, draw.pieces(buf, longest))
			if !sameRequests(got, list) || rest != "" {
				t.Errorf("in pieces of up to %d bytes: %.200q, and %q waits, not %.200q", longest, got, rest, list)
			}
		}
		for cut := range len(buf) {
			got, rest := takeInPieces(t, []string{buf[:cut], buf[cut:]})
			if !sameRequests(got, list) || rest != "" {
				t.Errorf("in two pieces at %d: %.200q, and %q waits, not %.200q", cut, got, rest, list)
			}
		}
	}
}

// Whatever is done to drawn bytes, what is told is what the rule says, and one more byte never makes less of it.
func TestDrawnRequests(t *testing.T) {
	draw := &drawer{state: 111}
	nones := 0
	for range 4000 {
		_, buf := draw.requests(draw.below(5))
		for range draw.below(3) {
			buf = draw.damaged(buf)
		}
		list, took, none := plainRequests(buf)
		mustTakeRequests(t, "drawn", buf, list, took, none)
		mustParsePlainly(t, "drawn", buf)
		if none {
			nones++
			mustTakeRequests(t, "drawn, and more", buf+draw.item(), list, took, true)
		}
	}
	if nones < 500 {
		t.Errorf("only %d drawn texts can be none", nones)
	}
}

func TestAllShortPiecesOfAnyBytes(t *testing.T) {
	for a := range 256 {
		mustParsePlainly(t, "one byte", string([]byte{byte(a)}))
		for b := range 256 {
			mustParsePlainly(t, "two bytes", string([]byte{byte(a), byte(b)}))
			mustParsePlainly(t, "three bytes", string([]byte{byte(a), byte(b), '\n'}))
			mustParsePlainly(t, "behind a mark", string([]byte{'*', byte(a), byte(b), '\n'}))
		}
	}
}

func TestUpper(t *testing.T) {
	for _, c := range []struct{ text, want string }{
		{"", ""},
		{"get", "GET"},
		{"GET", "GET"},
		{"gEt", "GET"},
		{"abcdefghijklmnopqrstuvwxyz", "ABCDEFGHIJKLMNOPQRSTUVWXYZ"},
		{"ABCDEFGHIJKLMNOPQRSTUVWXYZ", "ABCDEFGHIJKLMNOPQRSTUVWXYZ"},
		{"0123456789", "0123456789"},
		{"`a{z@A[Z", "`A{Z@A[Z"},
		{"a b\r\n\x00c", "A B\r\n\x00C"},
		{"größe", "GRößE"},
		{"ıſÿµ", "ıſÿµ"},
		{"a\xffb\xc3", "A\xffB\xc3"},
		{"ǆ\u0345ŉ", "ǆ\u0345ŉ"},
		{strings.Repeat("xY", 20000), strings.Repeat("XY", 20000)},
	} {
		if got := impl.Upper(c.text); got != c.want {
			t.Errorf("Upper(%.40q) is %.40q, not %.40q", c.text, got, c.want)
		}
	}
	for b := range 256 {
		text, want := string([]byte{byte(b)}), string([]byte{byte(b)})
		if place := strings.IndexByte("abcdefghijklmnopqrstuvwxyz", byte(b)); place >= 0 {
			want = "ABCDEFGHIJKLMNOPQRSTUVWXYZ"[place : place+1]
		}
		if got := impl.Upper(text); got != want {
			t.Errorf("Upper(%q) is %q, not %q", text, got, want)
		}
		if got := impl.Upper("q" + text + "Q"); got != "Q"+want+"Q" {
			t.Errorf("Upper(%q) is %q", "q"+text+"Q", got)
		}
	}
}

// scribbleRequests writes over all lists of an answer, and over the room behind each.
func scribbleRequests(list [][]string) {
	for _, args := range list {
		for place := range args[:cap(args)] {
			args[:cap(args)][place] = "scribbled"
		}
	}
}

func TestParsedRequestsAreNewMemory(t *testing.T) {
	for _, c := range rightRequests() {
		args, _, _ := impl.ParseRequest(c.text)
		mustShareNoText(t, c.name, args, someArgs(c.text))
		scribbleRequests(someRequests(args))
		mustParse(t, c.name, c.text, c.args, len(c.text), there)
	}
	buf := ""
	for _, c := range rightRequests() {
		buf += c.text
	}
	before := strings.Clone(buf)
	list, _, _ := impl.Requests(buf)
	mustShareNoText(t, "all in one", slices.Concat(list...), someArgs(buf))
	for place, args := range list {
		scribbleRequests(someRequests(args))
		for other, c := range rightRequests()[place+1:] {
			if !slices.Equal(list[place+1+other], c.args) {
				t.Fatalf("the lists %d and %d of one answer share memory", place, place+1+other)
			}
		}
	}
	if buf != before {
		t.Error("Requests has changed its bytes")
	}
}

func TestWrittenRequestsLeaveTheirArguments(t *testing.T) {
	for _, c := range rightRequests() {
		room := append(slices.Clone(c.args), "room", "behind")
		came := room[:len(c.args)]
		text, _ := impl.RequestText(came)
		mustShareNoText(t, c.name, someArgs(text), came)
		if !slices.Equal(came, c.args) || !slices.Equal(room[len(c.args):], someArgs("room", "behind")) {
			t.Errorf("%s: RequestText has changed its arguments", c.name)
		}
	}
	for _, text := range someArgs("get", "GET", "abc 1", someText(60)) {
		came := strings.Clone(text)
		mustShareNoText(t, "Upper", someArgs(impl.Upper(came)), someArgs(came))
		if came != text {
			t.Errorf("Upper has changed %q", text)
		}
	}
}
