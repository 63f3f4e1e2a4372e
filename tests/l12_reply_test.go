package tests

import (
	"fmt"
	"math"
	"math/big"
	"regexp"
	"slices"
	"strconv"
	"strings"
	"testing"

	"loop.example/g00124/impl"
)

var (
	lineReply   = regexp.MustCompile(`(?s)^[-+].*?\r\n`)
	numberReply = regexp.MustCompile(`^:(0|-?[1-9][0-9]*)\r\n`)
	bulkHead    = regexp.MustCompile(`^\$(0|[1-9][0-9]{0,9})\r\n`)
	arrayHead   = regexp.MustCompile(`^\*(0|[1-9][0-9]*)\r\n`)
)

// plainReply is the rule again: it tells what stands behind a reply in which so many arrays may stand in one another.
func plainReply(text string, deep int) (string, bool) {
	if rest, ok := strings.CutPrefix(text, "$-1\r\n"); ok {
		return rest, true
	}
	if m := lineReply.FindString(text); m != "" {
		return text[len(m):], true
	}
	if m := numberReply.FindStringSubmatch(text); m != nil {
		n, _ := new(big.Int).SetString(m[1], 10)
		return text[len(m[0]):], n.IsInt64()
	}
	if m := bulkHead.FindStringSubmatch(text); m != nil {
		length, _ := strconv.ParseUint(m[1], 10, 64)
		rest := text[len(m[0]):]
		if uint64(len(rest)) < length {
			return "", false
		}
		return strings.CutPrefix(rest[length:], "\r\n")
	}
	if m := arrayHead.FindStringSubmatch(text); m != nil && deep > 0 {
		rest, ok := text[len(m[0]):], true
		count, _ := new(big.Int).SetString(m[1], 10)
		for n := new(big.Int); n.Cmp(count) < 0 && ok; n.Add(n, big.NewInt(1)) {
			rest, ok = plainReply(rest, deep-1)
		}
		return rest, ok
	}
	return "", false
}

func plainReplyAt(text string, at int) (int, bool) {
	if at < 0 || at > len(text) {
		return 0, false
	}
	rest, ok := plainReply(text[at:], 4)
	if !ok {
		return 0, false
	}
	return len(text) - len(rest), true
}

func plainReplies(text string) ([]string, bool) {
	var list []string
	for len(text) > 0 {
		rest, ok := plainReply(text, 4)
		if !ok {
			return nil, false
		}
		list = append(list, text[:len(text)-len(rest)])
		text = rest
	}
	return list, true
}

func mustReplyAt(t *testing.T, why, text string, at, want int, wantOk bool) {
	t.Helper()
	before := strings.Clone(text)
	behind, ok := impl.ReplyAt(text, at)
	if behind != want || ok != wantOk {
		t.Errorf("%s: ReplyAt(%.120q, %d) is %d, %v, not %d, %v", why, text, at, behind, ok, want, wantOk)
	}
	if text != before {
		t.Errorf("%s: ReplyAt has changed its text", why)
	}
}

// mustBeReply asks for one reply, whatever stands ahead of it and behind it.
func mustBeReply(t *testing.T, why, text string) {
	t.Helper()
	mustReplyAt(t, why, text, 0, len(text), true)
	mustReplyAt(t, why+", behind others", "+\r\n"+text, 3, len(text)+3, true)
	mustReplyAt(t, why+", behind what is none", "?"+text+"?", 1, len(text)+1, true)
	mustTellReplies(t, why, text, someArgs(text))
	mustTellReplies(t, why+", twice", text+text, someArgs(text, text))
}

func mustNotBeReply(t *testing.T, why, text string) {
	t.Helper()
	mustReplyAt(t, why, text, 0, 0, false)
	mustReplyAt(t, why+", behind another", ":1\r\n"+text, 4, 0, false)
}

func mustReplyAtPlainly(t *testing.T, why, text string, at int) bool {
	t.Helper()
	behind, ok := plainReplyAt(text, at)
	mustReplyAt(t, why, text, at, behind, ok)
	return ok
}

func mustTellReplies(t *testing.T, why, text string, want []string) {
	t.Helper()
	before := strings.Clone(text)
	list, ok := impl.Replies(text)
	if !slices.Equal(list, want) || !ok {
		t.Errorf("%s: Replies(%.120q) is %.120q, %v, not %.120q", why, text, list, ok, want)
	}
	if text != before {
		t.Errorf("%s: Replies has changed its text", why)
	}
}

func mustNotTellReplies(t *testing.T, why, text string) {
	t.Helper()
	if list, ok := impl.Replies(text); len(list) > 0 || ok {
		t.Errorf("%s: Replies(%.120q) is %.120q, %v", why, text, list, ok)
	}
}

func mustTellRepliesPlainly(t *testing.T, why, text string) bool {
	t.Helper()
	list, ok := plainReplies(text)
	if ok {
		mustTellReplies(t, why, text, list)
	} else {
		mustNotTellReplies(t, why, text)
	}
	return ok
}

func arrayByHand(list ...string) string {
	return fmt.Sprintf("*%d\r\n%s", len(list), strings.Join(list, ""))
}

func bulkByHand(text string) string { return fmt.Sprintf("$%d\r\n%s\r\n", len(text), text) }

// nested is so many arrays in one another, with this in the innermost.
func nested(deep int, inside ...string) string {
	text := arrayByHand(inside...)
	for range deep - 1 {
		text = arrayByHand(text)
	}
	return text
}

func nestedByImpl(deep int, inside ...string) string {
	text := impl.Array(inside)
	for range deep - 1 {
		text = impl.Array(someArgs(text))
	}
	return text
}

type namedReply struct{ name, text string }

// rightReplies are each one reply, as its writer writes it.
func rightReplies() []namedReply {
	list := []namedReply{
		{"a Simple of nothing", "+\r\n"},
		{"a Simple", "+OK\r\n"},
		{"a Simple of a byte", "+x\r\n"},
		{"a Simple of a CR", "+\r\r\n"},
		{"a Simple of a LF", "+\n\r\n"},
		{"a Simple of LF and CR", "+\n\r\r\n"},
		{"a Simple of CRs", "+\r\r\r\r\n"},
		{"a Simple with a CR inside", "+a\rb\r\n"},
		{"a Simple with a LF inside", "+a\nb\r\n"},
		{"a Simple of marks", "+*$:-+\r\n"},
		{"a Simple of a mark", "++\r\n"},
		{"a Simple of -1", "+-1\r\n"},
		{"a Simple of blanks", "+  \r\n"},
		{"a Simple of any bytes", "+\x00\xff\x80\x7fü\r\n"},
		{"a long Simple", "+" + strings.Repeat("x", 30000) + "\r\n"},
		{"a Fault of nothing", "-\r\n"},
		{"a Fault", "-ERR unknown\r\n"},
		{"a Fault of a CR", "-\r\r\n"},
		{"a Fault of a LF", "-\n\r\n"},
		{"a Fault of a number", "-1\r\n"},
		{"a Fault of a mark", "-*\r\n"},
		{"a Fault of -1", "--1\r\n"},
		{"a Number of 0", ":0\r\n"},
		{"a Number of 1", ":1\r\n"},
		{"a Number below 0", ":-1\r\n"},
		{"a Number of two figures", ":10\r\n"},
		{"a Number of many figures", ":1234567890\r\n"},
		{"the greatest Number", ":9223372036854775807\r\n"},
		{"the least Number", ":-9223372036854775808\r\n"},
		{"a Bulk of nothing", "$0\r\n\r\n"},
		{"a Bulk of a byte", "$1\r\nx\r\n"},
		{"a Bulk of some bytes", "$3\r\nabc\r\n"},
		{"a Bulk of a CR", "$1\r\n\r\r\n"},
		{"a Bulk of a LF", "$1\r\n\n\r\n"},
		{"a Bulk of CR and LF", "$2\r\n\r\n\r\n"},
		{"a Bulk of LF and CR", "$2\r\n\n\r\r\n"},
		{"a Bulk of -1", "$2\r\n-1\r\n"},
		{"a Bulk of a mark", "$1\r\n*\r\n"},
		{"a Bulk of its own mark", "$1\r\n$\r\n"},
		{"a Bulk of a Nil", "$5\r\n$-1\r\n\r\n"},
		{"a Bulk of a Bulk", "$7\r\n$1\r\nx\r\n\r\n"},
		{"a Bulk of an array", "$4\r\n*0\r\n\r\n"},
		{"a Bulk of what is none", "$4\r\n*9\r\n\r\n"},
		{"a Bulk of two figures", "$10\r\n0123456789\r\n"},
		{"a long Bulk", "$30000\r\n" + strings.Repeat("\r\n", 15000) + "\r\n"},
		{"Nil", "$-1\r\n"},
		{"an array of nothing", "*0\r\n"},
		{"an array of one", "*1\r\n:1\r\n"},
		{"an array of Nil", "*1\r\n$-1\r\n"},
		{"an array of an empty Simple", "*1\r\n+\r\n"},
		{"an array of each", "*6\r\n+OK\r\n-ERR\r\n:-7\r\n$1\r\nx\r\n$-1\r\n*0\r\n"},
		{"an array of ten", "*10\r\n" + strings.Repeat(":1\r\n", 10)},
		{"an array of very many", "*9999\r\n" + strings.Repeat("$-1\r\n", 9999)},
		{"an array of arrays of nothing", "*3\r\n*0\r\n*0\r\n*0\r\n"},
		{"an array in an array", "*1\r\n*1\r\n:1\r\n"},
		{"arrays among others", "*3\r\n:1\r\n*2\r\n:2\r\n:3\r\n:4\r\n"},
		{"arrays behind one another in one", "*2\r\n*1\r\n:1\r\n*2\r\n+a\r\n*1\r\n-b\r\n"},
		{"a deep array behind a deep one", arrayByHand(nested(3), nested(3, ":1\r\n"), nested(3), ":2\r\n")},
	}
	for deep := 1; deep <= 4; deep++ {
		list = append(list,
			namedReply{fmt.Sprint(deep, " deep, with nothing"), nested(deep)},
			namedReply{fmt.Sprint(deep, " deep, with a Number"), nested(deep, ":1\r\n")},
			namedReply{fmt.Sprint(deep, " deep, with a Bulk"), nested(deep, "$1\r\nx\r\n")},
			namedReply{fmt.Sprint(deep, " deep, with Nil and more"), nested(deep, "$-1\r\n", "+\r\n", "-\r\n", "$0\r\n\r\n")})
	}
	return list
}

// wrongReplies begin with no reply at all.
func wrongReplies() []namedReply {
	list := []namedReply{
		{"nothing", ""},
		{"a CR", "\r"},
		{"CR and LF", "\r\n"},
		{"a word", "OK\r\n"},
		{"a figure", "1\r\n"},
		{"a blank ahead", " +OK\r\n"},
		{"a Simple that ends with a LF", "+OK\n"},
		{"a Simple that ends with a CR", "+OK\r"},
		{"a Simple that ends with LF and CR", "+OK\n\r"},
		{"a Simple that does not end", "+OK"},
		{"a Fault that does not end", "-ERR \r \n"},
		{"a Number of no figure", ":\r\n"},
		{"a Number of a sign", ":-\r\n"},
		{"a Number with a plus", ":+1\r\n"},
		{"a Number of plus 0", ":+0\r\n"},
		{"a Number of minus 0", ":-0\r\n"},
		{"a Number with two signs", ":--1\r\n"},
		{"a Number with its sign behind", ":1-\r\n"},
		{"a Number with a zero ahead", ":01\r\n"},
		{"a Number of two zeroes", ":00\r\n"},
		{"a Number below 0 with a zero ahead", ":-01\r\n"},
		{"a Number with a blank ahead", ": 1\r\n"},
		{"a Number with a blank behind", ":1 \r\n"},
		{"a Number with a point", ":1.0\r\n"},
		{"a Number with an exponent", ":1e3\r\n"},
		{"a Number of other figures", ":0x1f\r\n"},
		{"a Number with a line between", ":1_000\r\n"},
		{"a Number of a letter", ":a\r\n"},
		{"a Number of another writing", ":\u0661\r\n"},
		{"a Number with another minus", ":\u22121\r\n"},
		{"a Number with a zero byte", ":1\x00\r\n"},
		{"a Number with a CR", ":1\r\r\n"},
		{"a Number with a LF", ":1\n\r\n"},
		{"a Number that ends with a LF", ":1\n"},
		{"a Number that ends with a CR", ":1\r"},
		{"a Number that does not end", ":1"},
		{"one above the greatest Number", ":9223372036854775808\r\n"},
		{"one below the least Number", ":-9223372036854775809\r\n"},
		{"a Number that wraps round to 1", ":18446744073709551617\r\n"},
		{"a Number of very many figures", ":" + strings.Repeat("9", 5000) + "\r\n"},
		{"a Number of very many zeroes", ":" + strings.Repeat("0", 5000) + "1\r\n"},
		{"a Bulk of no length", "$\r\n\r\n"},
		{"a Bulk of no length, with bytes", "$\r\nx\r\n"},
		{"a Bulk of -2", "$-2\r\n"},
		{"a Bulk of -2, with an end", "$-2\r\n\r\n"},
		{"a Bulk of -10", "$-10\r\n"},
		{"a Bulk of minus 0", "$-0\r\n\r\n"},
		{"a Bulk of plus 1", "$+1\r\nx\r\n"},
		{"a Bulk of the least length", "$-9223372036854775808\r\n\r\n"},
		{"a Bulk of -01", "$-01\r\n"},
		{"a Bulk of a sign", "$-\r\n"},
		{"a Bulk with a zero ahead", "$01\r\nx\r\n"},
		{"a Bulk of two zeroes", "$00\r\n\r\n"},
		{"a Bulk with a blank in its length", "$1 \r\nx\r\n"},
		{"a Bulk of a letter", "$x\r\nx\r\n"},
		{"a Bulk whose length ends with a LF", "$1\nx\r\n"},
		{"a Bulk without its end", "$1\r\nx"},
		{"a Bulk with a CR for its end", "$1\r\nx\r"},
		{"a Bulk with a LF for its end", "$1\r\nx\n"},
		{"a Bulk with LF and CR for its end", "$1\r\nx\n\r"},
		{"a Bulk with two CRs for its end", "$1\r\nx\r\r\n"},
		{"a Bulk with two LFs for its end", "$1\r\nx\n\n"},
		{"a Bulk that is longer than it tells", "$1\r\nxy\r\n"},
		{"a Bulk that is shorter than it tells", "$3\r\nab\r\n"},
		{"a Bulk that is shorter by its end", "$4\r\nab\r\n"},
		{"a Bulk that is longer than told as 0", "$0\r\nx\r\n"},
		{"a Bulk of nothing without its end", "$0\r\n"},
		{"a Bulk of nothing with a CR", "$0\r\n\r"},
		{"a Bulk of a length that takes others", "$3\r\nab\r\n:1\r\n"},
		{"a Bulk of a great length", "$1000000\r\nx\r\n"},
		{"a Bulk of the greatest length", "$9223372036854775807\r\nx\r\n"},
		{"a Bulk of a length ahead of it", "$9223372036854775803\r\nx\r\n"},
		{"a Bulk of a length that wraps round", "$18446744073709551617\r\nx\r\n"},
		{"a Bulk of a length that wraps round in 32 bits", "$4294967297\r\nx\r\n"},
		{"an array of no number", "*\r\n"},
		{"an array of -1", "*-1\r\n"},
		{"an array of minus 0", "*-0\r\n"},
		{"an array of plus 0", "*+0\r\n"},
		{"an array of the least number", "*-9223372036854775808\r\n"},
		{"an array with a zero ahead", "*01\r\n:1\r\n"},
		{"an array of two zeroes", "*00\r\n"},
		{"an array that ends with a LF", "*0\n"},
		{"an array that ends with a CR", "*0\r"},
		{"an array of one that is not there", "*1\r\n"},
		{"an array of two that has one", "*2\r\n:1\r\n"},
		{"an array of two that has one and a half", "*2\r\n:1\r\n:2"},
		{"an array of what is none", "*1\r\nx\r\n"},
		{"an array of CR and LF", "*1\r\n\r\n"},
		{"an array with a wrong second one", "*2\r\n:1\r\n:01\r\n"},
		{"an array with a wrong first one", "*2\r\n:01\r\n:1\r\n"},
		{"an array of the greatest number", "*9223372036854775807\r\n:1\r\n"},
		{"an array of a number that wraps round", "*18446744073709551617\r\n:1\r\n"},
		{"an array of a number that wraps round to 0", "*18446744073709551616\r\n"},
		{"an array of one in which one is not there", "*1\r\n*1\r\n"},
		{"an array in an array that takes from it", "*2\r\n*2\r\n:1\r\n:2\r\n"},
		{"an array with one that is too deep behind others", arrayByHand(":1\r\n", nested(4), ":2\r\n")},
	}
	for deep := 5; deep <= 9; deep++ {
		list = append(list,
			namedReply{fmt.Sprint(deep, " deep, with nothing"), nested(deep)},
			namedReply{fmt.Sprint(deep, " deep, with a Number"), nested(deep, ":1\r\n")},
			namedReply{fmt.Sprint(deep, " deep, with Nil and more"), nested(deep, "$-1\r\n", "+\r\n")})
	}
	return append(list, namedReply{"very deep", strings.Repeat("*1\r\n", 200000)})
}

func TestReplyConstant(t *testing.T) {
	if impl.MaxOut != 1000000 {
		t.Errorf("MaxOut is %d", impl.MaxOut)
	}
}

func mustWrite(t *testing.T, what, got, want string) {
	t.Helper()
	if got != want {
		t.Errorf("%s is %.120q, not %.120q", what, got, want)
	}
}

func textsForReplies() []string {
	list := []string{"", "OK", "ERR unknown", "\r", "\n", "\r\n", "\n\r", "a\r\nb", "*", "$", "-1", "+", ":", "*0\r\n", "$-1\r\n", " ", "  a b ", "0", "%s", "\x00\xff", "größe", someText(60), someText(20000), strings.Repeat("x", impl.MaxOut+1)}
	for b := range 256 {
		list = append(list, string([]byte{byte(b)}))
	}
	return list
}

func TestTextsAreWrittenAsReplies(t *testing.T) {
	for _, text := range textsForReplies() {
		mustWrite(t, fmt.Sprintf("Simple(%.40q)", text), impl.Simple(text), "+"+text+"\r\n")
		mustWrite(t, fmt.Sprintf("Fault(%.40q)", text), impl.Fault(text), "-"+text+"\r\n")
		mustWrite(t, fmt.Sprintf("Bulk(%.40q)", text), impl.Bulk(text), "$"+strconv.Itoa(len(text))+"\r\n"+text+"\r\n")
	}
	mustWrite(t, "Nil", impl.Nil(), "$-1\r\n")
	for _, c := range []struct{ got, want string }{
		{impl.Simple("OK"), "+OK\r\n"},
		{impl.Fault("ERR x"), "-ERR x\r\n"},
		{impl.Bulk(""), "$0\r\n\r\n"},
		{impl.Bulk("abc"), "$3\r\nabc\r\n"},
		{impl.Bulk("ü"), "$2\r\nü\r\n"},
		{impl.Bulk("0123456789"), "$10\r\n0123456789\r\n"},
		{impl.Bulk("-1"), "$2\r\n-1\r\n"},
	} {
		mustWrite(t, "a reply", c.got, c.want)
	}
}

func TestNumbersAreWrittenAsReplies(t *testing.T) {
	for _, c := range []struct {
		n    int
		want string
	}{
		{0, ":0\r\n"},
		{1, ":1\r\n"},
		{-1, ":-1\r\n"},
		{9, ":9\r\n"},
		{10, ":10\r\n"},
		{-10, ":-10\r\n"},
		{impl.MaxNumber, ":1000000000\r\n"},
		{-impl.MaxNumber - 1, ":-1000000001\r\n"},
		{math.MaxInt, ":9223372036854775807\r\n"},
		{math.MinInt, ":-9223372036854775808\r\n"},
	} {
		mustWrite(t, fmt.Sprintf("Number(%d)", c.n), impl.Number(c.n), c.want)
		mustBeReply(t, "a Number", impl.Number(c.n))
	}
	for n := -1500; n <= 1500; n++ {
		mustWrite(t, fmt.Sprintf("Number(%d)", n), impl.Number(n), ":"+strconv.Itoa(n)+"\r\n")
		mustBeReply(t, "a Number", impl.Number(n))
	}
}

func TestArraysAreWritten(t *testing.T) {
	for _, c := range []struct {
		list []string
		want string
	}{
		{nil, "*0\r\n"},
		{[]string{}, "*0\r\n"},
		{someArgs(":1\r\n"), "*1\r\n:1\r\n"},
		{someArgs("+OK\r\n", "-ERR\r\n"), "*2\r\n+OK\r\n-ERR\r\n"},
		{someArgs(":1\r\n", "$-1\r\n", "$1\r\nx\r\n"), "*3\r\n:1\r\n$-1\r\n$1\r\nx\r\n"},
		{someArgs("*0\r\n"), "*1\r\n*0\r\n"},
		{someArgs("*1\r\n:1\r\n", "*0\r\n"), "*2\r\n*1\r\n:1\r\n*0\r\n"},
		// Each stands there as it is, also what is no reply.
		{someArgs(""), "*1\r\n"},
		{someArgs("", "", ""), "*3\r\n"},
		{someArgs("x"), "*1\r\nx"},
		{someArgs("OK", "\r\n", "*9"), "*3\r\nOK\r\n*9"},
		{someArgs("\xff", "\x00"), "*2\r\n\xff\x00"},
		{manyArgs(12, ":1\r\n"), "*12\r\n" + strings.Repeat(":1\r\n", 12)},
		{manyArgs(100000, "$-1\r\n"), "*100000\r\n" + strings.Repeat("$-1\r\n", 100000)},
		{someArgs(strings.Repeat("x", impl.MaxOut+1)), "*1\r\n" + strings.Repeat("x", impl.MaxOut+1)},
		{someArgs(nested(5, ":1\r\n")), nested(6, ":1\r\n")},
	} {
		mustWrite(t, fmt.Sprintf("Array(%.80q)", c.list), impl.Array(c.list), c.want)
	}
}

func TestOneReplyIsTold(t *testing.T) {
	for _, c := range rightReplies() {
		mustBeReply(t, c.name, c.text)
		mustReplyAtPlainly(t, c.name, c.text, 0)
		mustTellRepliesPlainly(t, c.name, c.text)
		for _, behind := range behinds() {
			mustReplyAt(t, c.name+", and more", c.text+behind, 0, len(c.text), true)
		}
	}
}

func TestCutRepliesAreNone(t *testing.T) {
	for _, c := range rightReplies() {
		step := max(1, len(c.text)/500)
		for cut := 0; cut < len(c.text); cut += step {
			mustNotBeReply(t, c.name+", cut", c.text[:cut])
			if cut > 0 {
				mustNotTellReplies(t, c.name+", cut", c.text[:cut])
				mustNotTellReplies(t, c.name+", cut behind others", ":1\r\n"+c.text[:cut])
			}
		}
		last := len(c.text) - 1
		mustNotBeReply(t, c.name+", without its LF", c.text[:last])
		mustNotTellReplies(t, c.name+", without its LF", c.text[:last])
		mustNotBeReply(t, c.name+", without its CR and LF", c.text[:last-1])
	}
}

func TestWhatIsNoReply(t *testing.T) {
	for _, c := range wrongReplies() {
		mustNotBeReply(t, c.name, c.text)
		if c.name != "very deep" {
			mustReplyAtPlainly(t, c.name, c.text, 0)
		}
		if c.text == "" {
			continue
		}
		mustNotTellReplies(t, c.name, c.text)
		mustNotTellReplies(t, c.name+" behind another", "$-1\r\n"+c.text)
		mustNotTellReplies(t, c.name+" behind several", "+OK\r\n*1\r\n:1\r\n$2\r\n\r\n\r\n"+c.text)
	}
}

func TestFirstBytesOfReplies(t *testing.T) {
	for b := range 256 {
		first := string([]byte{byte(b)})
		for _, rest := range someArgs("", "\r\n", "0\r\n", "1\r\n", "-1\r\n", "0\r\n\r\n", "1\r\nx\r\n", "1\r\n:1\r\n") {
			mustReplyAtPlainly(t, "a first byte", first+rest, 0)
			mustTellRepliesPlainly(t, "a first byte", first+rest)
			if !strings.Contains("+-:$*", first) {
				mustNotBeReply(t, "another first byte", first+rest)
				mustNotTellReplies(t, "another first byte", first+rest)
			}
		}
	}
}

// A line that has CR and LF of its own ends with the first ones: nothing tells them from its end.
func TestLinesEndWithTheFirstCRAndLF(t *testing.T) {
	for _, write := range []func(string) string{impl.Simple, impl.Fault} {
		mustReplyAt(t, "CR and LF alone", write("\r\n"), 0, 3, true)
		mustNotTellReplies(t, "CR and LF alone", write("\r\n"))
		mustReplyAt(t, "CR and LF inside", write("a\r\nb"), 0, 4, true)
		mustNotTellReplies(t, "CR and LF inside", write("a\r\nb"))
		mustTellReplies(t, "a reply inside", write("a\r\n:1"), someArgs(write("a"), ":1\r\n"))
		mustReplyAt(t, "CR, CR and LF", write("\r\r\n"), 0, 4, true)
		mustReplyAt(t, "CR and LF behind a CR", write("\r"), 0, 4, true)
	}
}

func TestPlacesOfReplies(t *testing.T) {
	text := ":1\r\n$2\r\n:7\r\n*1\r\n+OK\r\n"
	for _, c := range []struct {
		why      string
		at, want int
		ok       bool
	}{
		{"the least place", math.MinInt, 0, false},
		{"far below 0", -100, 0, false},
		{"below 0", -1, 0, false},
		{"0", 0, 4, true},
		{"inside the first one", 1, 0, false},
		{"at its CR", 2, 0, false},
		{"at its LF", 3, 0, false},
		{"behind it", 4, 12, true},
		{"inside the second one", 5, 0, false},
		{"inside the second one, where another one begins", 8, 12, true},
		{"inside its bytes", 9, 0, false},
		{"behind it", 12, 21, true},
		{"inside the third one", 13, 0, false},
		{"at what is in it", 16, 21, true},
		{"inside of that", 17, 0, false},
		{"the last byte", 20, 0, false},
		{"the length", 21, 0, false},
		{"past it", 22, 0, false},
		{"far past it", 10000, 0, false},
		{"the greatest place", math.MaxInt, 0, false},
	} {
		mustReplyAt(t, c.why, text, c.at, c.want, c.ok)
		mustReplyAtPlainly(t, c.why, text, c.at)
	}
	for _, at := range []int{math.MinInt, -1, 0, 1, math.MaxInt} {
		mustReplyAt(t, "nothing", "", at, 0, false)
	}
}

func TestRepliesOfNothing(t *testing.T) {
	mustTellReplies(t, "nothing", "", nil)
}

// All right replies in one text: each place is held against the rule, and they are told apart again.
func TestRepliesOneBehindTheOther(t *testing.T) {
	var list []string
	for _, c := range rightReplies() {
		if len(c.text) < 1000 {
			list = append(list, c.text)
		}
	}
	text := strings.Join(list, "")
	mustTellReplies(t, "all", text, list)
	at := 0
	for _, reply := range list {
		mustReplyAt(t, "all", text, at, at+len(reply), true)
		at += len(reply)
	}
	for at := -1; at <= len(text)+1; at++ {
		mustReplyAtPlainly(t, "all", text, at)
	}
	whole := 0
	for cut := range len(text) + 1 {
		if mustTellRepliesPlainly(t, "all, cut", text[:cut]) {
			whole++
		}
	}
	if whole < len(list)+1 {
		t.Errorf("only %d cuts leave whole replies", whole)
	}
	for _, c := range wrongReplies() {
		if c.text != "" {
			mustNotTellReplies(t, c.name+" behind all", text+c.text)
		}
	}
}

// What each of the six writers wrote is told apart again, as it was written.
func TestWrittenRepliesAreToldApart(t *testing.T) {
	texts := []string{"", "x", "OK", "\r", "\n", "\n\r", "a\rb\nc", "*", "$", "-1", "*1", "$-1", ":", "+", "\x00\xff", "größe", someText(60)}
	var list []string
	for _, text := range texts {
		list = append(list, impl.Simple(text), impl.Fault(text), impl.Bulk(text), impl.Bulk(text+"\r\n"), impl.Array(someArgs(impl.Bulk(text))))
	}
	for _, n := range []int{0, 1, -1, 10, -10, math.MaxInt, math.MinInt} {
		list = append(list, impl.Number(n), impl.Nil())
	}
	list = append(list, impl.Array(nil), impl.Array(list), impl.Array(someArgs(impl.Array(list), impl.Nil(), impl.Array(nil))))
	for place, reply := range list {
		mustBeReply(t, "written", reply)
		for _, other := range list[:place] {
			mustTellReplies(t, "two", reply+other, someArgs(reply, other))
			mustReplyAt(t, "two", reply+other, len(reply), len(reply)+len(other), true)
		}
	}
	mustTellReplies(t, "all", strings.Join(list, ""), list)
	mustBeReply(t, "all in an array", impl.Array(list))
}

func TestArraysInArrays(t *testing.T) {
	insides := [][]string{nil, {":1\r\n"}, {"$-1\r\n"}, {"+\r\n", "$1\r\nx\r\n"}, {"$0\r\n\r\n", "-ERR\r\n", ":-1\r\n"}}
	for _, inside := range insides {
		for deep := 1; deep <= 12; deep++ {
			text := nestedByImpl(deep, inside...)
			mustWrite(t, "arrays in one another", text, nested(deep, inside...))
			why := fmt.Sprint(deep, " deep, with ", len(inside))
			if deep <= 4 {
				mustBeReply(t, why, text)
				continue
			}
			mustNotBeReply(t, why, text)
			mustNotTellReplies(t, why, text)
			// From its place on, an inner one is told.
			mustReplyAt(t, why, text, 4*(deep-4), len(text), true)
		}
	}
	// How deep others stand beside one counts nothing.
	beside := arrayByHand(":1\r\n", nested(3), nested(2, ":2\r\n"), nested(3, ":3\r\n"), "$-1\r\n", nested(1))
	mustBeReply(t, "arrays beside one another", beside)
	mustNotBeReply(t, "one of them too deep", arrayByHand(":1\r\n", nested(3), nested(4), ":2\r\n"))
	mustNotBeReply(t, "the last one too deep", arrayByHand(nested(3), nested(3, nested(1))))
	mustTellReplies(t, "deep ones behind one another", strings.Repeat(nested(4), 50), manyArgs(50, nested(4)))
}

// An array takes as many replies as it tells: what is more stands behind it, what is less makes it none.
func TestHowManyAnArrayTells(t *testing.T) {
	one := "$1\r\nx\r\n"
	for told := range 40 {
		for stand := range 40 {
			text := fmt.Sprintf("*%d\r\n", told) + strings.Repeat(one, stand)
			if told > stand {
				mustNotBeReply(t, "an array that tells more", text)
				mustNotTellReplies(t, "an array that tells more", text)
				mustNotBeReply(t, "an array in one, that tells more", "*1\r\n"+text)
				continue
			}
			head := len(fmt.Sprintf("*%d\r\n", told)) + told*len(one)
			mustReplyAt(t, "an array that tells less", text, 0, head, true)
			mustTellReplies(t, "an array that tells less", text, append(someArgs(text[:head]), manyArgs(stand-told, one)...))
			mustReplyAt(t, "an array in one, that tells less", "*1\r\n"+text, 0, 4+head, true)
		}
	}
}

func TestLengthsOfBulks(t *testing.T) {
	for told := -3; told < 60; told++ {
		for stand := range 60 {
			text := fmt.Sprintf("$%d\r\n%s\r\n", told, strings.Repeat("x", stand))
			ok := mustReplyAtPlainly(t, "a Bulk", text, 0)
			if ok != (told == stand || told == -1) {
				t.Errorf("a Bulk that tells %d and has %d bytes is %v", told, stand, ok)
			}
			mustTellRepliesPlainly(t, "a Bulk", text)
			mustReplyAtPlainly(t, "a Bulk of CRs", strings.ReplaceAll(text, "x", "\r"), 0)
			mustReplyAtPlainly(t, "a Bulk of LFs", strings.ReplaceAll(text, "x", "\n"), 0)
			mustReplyAtPlainly(t, "a Bulk of ends", strings.ReplaceAll(text, "x", "\r\n"), 0)
		}
	}
}

func TestNumbersInReplies(t *testing.T) {
	limit, one := big.NewInt(math.MaxInt64), big.NewInt(1)
	for n := range 300 {
		up := new(big.Int).Add(limit, big.NewInt(int64(n-150)))
		down := new(big.Int).Sub(new(big.Int).Neg(up), one)
		for _, number := range []*big.Int{up, down} {
			text := ":" + number.String() + "\r\n"
			if number.IsInt64() {
				mustBeReply(t, "a number at its limit", text)
			} else {
				mustNotBeReply(t, "a number past its limit", text)
				mustNotTellReplies(t, "a number past its limit", text)
			}
		}
	}
	for power := uint(60); power < 200; power++ {
		number := new(big.Int).Lsh(one, power)
		for _, text := range someArgs(number.String(), new(big.Int).Add(number, one).String(), new(big.Int).Neg(number).String()) {
			mustReplyAtPlainly(t, "a great number", ":"+text+"\r\n", 0)
			mustNotBeReply(t, "a great length", "$"+text+"\r\n\r\n")
			mustNotBeReply(t, "a great count", "*"+text+"\r\n:1\r\n")
		}
	}
}

func TestRepliesOfTheGreatestLength(t *testing.T) {
	most := impl.MaxOut
	bulk := impl.Bulk(strings.Repeat("x", most-11))
	bulkList := strings.Repeat("$-1\r\n", most/5)
	simple := "+" + strings.Repeat("\n", most-3) + "\r\n"
	array := impl.Array(manyArgs(most/4, ":1\r\n"))
	for _, c := range []struct {
		why, text string
		count     int
	}{
		{"one Bulk", bulk, 1},
		{"many of one kind", bulkList, most / 5},
		{"one line", simple, 1},
		{"empty lines", ":1\r\n" + strings.Repeat("+\r\n", (most-4)/3), 1 + (most-4)/3},
	} {
		if len(c.text) > most || len(c.text) < most-2 {
			t.Fatalf("%s: %d bytes", c.why, len(c.text))
		}
		list, ok := impl.Replies(c.text)
		if len(list) != c.count || !ok || strings.Join(list, "") != c.text {
			t.Errorf("%s: %d, %v", c.why, len(list), ok)
		}
	}
	if len(bulk) != most || len(simple) != most {
		t.Fatalf("%d and %d bytes", len(bulk), len(simple))
	}
	longer := impl.Bulk(strings.Repeat("x", most-10))
	if len(longer) != most+1 {
		t.Fatalf("%d bytes", len(longer))
	}
	for _, text := range someArgs(longer, "+"+simple, bulk+":1\r\n", bulkList+"$-1\r\n", ":1\r\n"+bulk, strings.Repeat("x", most+1), array) {
		mustNotTellReplies(t, "longer than MaxOut", text)
	}
	// ReplyAt has no such limit.
	mustReplyAt(t, "one byte more", longer, 0, most+1, true)
	mustReplyAt(t, "one line more", "+"+simple, 0, most+1, true)
	mustReplyAt(t, "far behind", bulk+":1\r\n", most, most+4, true)
	mustReplyAt(t, "in a long text", bulk+bulk, most, 2*most, true)
	mustReplyAt(t, "a long array", array, 0, len(array), true)
	mustReplyAt(t, "a long array without its end", array[:len(array)-1], 0, 0, false)
}

// tryShortReplies holds all texts of at most so many of these pieces against the rule, behind what stands ahead.
func tryShortReplies(t *testing.T, ahead string, pieces []string, count int, told *[2]int) {
	t.Helper()
	ok := mustReplyAtPlainly(t, "short texts", ahead, 0)
	mustTellRepliesPlainly(t, "short texts", ahead)
	if ok {
		told[1]++
	} else {
		told[0]++
	}
	if count == 0 {
		return
	}
	for _, piece := range pieces {
		tryShortReplies(t, ahead+piece, pieces, count-1, told)
	}
}

func TestShortTextsAsReplies(t *testing.T) {
	var told [2]int
	tryShortReplies(t, "", strings.Split("+-:$*01\r\na", ""), 4, &told)
	tryShortReplies(t, "", someArgs("+", ":", "$", "*", "0", "1", "-", "\r\n"), 5, &told)
	tryShortReplies(t, "+", strings.Split("\r\n+a", ""), 6, &told)
	tryShortReplies(t, ":", someArgs("-", "0", "1", "9", "+", "\r\n"), 5, &told)
	tryShortReplies(t, "$", someArgs("-", "0", "1", "2", "\r\n", "x"), 5, &told)
	tryShortReplies(t, "$1\r\n", strings.Split("\r\nx", ""), 7, &told)
	tryShortReplies(t, "$2\r\n", strings.Split("\r\nx", ""), 7, &told)
	tryShortReplies(t, "", someArgs("*0\r\n", "*1\r\n", "*2\r\n", ":1\r\n", "$-1\r\n"), 6, &told)
	tryShortReplies(t, "*1\r\n*1\r\n*1\r\n", someArgs("*0\r\n", "*1\r\n", "*2\r\n", "+\r\n", "$1\r\n*\r\n"), 5, &told)
	for ok, count := range told {
		if count < 2000 {
			t.Errorf("only %d short texts are told %d", count, ok)
		}
	}
}

// Each byte of right replies is turned to every other one.
func TestTurnedBytesInReplies(t *testing.T) {
	text := "+OK\r\n-ERR\r\n:-70\r\n$3\r\na\r\n\r\n$-1\r\n*0\r\n*2\r\n*1\r\n:12\r\n$10\r\n*1\r\n$1\r\nx\r\r\n"
	if !mustTellRepliesPlainly(t, "not turned", text) {
		t.Fatal("no replies")
	}
	for at := range len(text) {
		for b := range 256 {
			turned := text[:at] + string([]byte{byte(b)}) + text[at+1:]
			mustTellRepliesPlainly(t, "one byte turned", turned)
			for _, place := range []int{0, 5, 11, 17, 26, 31, 35, at, at + 1} {
				mustReplyAtPlainly(t, "one byte turned", turned, place)
			}
			mustTellRepliesPlainly(t, "one byte more", text[:at]+string([]byte{byte(b)})+text[at:])
		}
		mustTellRepliesPlainly(t, "one byte less", text[:at]+text[at+1:])
	}
}

// lineText draws what a line tells: it has no CR and LF of its own.
func (w *drawer) lineText() string {
	texts := []string{"OK", "", "ERR unknown", "WRONGTYPE", "\r", "\n", "a\rb", "\n\r", "*", "$1", "-1", "\xff\x00"}
	return texts[w.below(len(texts))]
}

func (w *drawer) wholeNumber() int {
	switch w.below(8) {
	case 0:
		return math.MaxInt - w.below(3)
	case 1:
		return math.MinInt + w.below(3)
	}
	return (w.below(3) - 1) * w.below(1+w.below(1000000))
}

// reply draws one as its writer writes it, in which so many arrays may stand in one another; and the same by hand.
func (w *drawer) reply(deep int) (string, string) {
	kinds := 8
	if deep == 0 {
		kinds = 5
	}
	switch w.below(kinds) {
	case 0:
		text := w.lineText()
		return impl.Simple(text), "+" + text + "\r\n"
	case 1:
		text := w.lineText()
		return impl.Fault(text), "-" + text + "\r\n"
	case 2:
		n := w.wholeNumber()
		return impl.Number(n), fmt.Sprintf(":%d\r\n", n)
	case 3:
		return impl.Nil(), "$-1\r\n"
	case 4:
		text := []string{w.item(), "\r\n", "*1\r\n", "$-1\r\n", "+OK\r\n"}[w.below(5)]
		return impl.Bulk(text), bulkByHand(text)
	}
	var list, byHand []string
	for range w.below(5) {
		reply, same := w.reply(deep - 1)
		list, byHand = append(list, reply), append(byHand, same)
	}
	return impl.Array(list), arrayByHand(byHand...)
}

func TestDrawnReplies(t *testing.T) {
	draw := &drawer{state: 12}
	for range 3000 {
		var list, byHand []string
		for range draw.below(8) {
			reply, same := draw.reply(4)
			list, byHand = append(list, reply), append(byHand, same)
		}
		if !slices.Equal(list, byHand) {
			t.Fatalf("%q is written, not %q", list, byHand)
		}
		text := strings.Join(list, "")
		mustTellReplies(t, "drawn", text, list)
		at := 0
		for _, reply := range list {
			mustReplyAt(t, "drawn", text, at, at+len(reply), true)
			at += len(reply)
		}
		place := draw.below(len(text) + 1)
		mustReplyAtPlainly(t, "drawn, at any place", text, place)
		mustTellRepliesPlainly(t, "drawn, from any place on", text[place:])
		mustTellRepliesPlainly(t, "drawn, up to any place", text[:place])
	}
}

func TestDamagedReplies(t *testing.T) {
	draw := &drawer{state: 1212}
	nones := 0
	for range 6000 {
		text := ""
		for range 1 + draw.below(5) {
			reply, _ := draw.reply(5)
			text += reply
		}
		for range 1 + draw.below(3) {
			text = draw.damaged(text)
		}
		if !mustTellRepliesPlainly(t, "damaged", text) {
			nones++
		}
		mustReplyAtPlainly(t, "damaged", text, 0)
		mustReplyAtPlainly(t, "damaged, at any place", text, draw.below(len(text)+2)-1)
	}
	if nones < 1000 || nones > 5900 {
		t.Errorf("%d of 6000 damaged texts are none", nones)
	}
}

func TestToldRepliesAreNewMemory(t *testing.T) {
	var came []string
	for _, c := range rightReplies() {
		if len(c.text) < 1000 {
			came = append(came, c.text)
		}
		list, _ := impl.Replies(c.text)
		mustShareNoText(t, c.name, list, someArgs(c.text))
	}
	text := strings.Join(came, "")
	before := strings.Clone(text)
	list, _ := impl.Replies(text)
	mustShareNoText(t, "all", list, append(someArgs(text), came...))
	scribbleRequests([][]string{list})
	mustTellReplies(t, "all, told again", text, came)
	if text != before {
		t.Error("Replies has changed its text")
	}
}

func TestWrittenRepliesAreNewMemory(t *testing.T) {
	for _, text := range append(textsForReplies(), "OK\r\n") {
		came := strings.Clone(text)
		told := someArgs(impl.Simple(came), impl.Fault(came), impl.Bulk(came), impl.Array(someArgs(came)), impl.Array(someArgs(came, "")), impl.Array(someArgs("", came)))
		mustShareNoText(t, "written", told, someArgs(came))
		if came != text {
			t.Errorf("%.40q was changed", text)
		}
	}
	mustShareNoText(t, "the same again", someArgs(impl.Nil(), impl.Nil(), impl.Number(1), impl.Number(1), impl.Array(nil), impl.Array(nil)), nil)
}

func TestArrayLeavesItsList(t *testing.T) {
	for count := range 20 {
		room := manyArgs(count+3, "")
		for place := range room {
			room[place] = impl.Number(place)
		}
		before := slices.Clone(room)
		came := room[:count]
		text := impl.Array(came)
		mustShareNoText(t, "an array", someArgs(text), room)
		mustBeReply(t, "an array", text)
		if !slices.Equal(room, before) {
			t.Errorf("Array has changed a list of %d, or the room behind it", count)
		}
		mustWrite(t, "the same array again", impl.Array(came), text)
	}
}
