package tests

import (
	"fmt"
	"maps"
	"math/big"
	"slices"
	"strconv"
	"strings"
	"testing"

	"loop.example/g00124/impl"
)

const (
	okReply      = "+OK\r\n"
	nilReply     = "$-1\r\n"
	wrongReply   = "-WRONGTYPE\r\n"
	notIntReply  = "-ERR integer\r\n"
	tooMuchReply = "-ERR limit\r\n"
)

func numberByHand(n int) string { return ":" + strconv.Itoa(n) + "\r\n" }

// words are arguments that have no blanks and are not empty.
func words(line string) []string { return strings.Fields(line) }

func textCommandNames() []string {
	return words("GET SET SETNX GETSET APPEND STRLEN INCR DECR INCRBY DECRBY MGET MSET")
}

func isFault(reply string) bool { return strings.HasPrefix(reply, "-") }

// plainOnTexts is the rule again, over a map: what the program answers is held against it.
func plainOnTexts(table []impl.Entry, args []string) ([]impl.Entry, string, bool) {
	c, known := plainCommand(args)
	if !known || !c.takesByHand(len(args)-1) || !slices.Contains(textCommandNames(), c.name) || !rightTableByHand(table) {
		return nil, "", false
	}
	vals := mapOf(table)
	reply := plainTextCommand(vals, c.name, args[1:])
	if isFault(reply) {
		return table, reply, true
	}
	return tableOfMap(vals), reply, true
}

func tableOfMap(vals map[string]impl.Val) []impl.Entry {
	var table []impl.Entry
	for _, key := range slices.Sorted(maps.Keys(vals)) {
		table = append(table, entry(key, vals[key]))
	}
	return table
}

// plainTextCommand may leave the map half done behind a fault.
func plainTextCommand(vals map[string]impl.Val, name string, args []string) string {
	v, there := vals[args[0]]
	switch {
	case name == "MGET":
		var list []string
		for _, key := range args {
			list = append(list, plainGet(vals, key))
		}
		return arrayByHand(list...)
	case name == "MSET" && len(args) > 2:
		if reply := plainSet(vals, args[0], textVal(args[1]), okReply); isFault(reply) {
			return reply
		}
		return plainTextCommand(vals, name, args[2:])
	case name == "MSET" || name == "SET":
		return plainSet(vals, args[0], textVal(args[1]), okReply)
	case name == "SETNX" && there:
		return ":0\r\n"
	case name == "SETNX":
		return plainSet(vals, args[0], textVal(args[1]), ":1\r\n")
	case there && v.Kind != 1:
		return wrongReply
	case name == "GET":
		return plainGet(vals, args[0])
	case name == "STRLEN":
		return numberByHand(len(v.Text))
	case name == "GETSET":
		return plainSet(vals, args[0], textVal(args[1]), plainGet(vals, args[0]))
	case name == "APPEND":
		longer := untilTime(textVal(v.Text+args[1]), v.Until)
		return plainSet(vals, args[0], longer, numberByHand(len(longer.Text)))
	}
	return plainCount(vals, name, args)
}

func plainGet(vals map[string]impl.Val, key string) string {
	if v, there := vals[key]; there && v.Kind == 1 {
		return bulkByHand(v.Text)
	}
	return nilReply
}

func plainSet(vals map[string]impl.Val, key string, v impl.Val, reply string) string {
	vals[key] = v
	if !rightTableByHand(tableOfMap(vals)) {
		return tooMuchReply
	}
	return reply
}

func plainCount(vals map[string]impl.Val, name string, args []string) string {
	v, there := vals[args[0]]
	list := append(slices.Clone(args), "1")
	if !there {
		list = append(list, "0")
	} else {
		list = append(list, v.Text)
	}
	told, toldOk := plainInt(list[1])
	stands, standsOk := plainInt(list[len(list)-1])
	if !toldOk || !standsOk {
		return notIntReply
	}
	sum := stands + told
	if strings.HasPrefix(name, "DECR") {
		sum = stands - told
	}
	text := strconv.Itoa(sum)
	if _, ok := plainInt(text); !ok {
		return tooMuchReply
	}
	return plainSet(vals, args[0], untilTime(textVal(text), v.Until), ":"+text+"\r\n")
}

type onTable = func(table []impl.Entry, args []string) ([]impl.Entry, string, bool)

// layer is one of the functions that do commands to a table, beside its rule by hand.
type layer struct {
	label string
	names []string
	on    onTable
	plain onTable
}

func textLayer() layer { return layer{"OnTexts", textCommandNames(), impl.OnTexts, plainOnTexts} }

// mustAnswer asks twice, with room behind all that comes in: neither that room, nor what came in, nor the other answer may be touched.
func (l layer) mustAnswer(t *testing.T, why string, table []impl.Entry, args []string, behind []impl.Entry, reply string, ok bool) {
	t.Helper()
	came, room := roomyTable(table)
	before := copyTable(wholeTable(room))
	argsRoom := append(slices.Clone(args), "room", "behind")
	argsBefore := slices.Clone(argsRoom)
	first, firstReply, firstOk := l.on(came, argsRoom[:len(args)])
	second, secondReply, secondOk := l.on(came, argsRoom[:len(args)])
	if !sameTable(first, behind) || firstReply != reply || firstOk != ok {
		t.Errorf("%s: %s(%s, %.40q): %s %.100q %v, want %s %.100q %v", why, l.label, briefTable(table), args, briefTable(first), firstReply, firstOk, briefTable(behind), reply, ok)
	}
	scribbleTable(first)
	if !sameTable(second, behind) || secondReply != reply || secondOk != ok {
		t.Errorf("%s: %s(%s, %.40q), once more: %s %.100q %v", why, l.label, briefTable(table), args, briefTable(second), secondReply, secondOk)
	}
	if !sameTable(wholeTable(room), before) || !slices.Equal(argsRoom, argsBefore) {
		t.Errorf("%s: %s(%s, %.40q) has changed what came in", why, l.label, briefTable(table), args)
	}
}

// mustDo wants a reply that is one, and a right table; where the reply is a fault, the table that came in.
func (l layer) mustDo(t *testing.T, why string, table []impl.Entry, args []string, behind []impl.Entry, reply string) {
	t.Helper()
	l.mustAnswer(t, why, table, args, behind, reply, true)
	mustTellReplies(t, why, reply, someArgs(reply))
	if !impl.TableOk(behind) || isFault(reply) && !sameTable(table, behind) {
		t.Errorf("%s: the test wants what cannot be", why)
	}
}

func (l layer) mustFail(t *testing.T, why string, table []impl.Entry, args []string, fault string) {
	t.Helper()
	l.mustDo(t, why, table, args, table, fault)
	if !isFault(fault) {
		t.Errorf("%s: the test wants no fault, but %q", why, fault)
	}
}

func (l layer) mustNotDo(t *testing.T, why string, table []impl.Entry, args []string) {
	t.Helper()
	l.mustAnswer(t, why, table, args, nil, "", false)
}

// mustDoPlainly tells what became of the command: a reply's mark, or nothing.
func (l layer) mustDoPlainly(t *testing.T, why string, table []impl.Entry, args []string) string {
	t.Helper()
	behind, reply, ok := l.plain(table, args)
	l.mustAnswer(t, why, table, args, behind, reply, ok)
	if isFault(reply) {
		return reply
	}
	return reply[:min(1, len(reply))]
}

// after does commands one behind the other, none of which may fail, and tells the table.
func (l layer) after(t *testing.T, table []impl.Entry, commands ...[]string) []impl.Entry {
	t.Helper()
	for _, args := range commands {
		behind, reply, ok := l.on(table, args)
		if !ok || isFault(reply) {
			t.Fatalf("%s(%.40q): %q %v", l.label, args, reply, ok)
		}
		table = behind
	}
	return table
}

func mustDo(t *testing.T, why string, table []impl.Entry, args []string, behind []impl.Entry, reply string) {
	t.Helper()
	textLayer().mustDo(t, why, table, args, behind, reply)
}

func mustFail(t *testing.T, why string, table []impl.Entry, args []string, fault string) {
	t.Helper()
	textLayer().mustFail(t, why, table, args, fault)
}

func mustNotDo(t *testing.T, why string, table []impl.Entry, args []string) {
	t.Helper()
	textLayer().mustNotDo(t, why, table, args)
}

func mustDoPlainly(t *testing.T, why string, table []impl.Entry, args []string) string {
	t.Helper()
	return textLayer().mustDoPlainly(t, why, table, args)
}

func afterTexts(t *testing.T, table []impl.Entry, commands ...[]string) []impl.Entry {
	t.Helper()
	return textLayer().after(t, table, commands...)
}

func TestTextConstantsAreTold(t *testing.T) {
	if got := someArgs(impl.Wrong, impl.NotInt, impl.TooMuch); !slices.Equal(got, someArgs("WRONGTYPE", "ERR integer", "ERR limit")) {
		t.Errorf("constants: %q", got)
	}
}

type commandCase struct {
	why    string
	table  []impl.Entry
	args   []string
	behind []impl.Entry
	reply  string
}

// someTable has each kind, for good and till a time.
func someTable() []impl.Entry {
	return entries(
		entry("e", textVal("")),
		entry("f", fieldsVal("f", "7")),
		entry("l", untilTime(listVal("7"), 9)),
		entry("n", textVal("7")),
		entry("s", setVal("7")),
		entry("t", untilTime(textVal("12"), 300)),
		entry("w", untilTime(textVal("word"), 400)),
	)
}

// someTableWith has one value more, or another one.
func someTableWith(list ...impl.Entry) []impl.Entry { return sortedTable(append(list, someTable()...)) }

func casesOfReading() []commandCase {
	one, many := oneEntry("a", textVal("x")), someTable()
	return []commandCase{
		{"no table", nil, words("GET a"), nil, nilReply},
		{"an empty table", []impl.Entry{}, words("GET a"), nil, nilReply},
		{"the key that there is", one, words("GET a"), one, "$1\r\nx\r\n"},
		{"another key", one, words("GET b"), one, nilReply},
		{"a key in other letters", one, words("GET A"), one, nilReply},
		{"a key that is no more than a beginning", one, words("GET aa"), one, nilReply},
		{"a key that is too long", one, someArgs("GET", someText(21)), one, nilReply},
		{"no key", one, someArgs("GET", ""), one, nilReply},
		{"the first of many", many, words("GET e"), many, "$0\r\n\r\n"},
		{"one of many", many, words("GET n"), many, "$1\r\n7\r\n"},
		{"the last of many, till a time", many, words("GET w"), many, "$4\r\nword\r\n"},
		{"none of many", many, words("GET x"), many, nilReply},
		{"the length of none", nil, words("STRLEN a"), nil, ":0\r\n"},
		{"the length of one", one, words("STRLEN a"), one, ":1\r\n"},
		{"the length of another", one, words("STRLEN b"), one, ":0\r\n"},
		{"the length of nothing", many, words("STRLEN e"), many, ":0\r\n"},
		{"the length of a word", many, words("STRLEN w"), many, ":4\r\n"},
		{"the length under a key that is too long", many, someArgs("STRLEN", someText(300)), many, ":0\r\n"},
		{"the length under no key", many, someArgs("STRLEN", ""), many, ":0\r\n"},
		{"one at once", one, words("MGET a"), one, "*1\r\n$1\r\nx\r\n"},
		{"one that is not there", nil, words("MGET a"), nil, "*1\r\n$-1\r\n"},
		{"some at once", many, words("MGET w x n"), many, "*3\r\n$4\r\nword\r\n$-1\r\n$1\r\n7\r\n"},
		{"the same twice", many, words("MGET n n e n"), many, "*4\r\n$1\r\n7\r\n$1\r\n7\r\n$0\r\n\r\n$1\r\n7\r\n"},
		{"other kinds among them", many, words("MGET f l n s"), many, "*4\r\n$-1\r\n$-1\r\n$1\r\n7\r\n$-1\r\n"},
		{"other kinds alone", many, words("MGET s s"), many, "*2\r\n$-1\r\n$-1\r\n"},
		{"keys that cannot be", many, someArgs("MGET", "", "n", someText(21)), many, "*3\r\n$-1\r\n$1\r\n7\r\n$-1\r\n"},
		{"many keys at once", one, append(words("MGET"), manyArgs(12, "a")...), one, "*12\r\n" + strings.Repeat("$1\r\nx\r\n", 12)},
	}
}

func casesOfSetting() []commandCase {
	one, many := oneEntry("a", textVal("x")), someTable()
	return []commandCase{
		{"the first key", nil, words("SET a x"), one, okReply},
		{"the first key of an empty table", []impl.Entry{}, words("SET a x"), one, okReply},
		{"the same again", one, words("SET a x"), one, okReply},
		{"something else", one, words("SET a y"), oneEntry("a", textVal("y")), okReply},
		{"nothing", one, someArgs("SET", "a", ""), oneEntry("a", textVal("")), okReply},
		{"what is longer", one, words("SET a xyz"), oneEntry("a", textVal("xyz")), okReply},
		{"a key ahead", one, words("SET Z y"), entries(entry("Z", textVal("y")), one[0]), okReply},
		{"a key behind", one, words("SET b y"), entries(one[0], entry("b", textVal("y"))), okReply},
		{"a key between", many, words("SET m y"), someTableWith(entry("m", textVal("y"))), okReply},
		{"a time that is gone", many, words("SET t y"), someTableWith(entry("t", textVal("y"))), okReply},
		{"the same text, its time gone", many, words("SET t 12"), someTableWith(entry("t", textVal("12"))), okReply},
		{"a list that is gone, and its time", many, words("SET l y"), someTableWith(entry("l", textVal("y"))), okReply},
		{"fields that are gone", many, words("SET f y"), someTableWith(entry("f", textVal("y"))), okReply},
		{"a set that is gone", many, words("SET s y"), someTableWith(entry("s", textVal("y"))), okReply},
		{"a text that is a reply", nil, someArgs("SET", "a", okReply), oneEntry("a", textVal(okReply)), okReply},
		{"a text that is a command", nil, someArgs("SET", "GET", "SET"), oneEntry("GET", textVal("SET")), okReply},
		{"no key", many, someArgs("SET", "", "y"), many, tooMuchReply},
		{"new in nothing", nil, words("SETNX a x"), one, ":1\r\n"},
		{"new among others", many, words("SETNX m y"), someTableWith(entry("m", textVal("y"))), ":1\r\n"},
		{"new, without a text", one, someArgs("SETNX", "b", ""), entries(one[0], entry("b", textVal(""))), ":1\r\n"},
		{"not new", one, words("SETNX a y"), one, ":0\r\n"},
		{"not new, and the same", one, words("SETNX a x"), one, ":0\r\n"},
		{"not new, though empty", many, words("SETNX e y"), many, ":0\r\n"},
		{"not new, till a time", many, words("SETNX t y"), many, ":0\r\n"},
		{"not new, a list", many, words("SETNX l y"), many, ":0\r\n"},
		{"not new, fields", many, words("SETNX f y"), many, ":0\r\n"},
		{"not new, a set", many, words("SETNX s y"), many, ":0\r\n"},
		{"not new, and far too long", many, someArgs("SETNX", "n", someText(500)), many, ":0\r\n"},
		{"what was ahead of the first", nil, words("GETSET a x"), one, nilReply},
		{"what was ahead", one, words("GETSET a y"), oneEntry("a", textVal("y")), "$1\r\nx\r\n"},
		{"what was ahead is the same", one, words("GETSET a x"), one, "$1\r\nx\r\n"},
		{"an empty one was ahead", many, words("GETSET e y"), someTableWith(entry("e", textVal("y"))), "$0\r\n\r\n"},
		{"what was ahead had a time", many, words("GETSET t y"), someTableWith(entry("t", textVal("y"))), "$2\r\n12\r\n"},
		{"nothing was ahead among others", many, words("GETSET m y"), someTableWith(entry("m", textVal("y"))), nilReply},
		{"a list was ahead", many, words("GETSET l y"), many, wrongReply},
		{"one of one", nil, words("MSET a x"), one, okReply},
		{"two", nil, words("MSET b y a x"), entries(one[0], entry("b", textVal("y"))), okReply},
		{"three", many, words("MSET m 1 A 2 z 3"), someTableWith(entry("m", textVal("1")), entry("A", textVal("2")), entry("z", textVal("3"))), okReply},
		{"the same key twice", one, words("MSET a y a z"), oneEntry("a", textVal("z")), okReply},
		{"the same key first and last", nil, words("MSET a 1 b 2 a 3"), entries(entry("a", textVal("3")), entry("b", textVal("2"))), okReply},
		{"the same key three times", nil, words("MSET a 3 a 2 a 1"), oneEntry("a", textVal("1")), okReply},
		{"keys of other kinds, and of a time", many, words("MSET l 1 s 2 t 3"), someTableWith(entry("l", textVal("1")), entry("s", textVal("2")), entry("t", textVal("3"))), okReply},
		{"an empty text among others", one, someArgs("MSET", "a", "", "b", ""), entries(entry("a", textVal("")), entry("b", textVal(""))), okReply},
		{"no key behind another", one, someArgs("MSET", "a", "y", "", "z"), one, tooMuchReply},
		{"no key ahead of another", one, someArgs("MSET", "", "z", "a", "y"), one, tooMuchReply},
	}
}

func casesOfCounting() []commandCase {
	many := someTable()
	seven, text := entry("n", textVal("7")), func(text string) []impl.Entry { return oneEntry("n", textVal(text)) }
	return []commandCase{
		{"behind nothing", nil, words("APPEND n 7"), entries(seven), ":1\r\n"},
		{"nothing behind nothing", nil, someArgs("APPEND", "n", ""), text(""), ":0\r\n"},
		{"nothing behind a text", entries(seven), someArgs("APPEND", "n", ""), entries(seven), ":1\r\n"},
		{"behind a text", entries(seven), words("APPEND n 89"), text("789"), ":3\r\n"},
		{"behind an empty text", many, words("APPEND e xy"), someTableWith(entry("e", textVal("xy"))), ":2\r\n"},
		{"behind a text till a time", many, words("APPEND w s"), someTableWith(entry("w", untilTime(textVal("words"), 400))), ":5\r\n"},
		{"nothing behind a text till a time", many, someArgs("APPEND", "w", ""), many, ":4\r\n"},
		{"behind none of many", many, words("APPEND m y"), someTableWith(entry("m", textVal("y"))), ":1\r\n"},
		{"behind a set", many, words("APPEND s y"), many, wrongReply},
		{"up from none", nil, words("INCR n"), text("1"), ":1\r\n"},
		{"down from none", nil, words("DECR n"), text("-1"), ":-1\r\n"},
		{"up by a number from none", nil, words("INCRBY n 41"), text("41"), ":41\r\n"},
		{"up by less than nothing from none", nil, words("INCRBY n -41"), text("-41"), ":-41\r\n"},
		{"down by a number from none", nil, words("DECRBY n 41"), text("-41"), ":-41\r\n"},
		{"down by less than nothing from none", nil, words("DECRBY n -41"), text("41"), ":41\r\n"},
		{"up by nothing from none", nil, words("INCRBY n 0"), text("0"), ":0\r\n"},
		{"down by nothing from none", nil, words("DECRBY n 0"), text("0"), ":0\r\n"},
		{"up from 7", entries(seven), words("INCR n"), text("8"), ":8\r\n"},
		{"down from 7", entries(seven), words("DECR n"), text("6"), ":6\r\n"},
		{"up by 3 from 7", entries(seven), words("INCRBY n 3"), text("10"), ":10\r\n"},
		{"up by -9 from 7", entries(seven), words("INCRBY n -9"), text("-2"), ":-2\r\n"},
		{"up by -7 from 7", entries(seven), words("INCRBY n -7"), text("0"), ":0\r\n"},
		{"up by 0 from 7", entries(seven), words("INCRBY n 0"), entries(seven), ":7\r\n"},
		{"down by 3 from 7", entries(seven), words("DECRBY n 3"), text("4"), ":4\r\n"},
		{"down by 7 from 7", entries(seven), words("DECRBY n 7"), text("0"), ":0\r\n"},
		{"down by 107 from 7", entries(seven), words("DECRBY n 107"), text("-100"), ":-100\r\n"},
		{"down by -3 from 7", entries(seven), words("DECRBY n -3"), text("10"), ":10\r\n"},
		{"up from 9", text("9"), words("INCR n"), text("10"), ":10\r\n"},
		{"down from 10", text("10"), words("DECR n"), text("9"), ":9\r\n"},
		{"up from 99", text("99"), words("INCR n"), text("100"), ":100\r\n"},
		{"up from -1", text("-1"), words("INCR n"), text("0"), ":0\r\n"},
		{"up from -10", text("-10"), words("INCR n"), text("-9"), ":-9\r\n"},
		{"down from 0", text("0"), words("DECR n"), text("-1"), ":-1\r\n"},
		{"down from -99", text("-99"), words("DECR n"), text("-100"), ":-100\r\n"},
		{"up till a time", many, words("INCR t"), someTableWith(entry("t", untilTime(textVal("13"), 300))), ":13\r\n"},
		{"down till a time", many, words("DECR t"), someTableWith(entry("t", untilTime(textVal("11"), 300))), ":11\r\n"},
		{"up by 8 till a time", many, words("INCRBY t 8"), someTableWith(entry("t", untilTime(textVal("20"), 300))), ":20\r\n"},
		{"down by 12 till a time", many, words("DECRBY t 12"), someTableWith(entry("t", untilTime(textVal("0"), 300))), ":0\r\n"},
		{"up among others", many, words("INCR m"), someTableWith(entry("m", textVal("1"))), ":1\r\n"},
		{"up from a word", many, words("INCR w"), many, notIntReply},
		{"up from an empty text", many, words("INCR e"), many, notIntReply},
		{"up by a word", many, words("INCRBY n word"), many, notIntReply},
		{"up by nothing at all", many, someArgs("INCRBY", "n", ""), many, notIntReply},
		{"down from a list", many, words("DECRBY l 2"), many, wrongReply},
	}
}

func casesOfTexts() []commandCase {
	return slices.Concat(casesOfReading(), casesOfSetting(), casesOfCounting())
}

// mustDoEach wants each case by its rule, too, and at least so many of each command.
func (l layer) mustDoEach(t *testing.T, cases []commandCase, least int) {
	t.Helper()
	done := map[string]int{}
	for _, c := range cases {
		for _, name := range inAllCases(c.args[0]) {
			l.mustDo(t, c.why, c.table, append(someArgs(name), c.args[1:]...), c.behind, c.reply)
		}
		if behind, reply, ok := l.plain(c.table, c.args); !sameTable(behind, c.behind) || reply != c.reply || !ok {
			t.Errorf("%s: by the words %s %q %v", c.why, briefTable(behind), reply, ok)
		}
		done[c.args[0]]++
	}
	for _, name := range l.names {
		if done[name] < least {
			t.Errorf("only %d cases of %s", done[name], name)
		}
	}
}

func TestTextCommandsOneByOne(t *testing.T) { textLayer().mustDoEach(t, casesOfTexts(), 6) }

// textsToTry are told to the commands that take one.
func textsToTry() []string {
	return someArgs("", "x", "0", "1", "-1", "-0", "+1", "01", " 1", "1 ", "1000000000", "-1000000000", "1000000001", "999999999", someText(59), someText(60), someText(61), "\r\n", "\x00")
}

// commandsOnKey are all twelve, with each text that they may be told.
func commandsOnKey(key string) [][]string {
	list := someRequests(someArgs("GET", key), someArgs("STRLEN", key), someArgs("INCR", key), someArgs("DECR", key), someArgs("MGET", key), someArgs("MGET", key, "a", key))
	for _, text := range textsToTry() {
		for _, name := range words("SET SETNX GETSET APPEND INCRBY DECRBY MSET") {
			list = append(list, someArgs(name, key, text))
		}
		list = append(list, someArgs("MSET", key, text, "other", "y"), someArgs("MSET", "other", "y", key, text), someArgs("MSET", key, "x", "other", "y", key, text))
	}
	return list
}

func TestTextCommandsOverTables(t *testing.T) {
	told := map[string]int{}
	for _, c := range append(rightTables(), namedTable{"each kind", someTable()}) {
		keys := someArgs("a", "none", "other", "", someText(20), someText(21))
		for _, e := range c.table {
			keys = append(keys, e.Key)
		}
		for _, key := range slices.Compact(slices.Sorted(slices.Values(keys))) {
			for _, args := range commandsOnKey(key) {
				told[mustDoPlainly(t, c.why, c.table, args)]++
			}
		}
	}
	for _, mark := range someArgs("+", ":", "$", "*", wrongReply, notIntReply, tooMuchReply) {
		if told[mark] < 500 {
			t.Errorf("only %d are told %q", told[mark], mark)
		}
	}
}

func TestWhatIsSetIsGot(t *testing.T) {
	var texts []string
	for b := range 256 {
		texts = append(texts, string([]byte{byte(b)}), "a"+string([]byte{byte(b)})+"z")
	}
	for length := range impl.MaxItem + 1 {
		texts = append(texts, someText(length), strings.Repeat("\r\n", length/2), strings.Repeat("\x00", length))
	}
	for _, text := range texts {
		for _, table := range [][]impl.Entry{nil, oneEntry("a", untilTime(textVal("old"), 5)), someTable(), manyEntries(19)} {
			own := sortedTable(append(entries(entry("a", textVal(text))), table...))
			for _, args := range someRequests(someArgs("SET", "a", text), someArgs("GETSET", "a", text), someArgs("MSET", "a", text), someArgs("MSET", "a", "x", "a", text)) {
				got := afterTexts(t, table, args)
				if !sameTable(got, own) {
					t.Errorf("%.70q: %s, not %s", args, briefTable(got), briefTable(own))
				}
				mustDo(t, "set and got", got, words("GET a"), own, bulkByHand(text))
				mustDo(t, "set and told how long", got, words("STRLEN a"), own, numberByHand(len(text)))
				mustDo(t, "set and got among others", got, words("MGET none a none"), own, arrayByHand(nilReply, bulkByHand(text), nilReply))
				mustDo(t, "set and not set again", got, words("SETNX a z"), own, ":0\r\n")
			}
		}
		new := oneEntry("a", textVal(text))
		mustDo(t, "set when it is new", nil, someArgs("SETNX", "a", text), new, ":1\r\n")
		mustDo(t, "appended to nothing", nil, someArgs("APPEND", "a", text), new, numberByHand(len(text)))
		mustDo(t, "got and set", new, words("GETSET a z"), oneEntry("a", textVal("z")), bulkByHand(text))
	}
}

func TestTextCommandsOneBehindTheOther(t *testing.T) {
	var table []impl.Entry
	for _, step := range []struct{ line, reply string }{
		{"GET a", nilReply}, {"SET a 7", okReply}, {"GET a", "$1\r\n7\r\n"}, {"SET a 8", okReply}, {"GET a", "$1\r\n8\r\n"},
		{"INCR a", ":9\r\n"}, {"INCR a", ":10\r\n"}, {"APPEND a 5", ":3\r\n"}, {"DECR a", ":104\r\n"}, {"STRLEN a", ":3\r\n"},
		{"DECRBY a 105", ":-1\r\n"}, {"APPEND a -", ":3\r\n"}, {"INCR a", notIntReply}, {"GET a", "$3\r\n-1-\r\n"}, {"SETNX a x", ":0\r\n"},
		{"SETNX b x", ":1\r\n"}, {"GETSET b y", "$1\r\nx\r\n"}, {"MGET b a c b", "*4\r\n$1\r\ny\r\n$3\r\n-1-\r\n$-1\r\n$1\r\ny\r\n"},
		{"MSET c 1 b 2 c 3", okReply}, {"INCRBY c 4", ":7\r\n"}, {"INCRBY b -2", ":0\r\n"}, {"DECR b", ":-1\r\n"}, {"INCR b", ":0\r\n"},
		{"GETSET a 0", "$3\r\n-1-\r\n"}, {"INCR a", ":1\r\n"}, {"MGET a b c", "*3\r\n$1\r\n1\r\n$1\r\n0\r\n$1\r\n7\r\n"},
	} {
		behind, reply, ok := impl.OnTexts(table, words(step.line))
		if reply != step.reply || !ok {
			t.Errorf("%s: %q %v, not %q", step.line, reply, ok, step.reply)
		}
		table = behind
	}
	if want := entries(entry("a", textVal("1")), entry("b", textVal("0")), entry("c", textVal("7"))); !sameTable(table, want) {
		t.Errorf("at the end: %s", briefTable(table))
	}
}

func TestTimesBehindTextCommands(t *testing.T) {
	for _, time := range []int{0, 1, 127, 128, 300, impl.MaxTime - 1, impl.MaxTime} {
		table := entries(entry("a", untilTime(textVal("5"), time)), entry("b", untilTime(textVal("x"), time)), entry("s", untilTime(setVal("x"), time)))
		with := func(v impl.Val) []impl.Entry { return append(oneEntry("a", v), table[1:]...) }
		for _, c := range []struct{ line, text, reply string }{
			{"SET a 6", "6", okReply},
			{"SET a 5", "5", okReply},
			{"GETSET a 6", "6", "$1\r\n5\r\n"},
			{"GETSET a 5", "5", "$1\r\n5\r\n"},
			{"MSET a 6", "6", okReply},
			{"MSET a 6 a 5", "5", okReply},
		} {
			mustDo(t, "for good, ahead till "+strconv.Itoa(time), table, words(c.line), with(textVal(c.text)), c.reply)
		}
		for _, c := range []struct{ line, text, reply string }{
			{"APPEND a 6", "56", ":2\r\n"},
			{"INCR a", "6", ":6\r\n"},
			{"DECR a", "4", ":4\r\n"},
			{"INCRBY a 95", "100", ":100\r\n"},
			{"INCRBY a 0", "5", ":5\r\n"},
			{"DECRBY a 5", "0", ":0\r\n"},
		} {
			mustDo(t, "till "+strconv.Itoa(time), table, words(c.line), with(untilTime(textVal(c.text), time)), c.reply)
		}
		for _, line := range someArgs("GET a", "STRLEN a", "SETNX a 6", "MGET a s b") {
			mustDo(t, "what does not change", table, words(line), table, mustReplyByHand(table, words(line)))
		}
		for _, line := range someArgs("INCR b", "INCRBY a x", "APPEND s x", "GETSET s x", "DECRBY a 1000000001") {
			mustFail(t, "what fails", table, words(line), mustReplyByHand(table, words(line)))
		}
		mustDo(t, "another kind, for good", table, words("SET s 6"), entries(table[0], table[1], entry("s", textVal("6"))), okReply)
		mustDo(t, "a new one, for good", table, words("SETNX c 6"), entries(table[0], table[1], entry("c", textVal("6")), table[2]), ":1\r\n")
		mustDo(t, "a new counter, for good", table, words("INCR c"), entries(table[0], table[1], entry("c", textVal("1")), table[2]), ":1\r\n")
		mustDo(t, "a new text, for good", table, words("APPEND c 6"), entries(table[0], table[1], entry("c", textVal("6")), table[2]), ":1\r\n")
	}
}

func mustReplyByHand(table []impl.Entry, args []string) string {
	_, reply, _ := plainOnTexts(table, args)
	return reply
}

func TestLongTexts(t *testing.T) {
	for length := 58; length < 65; length++ {
		text := someText(length)
		for _, table := range [][]impl.Entry{nil, oneEntry("a", textVal("x")), someTable()} {
			own := sortedTable(append(entries(entry("a", textVal(text))), table...))
			_, there := mapOf(table)["a"]
			for _, name := range words("SET GETSET MSET SETNX APPEND") {
				args := someArgs(name, "a", text)
				switch {
				case name == "SETNX" && there:
					mustDo(t, "not new, however long", table, args, table, ":0\r\n")
				case length > 60 || name == "APPEND" && there && length == 60:
					mustFail(t, "too long", table, args, tooMuchReply)
				case name != "APPEND" || !there:
					mustDo(t, "as long as it may be", table, args, own, mustReplyByHand(table, args))
				default:
					mustDo(t, "behind another", table, args, oneEntry("a", textVal("x"+text)), numberByHand(length+1))
				}
			}
		}
	}
	for _, length := range []int{255, 256, 316, 2000, impl.MaxText, impl.MaxText + 1, 65536 + 5} {
		for _, name := range words("SET GETSET MSET APPEND") {
			mustFail(t, "far too long", oneEntry("a", textVal("x")), someArgs(name, "a", someText(length)), tooMuchReply)
		}
		mustFail(t, "far too long behind a list", oneEntry("a", listVal("x")), someArgs("SET", "a", someText(length)), tooMuchReply)
		mustFail(t, "new, but far too long", nil, someArgs("SETNX", "a", someText(length)), tooMuchReply)
	}
}

func TestAppendUpToTheLimit(t *testing.T) {
	for stands := range 61 {
		for more := range 64 {
			text, behind := someText(stands), someText(more)
			table := oneEntry("a", untilTime(textVal(text), stands))
			if stands+more > 60 {
				mustFail(t, "a byte more, or many", table, someArgs("APPEND", "a", behind), tooMuchReply)
				continue
			}
			mustDo(t, "appended", table, someArgs("APPEND", "a", behind), oneEntry("a", untilTime(textVal(text+behind), stands)), numberByHand(stands+more))
		}
	}
	var table []impl.Entry
	for length := 1; length <= 60; length++ {
		next := oneEntry("a", textVal(strings.Repeat("b", length)))
		mustDo(t, "byte by byte", table, words("APPEND a b"), next, numberByHand(length))
		table = next
	}
	mustFail(t, "a byte more", table, words("APPEND a b"), tooMuchReply)
	mustDo(t, "no byte more", table, someArgs("APPEND", "a", ""), table, ":60\r\n")
}

// A table of MaxEntries entries takes no further key, but all that its own keys take.
func TestFullTables(t *testing.T) {
	full, room := manyEntries(20), manyEntries(19)
	for _, line := range someArgs("SET k x", "SETNX k x", "GETSET k x", "APPEND k x", "INCR k", "DECR k", "INCRBY k 5", "DECRBY k 5", "INCRBY k 0", "MSET k x", "MSET i003 x k x", "MSET k x i003 x", "MSET i003 x i004 y k x", "APPEND zz x", "SET A x") {
		mustFail(t, "one key too many", full, words(line), tooMuchReply)
		behind, reply, _ := plainOnTexts(room, words(line))
		mustDo(t, "the last key", room, words(line), behind, reply)
		if isFault(reply) || len(behind) != 20 {
			t.Errorf("%s: not the last key", line)
		}
	}
	mustFail(t, "nothing appended is a key, too", full, someArgs("APPEND", "k", ""), tooMuchReply)
	mustFail(t, "two keys, and room for one", room, words("MSET k x l y"), tooMuchReply)
	mustFail(t, "three keys, and room for one", room, words("MSET i001 x k x l y"), tooMuchReply)
	mustDo(t, "one key twice, and room for one", room, words("MSET k x k y"), append(manyEntries(19), entry("k", textVal("y"))), okReply)
	for n, e := range full {
		with := func(v impl.Val) []impl.Entry {
			own := copyTable(full)
			own[n].Val = v
			return own
		}
		number := strconv.Itoa(n)
		mustDo(t, "set", full, someArgs("SET", e.Key, "x"), with(textVal("x")), okReply)
		mustDo(t, "got and set", full, someArgs("GETSET", e.Key, "x"), with(textVal("x")), bulkByHand(number))
		mustDo(t, "not set", full, someArgs("SETNX", e.Key, "x"), full, ":0\r\n")
		mustDo(t, "appended", full, someArgs("APPEND", e.Key, "x"), with(untilTime(textVal(number+"x"), n)), numberByHand(len(number)+1))
		mustDo(t, "counted", full, someArgs("INCRBY", e.Key, "-7"), with(untilTime(textVal(strconv.Itoa(n-7)), n)), numberByHand(n-7))
		mustDo(t, "got", full, someArgs("GET", e.Key), full, bulkByHand(number))
	}
	mustDo(t, "none of twenty", full, words("GET k"), full, nilReply)
	mustDo(t, "no length of twenty", full, words("STRLEN k"), full, ":0\r\n")
}

func TestKeysOfTextCommands(t *testing.T) {
	for length := range 24 {
		key := someText(length)
		right := length >= 1 && length <= 20
		for _, c := range []struct {
			args  []string
			text  string
			reply string
		}{
			{someArgs("SET", key, "x"), "x", okReply},
			{someArgs("MSET", key, "x"), "x", okReply},
			{someArgs("SETNX", key, "x"), "x", ":1\r\n"},
			{someArgs("GETSET", key, "x"), "x", nilReply},
			{someArgs("APPEND", key, "x"), "x", ":1\r\n"},
			{someArgs("APPEND", key, ""), "", ":0\r\n"},
			{someArgs("INCR", key), "1", ":1\r\n"},
			{someArgs("DECR", key), "-1", ":-1\r\n"},
			{someArgs("INCRBY", key, "0"), "0", ":0\r\n"},
			{someArgs("DECRBY", key, "-100"), "100", ":100\r\n"},
		} {
			for _, table := range [][]impl.Entry{nil, oneEntry("none", listVal("x"))} {
				if right {
					mustDo(t, "a key", table, c.args, sortedTable(append(oneEntry(key, textVal(c.text)), table...)), c.reply)
				} else {
					mustFail(t, "a key that cannot be", table, c.args, tooMuchReply)
				}
			}
		}
		mustDo(t, "no such key", nil, someArgs("GET", key), nil, nilReply)
		mustDo(t, "no such key", nil, someArgs("STRLEN", key), nil, ":0\r\n")
		mustDo(t, "no such key", nil, someArgs("MGET", key, key), nil, "*2\r\n$-1\r\n$-1\r\n")
	}
	for _, key := range someArgs(someText(300), someText(20000), strings.Repeat("\u20ac", 7)) {
		mustFail(t, "a key that is far too long", someTable(), someArgs("SET", key, "x"), tooMuchReply)
		mustFail(t, "a counter that is far too long", someTable(), someArgs("INCR", key), tooMuchReply)
		mustFail(t, "the third key is far too long", someTable(), someArgs("MSET", "a", "x", "b", "y", key, "z"), tooMuchReply)
	}
}

// Keys stand by their bytes: wherever a new one belongs, the table is right and has all others as they were.
func TestNewKeysStandInOrder(t *testing.T) {
	all := someArgs("\x00", "\x00\x00", " ", "10", "9", "A", "B", "Z", "a", "a\x00", "a\x00b", "aa", "ab", "b", "\x7f", "\x80", "\u00e9", "\xfe", "\xff", "\xff\xff")
	for turn := range 2 * len(all) {
		keys := slices.Concat(all[turn%20:], all[:turn%20])
		if turn >= 20 {
			slices.Reverse(keys)
		}
		var table []impl.Entry
		for n, key := range keys {
			args := someRequests(someArgs("SET", key, key), someArgs("SETNX", key, key), someArgs("GETSET", key, key), someArgs("APPEND", key, key), someArgs("MSET", key, key))[n%5]
			table = afterTexts(t, table, args)
			var want []impl.Entry
			for _, known := range slices.Sorted(slices.Values(keys[:n+1])) {
				want = append(want, entry(known, textVal(known)))
			}
			if !sameTable(table, want) {
				t.Fatalf("behind %.60q: %s", args, briefTable(table))
			}
		}
	}
}

func TestMSETIsOneOrNothing(t *testing.T) {
	long, key21 := someText(61), someText(21)
	for _, table := range [][]impl.Entry{nil, oneEntry("a", untilTime(textVal("old"), 7)), someTable(), manyEntries(17)} {
		for _, wrong := range someRequests(someArgs("w", long), someArgs(key21, "x"), someArgs("", "x"), someArgs("a", long)) {
			for _, args := range someRequests(
				slices.Concat(words("MSET"), wrong),
				slices.Concat(words("MSET"), wrong, words("b 2")),
				slices.Concat(words("MSET b 2"), wrong),
				slices.Concat(words("MSET"), wrong, words("b 2 c 3")),
				slices.Concat(words("MSET b 2"), wrong, words("c 3")),
				slices.Concat(words("MSET b 2 c 3"), wrong),
				slices.Concat(words("MSET"), wrong, wrong),
			) {
				mustFail(t, "one of them cannot be set", table, args, tooMuchReply)
			}
		}
	}
	// Each is a SET of its own: one that cannot be done is not mended by a later one.
	mustFail(t, "too long first", nil, someArgs("MSET", "a", long, "a", "x"), tooMuchReply)
	mustFail(t, "too long last", nil, someArgs("MSET", "a", "x", "a", long), tooMuchReply)
}

// bigSum is what two numbers come to, without a limit, and whether it may stand.
func bigSum(stands, told int, down bool) (string, bool) {
	sum := new(big.Int).Add(big.NewInt(int64(stands)), big.NewInt(int64(told)))
	if down {
		sum.Sub(big.NewInt(int64(stands)), big.NewInt(int64(told)))
	}
	return sum.String(), sum.CmpAbs(big.NewInt(1000000000)) <= 0
}

func mustCount(t *testing.T, stands int, name string, told int) bool {
	t.Helper()
	table := entries(entry("a", untilTime(textVal(strconv.Itoa(stands)), 5)), entry("b", textVal("x")))
	args := someArgs(name, "a", strconv.Itoa(told))
	sum, ok := bigSum(stands, told, name == "DECRBY")
	if !ok {
		mustFail(t, "past the limit", table, args, tooMuchReply)
		return false
	}
	mustDo(t, "counted", table, args, entries(entry("a", untilTime(textVal(sum), 5)), table[1]), ":"+sum+"\r\n")
	return true
}

func TestCountingUpToTheLimits(t *testing.T) {
	var counted [2]int
	numbers := []int{0, 1, -1, 2, -2, 9, 10, -10, 99, 100, 12345, 499999999, 500000000, 500000001, -499999999, -500000000, -500000001, 999999998, 999999999, 1000000000, -999999998, -999999999, -1000000000}
	for _, stands := range numbers {
		for _, told := range numbers {
			for _, name := range words("INCRBY DECRBY") {
				if mustCount(t, stands, name, told) {
					counted[1]++
				} else {
					counted[0]++
				}
			}
		}
	}
	if counted[0] < 200 || counted[1] < 500 {
		t.Errorf("only %d past the limits, %d within", counted[0], counted[1])
	}
	top, bottom := oneEntry("a", textVal("1000000000")), oneEntry("a", textVal("-1000000000"))
	mustFail(t, "one past", top, words("INCR a"), tooMuchReply)
	mustFail(t, "one past", bottom, words("DECR a"), tooMuchReply)
	mustDo(t, "back", top, words("DECR a"), oneEntry("a", textVal("999999999")), ":999999999\r\n")
	mustDo(t, "back", bottom, words("INCR a"), oneEntry("a", textVal("-999999999")), ":-999999999\r\n")
	mustDo(t, "just there", oneEntry("a", textVal("999999999")), words("INCR a"), top, ":1000000000\r\n")
	mustDo(t, "just there", oneEntry("a", textVal("-999999999")), words("DECR a"), bottom, ":-1000000000\r\n")
	mustDo(t, "all of it from none", nil, words("INCRBY a 1000000000"), top, ":1000000000\r\n")
	mustDo(t, "all of it from none", nil, words("DECRBY a 1000000000"), bottom, ":-1000000000\r\n")
	mustDo(t, "all of it from none", nil, words("INCRBY a -1000000000"), bottom, ":-1000000000\r\n")
	mustDo(t, "all of it from none", nil, words("DECRBY a -1000000000"), top, ":1000000000\r\n")
	mustDo(t, "from one end to the middle", top, words("DECRBY a 1000000000"), oneEntry("a", textVal("0")), ":0\r\n")
	mustDo(t, "no further", top, words("INCRBY a 0"), top, ":1000000000\r\n")
	for _, told := range someArgs("1000000001", "-1000000001", "2000000000", "-2000000000", "4294967296", "-9223372036854775808", "9223372036854775808") {
		for _, table := range [][]impl.Entry{nil, top, bottom} {
			mustFail(t, "told too much", table, someArgs("INCRBY", "a", told), notIntReply)
			mustFail(t, "told too much", table, someArgs("DECRBY", "a", told), notIntReply)
		}
	}
}

func TestNumbersAreCountedAsWholeNumbersAre(t *testing.T) {
	var table []impl.Entry
	up := func(name string, from, to int) {
		step := 1
		if name == "DECR" {
			step = -1
		}
		for n := from; n != to; n += step {
			next := oneEntry("a", textVal(strconv.Itoa(n+step)))
			mustDo(t, "one by one", table, someArgs(name, "a"), next, numberByHand(n+step))
			table = next
		}
	}
	up("INCR", 0, 1200)
	up("DECR", 1200, -1200)
	up("INCR", -1200, 5)
	for _, stands := range intsToTry() {
		if stands < -1000000000 || stands > 1000000000 {
			mustFail(t, "no number of the limits", oneEntry("a", textVal(strconv.Itoa(stands))), words("INCR a"), notIntReply)
			continue
		}
		for _, name := range words("INCRBY DECRBY") {
			mustCount(t, stands, name, 1)
			mustCount(t, 1, name, stands)
			mustCount(t, stands, name, -stands)
			mustCount(t, stands, name, stands)
		}
		mustDoPlainly(t, "one more", oneEntry("a", textVal(strconv.Itoa(stands))), words("INCR a"))
		mustDoPlainly(t, "one less", oneEntry("a", textVal(strconv.Itoa(stands))), words("DECR a"))
	}
}

// What was added is taken away again, in whatever order, and the way back is the same number.
func TestCountingThereAndBack(t *testing.T) {
	w := &drawer{state: 141}
	for range 300 {
		stands := w.below(1000000) - 500000
		table := oneEntry("a", untilTime(textVal(strconv.Itoa(stands)), 9))
		var there, back [][]string
		for range w.below(12) {
			told := strconv.Itoa(w.below(2000000) - 1000000)
			names := words("INCRBY DECRBY")
			which := w.below(2)
			there = append(there, someArgs(names[which], "a", told))
			back = append(back, someArgs(names[1-which], "a", told))
		}
		slices.SortFunc(back, func(x, y []string) int { return strings.Compare(x[2], y[2]) })
		if got := afterTexts(t, table, slices.Concat(there, back)...); !sameTable(got, table) {
			t.Errorf("%s, there and back: %s", briefTable(table), briefTable(got))
		}
	}
}

// valsNotOf has values of each other kind, numbers among them.
func valsNotOf(kind int) []namedVal {
	list := append(rightVals(),
		namedVal{"a number, till a time", untilTime(textVal("7"), 300)},
		namedVal{"a list of a number, till a time", untilTime(listVal("7"), 300)},
		namedVal{"a set of a number", setVal("7")},
		namedVal{"fields of a number", fieldsVal("7", "7")})
	return slices.DeleteFunc(list, func(c namedVal) bool { return c.v.Kind == kind })
}

func TestValuesOfOtherKinds(t *testing.T) {
	kinds := map[int]int{}
	for _, c := range valsNotOf(impl.KindText) {
		kinds[c.v.Kind]++
		for _, table := range [][]impl.Entry{oneEntry("k", c.v), entries(entry("a", textVal("1")), entry("k", c.v), entry("z", untilTime(textVal("2"), 3)))} {
			for _, line := range someArgs("GET k", "GETSET k x", "APPEND k x", "STRLEN k", "INCR k", "DECR k", "INCRBY k 3", "DECRBY k 3", "INCRBY k word", "DECRBY k 1000000001") {
				mustFail(t, c.why, table, words(line), wrongReply)
			}
			for _, name := range words("GETSET APPEND INCRBY DECRBY") {
				mustFail(t, c.why+", and no text", table, someArgs(name, "k", ""), wrongReply)
				mustFail(t, c.why+", and a text that is too long", table, someArgs(name, "k", someText(61)), wrongReply)
			}
			own := func(text string) []impl.Entry { return sortedTable(append(oneEntry("k", textVal(text)), table...)) }
			mustDo(t, c.why, table, words("SET k 1"), own("1"), okReply)
			mustDo(t, c.why, table, words("MSET k 1 k 2"), own("2"), okReply)
			mustDo(t, c.why, table, words("SETNX k 1"), table, ":0\r\n")
			mustDo(t, c.why, table, words("MGET k k none"), table, "*3\r\n$-1\r\n$-1\r\n$-1\r\n")
			mustFail(t, c.why+", and a text that is too long", table, someArgs("SET", "k", someText(61)), tooMuchReply)
			mustFail(t, c.why+", set ahead of one that cannot be", table, someArgs("MSET", "k", "1", "", "2"), tooMuchReply)
		}
	}
	if kinds[2] < 10 || kinds[3] < 10 || kinds[4] < 8 {
		t.Errorf("only so many of each kind: %v", kinds)
	}
}

// notInts are texts that may stand under a key, but are no numbers.
func notInts() []string {
	list := someArgs(
		"", "-0", "+0", "00", "-00", "01", "-01", "007", "-007", "0000000001", "01000000000", "+1", "+12", "-", "+", "--1", "+-1", "1-", "- 1",
		" ", " 1", "1 ", " -1", "1 2", "\t1", "1\n", "1\r\n", "1\x00", "\x001", "0 ", "a", "1a", "a1", "0x1", "1_0", "1,000", "1.0", ".5", "1.", "1e3", "inf", "NaN",
		"\u0661", "\uff11", "\u22121", "one", ":1\r\n", "1000000001", "-1000000001", "9999999999", "10000000000", "-10000000000", "4294967297", "9223372036854775807", "9223372036854775808", "-9223372036854775809", "18446744073709551617",
	)
	return append(list, strings.Repeat("9", 60), "-"+strings.Repeat("9", 59), strings.Repeat("0", 60), "1"+strings.Repeat("0", 59), strings.Repeat("0", 59)+"1", strings.Repeat(" ", 60))
}

func TestTextsThatAreNoNumbers(t *testing.T) {
	for _, text := range notInts() {
		for _, time := range []int{0, 300} {
			table := entries(entry("a", untilTime(textVal(text), time)), entry("n", untilTime(textVal("7"), time)))
			for _, line := range someArgs("INCR a", "DECR a", "INCRBY a 1", "DECRBY a 1", "INCRBY a 0", "DECRBY a -1000000000") {
				mustFail(t, "what stands is no number", table, words(line), notIntReply)
			}
			for _, name := range words("INCRBY DECRBY") {
				mustFail(t, "what is told is no number", table, someArgs(name, "n", text), notIntReply)
				mustFail(t, "told to none, what is no number", table, someArgs(name, "none", text), notIntReply)
				mustFail(t, "neither is a number", table, someArgs(name, "a", text), notIntReply)
			}
			mustDo(t, "it is got", table, words("GET a"), table, bulkByHand(text))
		}
	}
	for _, text := range someArgs(strings.Repeat("9", 5000), "-"+strings.Repeat("9", 5000), strings.Repeat("0", 61), "1"+strings.Repeat("0", 20000), someText(61), someText(1000)) {
		for _, name := range words("INCRBY DECRBY") {
			mustFail(t, "far too many figures", oneEntry("n", textVal("7")), someArgs(name, "n", text), notIntReply)
			mustFail(t, "far too many figures, told to none", nil, someArgs(name, "n", text), notIntReply)
		}
	}
}

// Of two faults the one that the document tells first is told.
func TestFaultsOfTextCommandsInOrder(t *testing.T) {
	full, key21 := manyEntries(20), someText(21)
	mustFail(t, "another kind, and no number", oneEntry("a", setVal("7")), words("INCRBY a x"), wrongReply)
	mustFail(t, "another kind, and too long", oneEntry("a", setVal("7")), someArgs("APPEND", "a", someText(61)), wrongReply)
	mustFail(t, "another kind, and too long", oneEntry("a", setVal("7")), someArgs("GETSET", "a", someText(61)), wrongReply)
	mustFail(t, "no number, and a key too many", full, words("INCRBY k x"), notIntReply)
	mustFail(t, "no number, and a key that is too long", nil, someArgs("INCRBY", key21, "x"), notIntReply)
	mustFail(t, "no number, and no key", nil, someArgs("DECRBY", "", "01"), notIntReply)
	mustFail(t, "what stands is no number, and a great one is told", oneEntry("a", textVal("x")), words("INCRBY a 1000000000"), notIntReply)
	mustFail(t, "a number past the limit is told where the limit stands", oneEntry("a", textVal("1000000000")), words("INCRBY a 1000000001"), notIntReply)
	mustFail(t, "a number, and a key too many", full, words("INCRBY k 1000000000"), tooMuchReply)
}

// mustLeaveOthers wants no answer to commands of other layers, and to names that are none.
func (l layer) mustLeaveOthers(t *testing.T, key string, wrongNames []string) {
	t.Helper()
	names, mine := slices.Clone(wrongNames), 0
	for _, c := range commandsByHand() {
		if slices.Contains(l.names, c.name) {
			mine++
			continue
		}
		names = append(names, inAllCases(c.name)...)
	}
	names = append(names, someArgs("", "what", "MULTI", "EXEC", "DISCARD", someText(9))...)
	for _, name := range names {
		for count := range 9 {
			args := append(someArgs(name), manyArgs(count, key)...)
			l.mustNotDo(t, "no command of this layer", someTable(), args)
			l.mustNotDo(t, "no command of this layer, over nothing", nil, args)
		}
	}
	if mine != len(l.names) || len(names) < 29*5 {
		t.Errorf("%d commands of its own, %d names of others", mine, len(names))
	}
}

func TestOtherCommandsAreNotOnTexts(t *testing.T) {
	textLayer().mustLeaveOthers(t, "n", someArgs("GE", "GETT", "GET ", " GET", "GET\x00", "\x00GET", "GETSETS", "MSETNX", "INCRBYFLOAT", "STRLENGTH", "GETDEL", "SETEX", "\u017fET", "\u0131NCR", "G\u0415T", "gEt\r\n", "+GET", "g@t", "[ET", strings.Repeat("GET", 5000)))
}

// mustTakeItsArguments asks with every number of arguments, all of them the same.
func (l layer) mustTakeItsArguments(t *testing.T, tables [][]impl.Entry, arg string) {
	t.Helper()
	for _, table := range tables {
		l.mustNotDo(t, "nil", table, nil)
		l.mustNotDo(t, "no argument", table, someArgs())
		l.mustNotDo(t, "no argument, but room", table, someArgs(l.names[0], arg)[:0])
		l.mustNotDo(t, "an empty argument ahead", table, someArgs("", l.names[0], arg))
		l.mustNotDo(t, "a key ahead", table, someArgs(arg, l.names[0]))
		for _, c := range commandsByHand() {
			if !slices.Contains(l.names, c.name) {
				continue
			}
			for _, name := range inAllCases(c.name) {
				for _, count := range slices.Concat(countsTo(12), []int{255, 256, 257, 258, 260, 513}) {
					args := append(someArgs(name), manyArgs(count, arg)...)
					if c.takesByHand(count) {
						l.mustDoPlainly(t, "its number of arguments", table, args)
					} else {
						l.mustNotDo(t, "another number of arguments", table, args)
					}
				}
			}
		}
	}
}

func TestTextCommandsWithOtherArguments(t *testing.T) {
	textLayer().mustTakeItsArguments(t, [][]impl.Entry{nil, oneEntry("n", textVal("7")), someTable()}, "7")
}

func TestTextCommandsOverTablesThatAreNotRight(t *testing.T) {
	for _, c := range wrongTables() {
		for _, line := range someArgs("GET a", "GET none", "SET a x", "SET none x", "SETNX a x", "SETNX none x", "GETSET a x", "APPEND a x", "STRLEN a", "INCR a", "DECR a", "INCRBY a 1", "DECRBY a 1", "INCR none", "MGET a", "MGET none a", "MSET a x", "MSET a x b y c z", "LLEN a", "what") {
			mustNotDo(t, c.why, c.table, words(line))
		}
		mustNotDo(t, c.why, c.table, nil)
		mustNotDo(t, c.why, c.table, someArgs("SET", "", someText(61)))
	}
}

// textArgs draws a command, mostly a right one on texts, whose arguments hang together with the keys and numbers of tables.
func (w *drawer) textArgs() []string {
	if w.below(20) == 0 {
		return w.commandArgs()
	}
	names := textCommandNames()
	name := names[w.below(len(names))]
	args := someArgs(inAllCases(name)[w.below(5)], w.drawnKey())
	switch name {
	case "SET", "SETNX", "GETSET", "APPEND":
		args = append(args, w.drawnText())
	case "INCRBY", "DECRBY":
		args = append(args, w.drawnText())
		if w.below(4) > 0 {
			args[2] = w.drawnNumber()
		}
	case "MGET":
		for range w.below(5) {
			args = append(args, w.drawnKey())
		}
	case "MSET":
		args = append(args, w.drawnText())
		for range w.below(3) {
			args = append(args, w.drawnKey(), w.drawnText())
		}
	}
	if w.below(30) == 0 {
		args = append(args, w.item())
	}
	return args
}

func (w *drawer) drawnKey() string {
	if w.below(40) == 0 {
		return someText(w.below(2) * (20 + w.below(3)))
	}
	if w.below(4) == 0 {
		return w.key()
	}
	return someArgs("a", "b", "c", "d", "n")[w.below(5)]
}

func (w *drawer) drawnNumber() string {
	if w.below(3) > 0 {
		return strconv.Itoa(w.below(200) - 100)
	}
	return strconv.Itoa((w.below(5) - 2) * (500000000 + w.below(3) - 1))
}

func (w *drawer) drawnText() string {
	switch w.below(6) {
	case 0:
		return w.item()
	case 1:
		return someText(58 + w.below(4))
	case 2:
		return w.damaged(w.drawnNumber())
	}
	return w.drawnNumber()
}

// textTable draws a table that is right most of the time, with numbers under some of its keys; now and then it is full.
func (w *drawer) textTable() []impl.Entry {
	list := w.table()
	for !rightTableByHand(list) && w.below(5) > 0 {
		list = w.table()
	}
	if w.below(10) == 0 {
		list = sortedTable(append(list, manyEntries(20)...))[:20]
	}
	for n := range list {
		if list[n].Val.Kind == impl.KindText && w.below(2) == 0 {
			list[n].Val.Text = w.drawnText()
		}
	}
	if w.below(3) > 0 {
		list = sortedTable(append(list, entry("n", untilTime(textVal(w.drawnNumber()), w.below(3)))))
	}
	return list
}

func TestDrawnTextCommands(t *testing.T) {
	w := &drawer{state: 14}
	told := map[string]int{}
	for range 60000 {
		told[mustDoPlainly(t, "drawn", w.textTable(), w.textArgs())]++
	}
	for _, mark := range someArgs("", "+", ":", "$", "*", wrongReply, notIntReply, tooMuchReply) {
		if told[mark] < 1000 {
			t.Errorf("only %d drawn commands are told %q: %v", told[mark], mark, told)
		}
	}
}

// A drawn life: commands go one behind the other, and the engine that keeps what differs tells each table.
func TestTextCommandsInDrawnLives(t *testing.T) {
	w := &drawer{state: 1414}
	kept, told := 0, map[string]int{}
	for range 40 {
		var table []impl.Entry
		if w.below(2) == 0 {
			table = someTable()
		}
		e := holding(t, table)
		for range 150 {
			args := w.textArgs()
			behind, reply, ok := plainOnTexts(table, args)
			told[mustDoPlainly(t, "in a life", table, args)]++
			next, _, _ := impl.OnTexts(table, args)
			changes := impl.Differ(table, next)
			if !ok || isFault(reply) || len(changes) == 0 {
				continue
			}
			after, _, code := impl.PutBatch(e, changes)
			if code == 0 {
				kept++
				mustTell(t, "kept", after, behind, true)
				e, table = after, next
			}
		}
	}
	if kept < 1500 || told[tooMuchReply] < 100 || told[notIntReply] < 100 {
		t.Errorf("only %d are kept: %v", kept, told)
	}
}

// mustDifferWhereItMay holds what an engine would be told of each case against what its test wants: what only reads, and what fails, leaves nothing to be kept.
func (l layer) mustDifferWhereItMay(t *testing.T, cases []commandCase) {
	t.Helper()
	for _, c := range cases {
		changes := impl.Differ(c.table, c.behind)
		if got, _, _ := l.on(c.table, c.args); !slices.Equal(impl.Differ(c.table, got), changes) {
			t.Errorf("%s: %s", c.why, briefChanges(impl.Differ(c.table, got)))
		}
		if (isFault(c.reply) || !impl.Writes(c.args)) && len(changes) > 0 {
			t.Errorf("%s: the test wants %s", c.why, briefChanges(changes))
		}
	}
}

func TestWhatChangesNothingDiffersInNothing(t *testing.T) {
	textLayer().mustDifferWhereItMay(t, casesOfTexts())
}

// mustDoWithoutSharing asks twice: neither answer has memory of what came in, nor of the other one.
func (l layer) mustDoWithoutSharing(t *testing.T, why string, table []impl.Entry, args []string) {
	t.Helper()
	came := copyTable(table)
	var asked []string
	for _, arg := range args {
		asked = append(asked, strings.Clone(arg))
	}
	first, firstReply, _ := l.on(came, asked)
	second, secondReply, _ := l.on(came, asked)
	told := slices.Concat(textsOfTable(first), textsOfTable(second), someArgs(firstReply, secondReply))
	mustShareNoText(t, fmt.Sprintf("%s: %.30q", why, args), told, slices.Concat(textsOfTable(came), asked))
}

func mustDoWithoutSharing(t *testing.T, why string, table []impl.Entry, args []string) {
	t.Helper()
	textLayer().mustDoWithoutSharing(t, why, table, args)
}

func TestAnswersOnTextsShareNothing(t *testing.T) {
	for _, c := range casesOfTexts() {
		mustDoWithoutSharing(t, c.why, c.table, c.args)
	}
	// Texts of one byte, and small numbers, are those that the language itself keeps once for all.
	for n := -3; n < 103; n++ {
		table := entries(entry("1", textVal(strconv.Itoa(n))), entry("9", textVal("9")))
		for _, line := range someArgs("INCR 1", "DECR 1", "INCRBY 1 0", "INCR 2", "SET 1 9", "SETNX 3 9", "APPEND 1 9", "APPEND 3 9", "GETSET 1 9", "MSET 1 9 9 1 5 9", "GET 1", "MGET 1 1 9", "INCR none") {
			mustDoWithoutSharing(t, "small texts", table, words(line))
		}
	}
	for _, args := range someRequests(someArgs("SET", "a", "b"), someArgs("MSET", "a", "a", "b", "a", "c", "a"), someArgs("SETNX", "a", "a"), someArgs("APPEND", "a", "a"), someArgs("INCR", "a")) {
		mustDoWithoutSharing(t, "a table of nothing", nil, args)
		mustDoWithoutSharing(t, "a table of one byte each", entries(entry("a", textVal("1")), entry("b", listVal("1", "1")), entry("c", setVal("1"))), args)
	}
}

// Values that come in with the same list go out with a list each, whatever becomes of the others.
func TestListsBehindTextCommandsShareNothing(t *testing.T) {
	items := []string{"a", "b"}
	table := entries(entry("x", listVal(items...)), entry("y", setVal(items...)), entry("z", fieldsVal(items...)))
	for _, line := range someArgs("GET none", "SET a 1", "MGET x", "GET x", "INCR x", "MSET a 1 b 2", "STRLEN none", "APPEND x 1") {
		behind, _, _ := impl.OnTexts(table, words(line))
		lists := slices.DeleteFunc(slices.Clone(behind), func(e impl.Entry) bool { return e.Val.Kind == impl.KindText })
		scribbleVal(lists[0].Val)
		scribbleVal(lists[2].Val)
		if len(lists) != 3 || !sameVal(lists[1].Val, setVal("a", "b")) || !slices.Equal(items, []string{"a", "b"}) {
			t.Errorf("%s: another list is changed: %s %v", line, briefTable(behind), items)
		}
	}
}
