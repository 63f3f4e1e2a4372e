package tests

import (
	"fmt"
	"math"
	"math/big"
	"regexp"
	"slices"
	"strings"
	"testing"

	"loop.example/g00124/impl"
)

type commandByHand struct {
	name string
	// takes has a y for each number of arguments, from none to eight, that the command takes.
	takes  string
	writes bool
}

// commandsByHand are in the order in which the document tells them.
func commandsByHand() []commandByHand {
	return []commandByHand{
		{"PING", "y--------", false},
		{"ECHO", "-y-------", false},
		{"GET", "-y-------", false},
		{"SET", "--y------", true},
		{"SETNX", "--y------", true},
		{"GETSET", "--y------", true},
		{"APPEND", "--y------", true},
		{"STRLEN", "-y-------", false},
		{"INCR", "-y-------", true},
		{"DECR", "-y-------", true},
		{"INCRBY", "--y------", true},
		{"DECRBY", "--y------", true},
		{"MGET", "-yyyyyyyy", false},
		{"MSET", "--y-y-y--", true},
		{"DEL", "-yyyyyyyy", true},
		{"EXISTS", "-yyyyyyyy", false},
		{"TYPE", "-y-------", false},
		{"EXPIRE", "--y------", true},
		{"TTL", "-y-------", false},
		{"PERSIST", "-y-------", true},
		{"KEYS", "y--------", false},
		{"DBSIZE", "y--------", false},
		{"FLUSHALL", "y--------", true},
		{"LPUSH", "--yyyyyyy", true},
		{"RPUSH", "--yyyyyyy", true},
		{"LPOP", "-y-------", true},
		{"RPOP", "-y-------", true},
		{"LLEN", "-y-------", false},
		{"LRANGE", "---y-----", false},
		{"LINDEX", "--y------", false},
		{"HSET", "---y-----", true},
		{"HGET", "--y------", false},
		{"HDEL", "--yyyyyyy", true},
		{"HLEN", "-y-------", false},
		{"HGETALL", "-y-------", false},
		{"HKEYS", "-y-------", false},
		{"SADD", "--yyyyyyy", true},
		{"SREM", "--yyyyyyy", true},
		{"SISMEMBER", "--y------", false},
		{"SCARD", "-y-------", false},
		{"SMEMBERS", "-y-------", false},
	}
}

func commandNamesByHand() []string {
	var list []string
	for _, c := range commandsByHand() {
		list = append(list, c.name)
	}
	return list
}

// takesByHand is for more than eight, too: only what has no limit takes eight, and takes any further number.
func (c commandByHand) takesByHand(count int) bool { return c.takes[min(count, 8)] == 'y' }

// plainCommand looks for the command by the library's fold, which takes some signs for letters that are none of A .. Z.
func plainCommand(args []string) (commandByHand, bool) {
	for _, c := range commandsByHand() {
		if len(args) > 0 && len(args[0]) == len(c.name) && strings.EqualFold(args[0], c.name) {
			return c, true
		}
	}
	return commandByHand{}, false
}

func mustJudge(t *testing.T, why string, args []string, takes, writes bool, unknown string) {
	t.Helper()
	room := append(slices.Clone(args), "room", "behind")
	came, before := room[:len(args)], slices.Clone(room)
	if got := impl.ArityOk(came); got != takes {
		t.Errorf("%s: ArityOk(%.120q) is %v", why, came, got)
	}
	if got := impl.Writes(came); got != writes {
		t.Errorf("%s: Writes(%.120q) is %v", why, came, got)
	}
	if got := impl.Unknown(came); got != unknown {
		t.Errorf("%s: Unknown(%.120q) is %q, not %q", why, came, got, unknown)
	}
	if !slices.Equal(room, before) {
		t.Errorf("%s: %.120q was changed", why, before[:len(args)])
	}
}

func mustTake(t *testing.T, why string, args []string, writes bool) {
	t.Helper()
	mustJudge(t, why, args, true, writes, "")
}

func mustNotTake(t *testing.T, why string, args []string, writes bool) {
	t.Helper()
	mustJudge(t, why, args, false, writes, "-ERR arguments\r\n")
}

func mustNotKnow(t *testing.T, why string, args []string) {
	t.Helper()
	mustJudge(t, why, args, false, false, "-ERR unknown\r\n")
}

// mustNeverKnow asks for a name with each number of arguments that some command takes.
func mustNeverKnow(t *testing.T, why, name string) {
	t.Helper()
	for count := range 5 {
		mustNotKnow(t, why, append(someArgs(name), manyArgs(count, "a")...))
	}
}

// mustJudgePlainly tells 0 for what is no command, 1 for one with other arguments, 2 for one with its own.
func mustJudgePlainly(t *testing.T, why string, args []string) int {
	t.Helper()
	c, known := plainCommand(args)
	switch {
	case !known:
		mustNotKnow(t, why, args)
		return 0
	case !c.takesByHand(len(args) - 1):
		mustNotTake(t, why, args, c.writes)
		return 1
	}
	mustTake(t, why, args, c.writes)
	return 2
}

func mixedCase(name string) string {
	out := []byte(name)
	for at := range out {
		if at%2 == 1 {
			out[at] ^= 32
		}
	}
	return string(out)
}

// inAllCases tells a name in great letters, in small ones, and in both.
func inAllCases(name string) []string {
	mixed := mixedCase(name)
	return someArgs(name, strings.ToLower(name), mixed, mixedCase(strings.ToLower(name)), name[:1]+strings.ToLower(name[1:]))
}

func TestCommandsAreTold(t *testing.T) {
	want := strings.Fields("PING ECHO GET SET SETNX GETSET APPEND STRLEN INCR DECR INCRBY DECRBY MGET MSET DEL EXISTS TYPE EXPIRE TTL PERSIST KEYS DBSIZE FLUSHALL LPUSH RPUSH LPOP RPOP LLEN LRANGE LINDEX HSET HGET HDEL HLEN HGETALL HKEYS SADD SREM SISMEMBER SCARD SMEMBERS")
	if !slices.Equal(want, commandNamesByHand()) || len(want) != 41 {
		t.Fatal("the tests' own tables are not the same")
	}
	first := impl.Commands()
	if !slices.Equal(first, want) {
		t.Errorf("Commands() is %q", first)
	}
	second := impl.Commands()
	mustShareNoText(t, "Commands, asked for twice", slices.Concat(first, second), nil)
	scribbleRequests(someRequests(first))
	if !slices.Equal(second, want) {
		t.Error("two answers of Commands share memory")
	}
	if third := impl.Commands(); !slices.Equal(third, want) {
		t.Errorf("Commands() is %q behind a scribble", third)
	}
	if !impl.ArityOk(someArgs("PING")) || !impl.Writes(someArgs("FLUSHALL")) {
		t.Error("a scribble on what Commands tells has changed what is a command")
	}
}

func TestEachCommandWithEachNumberOfArguments(t *testing.T) {
	for _, c := range commandsByHand() {
		for _, name := range inAllCases(c.name) {
			for _, arg := range someArgs("a", "", "GET", "-1", " ", "\r\n", "\x00", someText(2000)) {
				for count := range 9 {
					args := append(someArgs(name), manyArgs(count, arg)...)
					why := fmt.Sprintf("%s with %d", c.name, count)
					if c.takes[count] == 'y' {
						mustTake(t, why, args, c.writes)
					} else {
						mustNotTake(t, why, args, c.writes)
					}
				}
			}
		}
	}
}

// The sentences of the document once more, apart from the table.
func TestWhatCommandsTake(t *testing.T) {
	for _, c := range []struct {
		names string
		takes func(count int) bool
	}{
		{"PING KEYS DBSIZE FLUSHALL", func(n int) bool { return n == 0 }},
		{"ECHO GET STRLEN INCR DECR TYPE TTL PERSIST LPOP RPOP LLEN HLEN HGETALL HKEYS SCARD SMEMBERS", func(n int) bool { return n == 1 }},
		{"SET SETNX GETSET APPEND INCRBY DECRBY EXPIRE LINDEX HGET SISMEMBER", func(n int) bool { return n == 2 }},
		{"LRANGE HSET", func(n int) bool { return n == 3 }},
		{"MGET DEL EXISTS", func(n int) bool { return n > 0 }},
		{"LPUSH RPUSH HDEL SADD SREM", func(n int) bool { return n > 1 }},
		{"MSET", func(n int) bool { return n == 2 || n == 4 || n == 6 }},
	} {
		for _, name := range strings.Fields(c.names) {
			for _, count := range slices.Concat(countsTo(40), []int{99, 100, 255, 256, 257, 258, 259, 260, 511, 512, 513, 514, 65536, 65537, 65538}) {
				args := append(someArgs(name), manyArgs(count, "7")...)
				if got := impl.ArityOk(args); got != c.takes(count) {
					t.Errorf("ArityOk of %s and %d arguments is %v", name, count, got)
				}
				if got := impl.Unknown(args) == ""; got != c.takes(count) {
					t.Errorf("Unknown of %s and %d arguments is %q", name, count, impl.Unknown(args))
				}
			}
		}
	}
}

func countsTo(most int) []int {
	var list []int
	for count := range most + 1 {
		list = append(list, count)
	}
	return list
}

func TestWhatOnlyReads(t *testing.T) {
	reads := strings.Fields("PING ECHO GET STRLEN MGET EXISTS TYPE TTL KEYS DBSIZE LLEN LRANGE LINDEX HGET HLEN HGETALL HKEYS SISMEMBER SCARD SMEMBERS")
	writing := 0
	for _, name := range impl.Commands() {
		for count := range 9 {
			args := append(someArgs(name), manyArgs(count, "a")...)
			if impl.Writes(args) == slices.Contains(reads, name) {
				t.Errorf("Writes of %s and %d arguments is %v", name, count, impl.Writes(args))
			}
			if impl.Writes(args) {
				writing++
			}
		}
	}
	if writing != 21*9 {
		t.Errorf("%d write", writing)
	}
}

func TestPairsOfMSET(t *testing.T) {
	for count, takes := range []bool{false, false, true, false, true, false, true, false, false, false, false, false, false} {
		for _, name := range inAllCases("MSET") {
			args := append(someArgs(name), manyArgs(count, "a")...)
			if takes {
				mustTake(t, "pairs", args, true)
			} else {
				mustNotTake(t, "no pairs, or too many", args, true)
			}
		}
	}
}

func TestNoArguments(t *testing.T) {
	mustNotKnow(t, "nil", nil)
	mustNotKnow(t, "no argument", someArgs())
	mustNotKnow(t, "no argument, but room", someArgs("PING")[:0])
	mustNeverKnow(t, "an empty name", "")
	mustNotKnow(t, "a command behind an empty name", someArgs("", "PING"))
	mustNotKnow(t, "a command behind another word", someArgs("what", "GET", "a"))
}

func TestNamesThatAreNoCommand(t *testing.T) {
	for _, name := range someArgs(
		"what", "WHAT", "P", "X", "MULTI", "EXEC", "DISCARD", "multi", "exec", "discard", "QUIT", "SELECT", "AUTH", "INFO", "COMMAND",
		"SETEX", "PSETEX", "MSETNX", "HSETNX", "HMSET", "HMGET", "HEXISTS", "HVALS", "HINCRBY", "INCRBYFLOAT", "LREM", "LTRIM", "LSET", "SPOP", "SUNION", "PTTL", "PEXPIRE", "EXPIREAT", "FLUSHDB", "RENAME", "GETDEL", "GETRANGE", "SETRANGE", "UNLINK", "ZADD",
		"+PING", "-PING", "*PING", "$4", "*1", "PING\r\n", "*1\r\n$4\r\nPING\r\n", "PING PING", "GET a", "\"GET\"", "'GET'", "GET,", "GET;", "G E T",
		"0", "1", "-1", " ", "\r", "\n", "\t", "\x00", "\xff", strings.Repeat("\x00", 8), strings.Repeat("\x00", 9), strings.Repeat("\x00", 10), strings.Repeat(" ", 9),
		"SISMEMBERS", "SISMEMBERSISMEMBER", "SMEMBER", "SISMEMBE", "KEY", "TYPES", "ECHOO", "GETGET", "SETSET", "HGETAL", "HGETALLL",
		// Signs that some folds take for letters: a long s, a sign for kelvin, i without and with its dot, full-width letters.
		"\u017fET", "\u017fet", "\u017fADD", "HKEY\u017f", "\u212aEYS", "\u212aeys", "H\u212aEYS", "P\u0131NG", "p\u0131ng", "P\u0130NG", "p\u0130ng", "\u0131ncr", "\u0130NCR", "\uff27\uff25\uff34", "GE\u0442",
		someText(9), someText(60), someText(20000), strings.Repeat("GET", 10000), strings.Repeat("A", 9), strings.Repeat("a", 1000000),
	) {
		mustNeverKnow(t, "no command", name)
	}
}

// mustKnowOnlyNames asks plainly: what a name becomes may be another command.
func mustKnowOnlyNames(t *testing.T, why, name string) {
	t.Helper()
	for count := range 4 {
		mustJudgePlainly(t, why, append(someArgs(name), manyArgs(count, "a")...))
	}
}

func TestPiecesOfNames(t *testing.T) {
	for _, name := range commandNamesByHand() {
		for _, word := range inAllCases(name) {
			for from := range len(word) {
				for to := from; to <= len(word); to++ {
					mustKnowOnlyNames(t, "a piece of a name", word[from:to])
				}
				mustKnowOnlyNames(t, "a byte left out", word[:from]+word[from+1:])
				mustKnowOnlyNames(t, "a byte twice", word[:from+1]+word[from:])
				mustKnowOnlyNames(t, "turned round", word[from:]+word[:from])
			}
		}
	}
}

func TestNamesWithFurtherBytes(t *testing.T) {
	for _, name := range commandNamesByHand() {
		for b := range 256 {
			further := string([]byte{byte(b)})
			for place := range len(name) + 1 {
				mustKnowOnlyNames(t, "a byte more", name[:place]+further+name[place:])
			}
			mustKnowOnlyNames(t, "many bytes behind", name+strings.Repeat(further, 9-min(len(name), 8)))
			mustKnowOnlyNames(t, "many bytes ahead", strings.Repeat(further, 9-min(len(name), 8))+name)
		}
		for _, more := range someArgs("\x00\x00", "\x00a", "\r\n", "  ", "\x00\x00\x00\x00\x00\x00", strings.Repeat("\x00", 256), strings.Repeat("\x00", 250)+"GET", someText(256), someText(253)) {
			mustNeverKnow(t, "bytes behind", name+more)
			mustNeverKnow(t, "bytes ahead", more+name)
		}
		for _, other := range commandNamesByHand() {
			mustKnowOnlyNames(t, "two names", name+other)
			mustKnowOnlyNames(t, "two names", name+" "+other)
		}
	}
}

// Each byte of each name is turned to each other one; what lies 32 from a letter is the same name only when it is a letter.
func TestNamesWithOtherBytes(t *testing.T) {
	known := 0
	for _, name := range commandNamesByHand() {
		for at := range len(name) {
			for b := range 256 {
				word := name[:at] + string([]byte{byte(b)}) + name[at+1:]
				if mustJudgePlainly(t, "another byte", someArgs(word, "a")) > 0 {
					known++
				}
			}
		}
		for turn := 1; turn < 256; turn++ {
			word := ""
			for at := range len(name) {
				word += turnByte(name[at:at+1], 0, byte(turn))
			}
			mustJudgePlainly(t, "all bytes turned", someArgs(word, "a"))
		}
	}
	if known < 2*41 {
		t.Errorf("only %d are known", known)
	}
	for _, word := range someArgs("@ECHO", "[GET", "GET[", "`get", "{get", "g@t", "g`t", "G\x05T", "\x07\x05\x14", "GE\x14", "\xc7\xc5\xd4", "SE\xd4", "s@t") {
		mustNeverKnow(t, "bytes that are no letters", word)
	}
}

func tryShortNames(t *testing.T, ahead, letters string, count int, known *int) {
	t.Helper()
	if mustJudgePlainly(t, "short names", someArgs(ahead, "a")) > 0 {
		*known++
	}
	if count == 0 {
		return
	}
	for _, letter := range strings.Split(letters, "") {
		tryShortNames(t, ahead+letter, letters, count-1, known)
	}
}

func TestShortTextsAsNames(t *testing.T) {
	known := 0
	tryShortNames(t, "", "ABCDEFGHIJKLMNOPQRSTUVWXYZ", 3, &known)
	if known != 4 {
		t.Errorf("%d names of at most three letters, not DEL, GET, SET and TTL", known)
	}
	known = 0
	tryShortNames(t, "", "GETgets\x00 \r", 4, &known)
	if known != 8+4 {
		t.Errorf("%d names of these letters, not GET in eight and SET in four", known)
	}
	known = 0
	tryShortNames(t, "", "SCARDEL", 5, &known)
	if known != 4 {
		t.Errorf("%d names of these letters, not DEL, DECR, SADD and SCARD", known)
	}
}

// A command that comes as bytes, in both forms, is judged as its arguments are.
func TestCommandsThatComeAsBytes(t *testing.T) {
	for _, c := range commandsByHand() {
		for _, name := range inAllCases(c.name) {
			for count := range impl.MaxArgs {
				args := append(someArgs(name), manyArgs(count, "7")...)
				line, _, _ := impl.ParseRequest(strings.Join(args, " ") + "\r\n")
				text, _ := impl.RequestText(args)
				counted, _, _ := impl.ParseRequest(text)
				for _, came := range someRequests(line, counted) {
					if impl.ArityOk(came) != (c.takes[count] == 'y') || impl.Writes(came) != c.writes {
						t.Errorf("%q, which came as bytes: %v, %v", came, impl.ArityOk(came), impl.Writes(came))
					}
				}
			}
		}
	}
	for _, text := range someArgs("\n", "*0\r\n", "  \r\n") {
		args, _, state := impl.ParseRequest(text)
		if state != there {
			t.Fatalf("%q is no request", text)
		}
		mustNotKnow(t, "a request without arguments", args)
	}
}

// commandArgs draws a command, mostly a right name with about as many arguments as it takes.
func (w *drawer) commandArgs() []string {
	names := commandNamesByHand()
	name := []byte(names[w.below(len(names))])
	for at := range name {
		if w.below(3) == 0 {
			name[at] ^= 32
		}
	}
	args := someArgs(string(name))
	if w.below(4) == 0 {
		args[0] = w.damaged(args[0])
	}
	if w.below(50) == 0 {
		return w.args()
	}
	for range w.below(2 + w.below(8)) {
		args = append(args, w.item())
	}
	return args
}

func TestDrawnCommands(t *testing.T) {
	w := &drawer{state: 13}
	var told [3]int
	for range 60000 {
		told[mustJudgePlainly(t, "drawn", w.commandArgs())]++
	}
	for judged, count := range told {
		if count < 5000 {
			t.Errorf("only %d drawn commands are judged %d", count, judged)
		}
	}
}

func TestFaultsOfCommandsAreReplies(t *testing.T) {
	for _, args := range someRequests(nil, someArgs("what"), someArgs("GET"), someArgs("PING", "a")) {
		text := impl.Unknown(args)
		mustTellReplies(t, "a fault of a command", text, someArgs(text))
	}
}

func TestAnswersOnCommandsAreNewMemory(t *testing.T) {
	came := someArgs(strings.Clone("ERR unknown"), strings.Clone("-ERR unknown\r\n"), strings.Clone("GET"))
	one, other := impl.Unknown(came), impl.Unknown(came)
	mustShareNoText(t, "Unknown of no command", someArgs(one, other), came)
	came = someArgs(strings.Clone("GET"), strings.Clone("-ERR arguments\r\n"), strings.Clone("ERR arguments"))
	one, other = impl.Unknown(came), impl.Unknown(came)
	mustShareNoText(t, "Unknown of other arguments", someArgs(one, other), came)
	before := impl.Commands()
	for _, name := range before {
		impl.ArityOk(someArgs(name))
	}
	if !slices.Equal(before, impl.Commands()) {
		t.Error("what is asked changes what Commands tells")
	}
}

var wholeText = regexp.MustCompile(`^(0|-?[1-9][0-9]*)$`)

// plainInt is the rule again, by a pattern and numbers without a limit.
func plainInt(text string) (int, bool) {
	if !wholeText.MatchString(text) {
		return 0, false
	}
	n, _ := new(big.Int).SetString(text, 10)
	if n.CmpAbs(big.NewInt(1000000000)) > 0 {
		return 0, false
	}
	return int(n.Int64()), true
}

func mustReadInt(t *testing.T, why, text string, want int, wantOk bool) {
	t.Helper()
	before := strings.Clone(text)
	n, ok := impl.ReadInt(text)
	if n != want || ok != wantOk {
		t.Errorf("%s: ReadInt(%.60q) is %d, %v, not %d, %v", why, text, n, ok, want, wantOk)
	}
	if text != before {
		t.Errorf("%s: ReadInt has changed its text", why)
	}
}

func mustReadIntPlainly(t *testing.T, why, text string) bool {
	t.Helper()
	n, ok := plainInt(text)
	mustReadInt(t, why, text, n, ok)
	return ok
}

func TestReadInt(t *testing.T) {
	for _, c := range []struct {
		text string
		n    int
	}{
		{"0", 0},
		{"1", 1},
		{"-1", -1},
		{"9", 9},
		{"-9", -9},
		{"10", 10},
		{"-10", -10},
		{"-12", -12},
		{"100", 100},
		{"305", 305},
		{"-1001", -1001},
		{"123456789", 123456789},
		{"-987654321", -987654321},
		{"999999999", 999999999},
		{"-999999999", -999999999},
		{"1000000000", impl.MaxNumber},
		{"-1000000000", -impl.MaxNumber},
	} {
		mustReadInt(t, "a number", c.text, c.n, true)
	}
}

func TestWhatIsNoInt(t *testing.T) {
	for _, text := range someArgs(
		"", "1000000001", "-1000000001", "1000000010", "-1000000010", "9999999999", "-9999999999", "10000000000", "-10000000000",
		"2147483647", "2147483648", "-2147483648", "4294967295", "4294967296", "4294967297", "-4294967295", "-4294967297",
		"9223372036854775807", "9223372036854775808", "-9223372036854775808", "-9223372036854775809", "18446744073709551615", "18446744073709551616", "18446744073709551617", "-18446744073709551617", "36893488147419103233",
		"340282366920938463463374607431768211457", strings.Repeat("9", 5000), "-"+strings.Repeat("9", 5000), "1"+strings.Repeat("0", 20000), strings.Repeat("1", 1000000),
		"-0", "+0", "00", "-00", "01", "-01", "007", "-007", "0000000001", "-0000000001", "01000000000", strings.Repeat("0", 100), "-"+strings.Repeat("0", 100), "0"+strings.Repeat("0", 5000)+"1",
		"+1", "+12", "+1000000000", "-", "+", "--", "--1", "++1", "+-1", "-+1", "---1", "1-", "1+", "1-1", "-1-", "- 1", "-\x001", "\u22121", "\u20111",
		" ", " 1", "1 ", " -1", "-1 ", "1 2", "\t1", "1\t", "\n1", "1\n", "-1\n", "1\r\n", "\r1", "1\x00", "\x001", "0 ", " 0", "0\n",
		"a", "1a", "a1", "-a", "0x1", "0X1", "0b1", "0o7", "x", "1_0", "1_000", "_1", "1,000", "1.0", "-1.5", ".5", "1.", "1e3", "1E3", "-1e3", "1e", "inf", "-Inf", "NaN", "nil", "1:", "1/", ":1", "/1", "#1", "(1)", "1%",
		"\xb1", "\xff", "\u0661", "\uff11", "\u00b2", "1\u0661", "\ufeff1", "1\u00a0", "one", ":1\r\n", "$1\r\n1\r\n",
	) {
		mustReadInt(t, "no number", text, 0, false)
	}
}

// intsToTry are some on both sides of each limit, and of each power of two and of ten.
func intsToTry() []int {
	list := []int{math.MinInt, math.MinInt + 1, math.MaxInt - 1, math.MaxInt}
	for _, middle := range []int{0, impl.MaxNumber, -impl.MaxNumber} {
		for n := middle - 1200; n <= middle+1200; n++ {
			list = append(list, n)
		}
	}
	for power := 1; power < math.MaxInt/2; power *= 2 {
		list = append(list, power-1, power, power+1, 1-power, -power, -power-1)
	}
	for power := 1; power < math.MaxInt/10; power *= 10 {
		list = append(list, power-1, power, power+1, 1-power, -power, -power-1)
	}
	for n := 11; n < impl.MaxNumber; n += 1234567 {
		list = append(list, n, -n)
	}
	return list
}

func TestReadIntReadsWhatDecimalWrites(t *testing.T) {
	for _, n := range intsToTry() {
		text := impl.Decimal(n)
		if n < -1000000000 || n > 1000000000 {
			mustReadInt(t, "past the limits", text, 0, false)
			continue
		}
		mustReadInt(t, "within the limits", text, n, true)
		for _, wrong := range someArgs("0"+text, "+"+text, " "+text, text+" ", text+"\n", text+"\x00", text+"a", text+"-", "--"+text, "-0"+text, text+".", "-"+text+"-", text+","+text, "\x00"+text) {
			mustReadInt(t, "more around a number", wrong, 0, false)
		}
		mustReadIntPlainly(t, "a sign ahead", "-"+text)
		mustReadIntPlainly(t, "a figure behind", text+"7")
	}
}

func TestReadIntOfNumbersWithoutALimit(t *testing.T) {
	one := big.NewInt(1)
	for power := uint(25); power < 300; power++ {
		number := new(big.Int).Lsh(one, power)
		for _, more := range []int64{-2, -1, 0, 1, 2, 1000000000} {
			near := new(big.Int).Add(number, big.NewInt(more))
			mustReadIntPlainly(t, "a great number", near.String())
			mustReadIntPlainly(t, "a number far below", new(big.Int).Neg(near).String())
		}
	}
}

func tryShortInts(t *testing.T, ahead string, pieces []string, count int, told *[2]int) {
	t.Helper()
	if mustReadIntPlainly(t, "short texts", ahead) {
		told[1]++
	} else {
		told[0]++
	}
	if count == 0 {
		return
	}
	for _, piece := range pieces {
		tryShortInts(t, ahead+piece, pieces, count-1, told)
	}
}

func TestShortTextsAsInts(t *testing.T) {
	var told [2]int
	tryShortInts(t, "", strings.Split("-+0123456789 .x\n", ""), 4, &told)
	tryShortInts(t, "", someArgs("-", "0", "1", "9"), 7, &told)
	tryShortInts(t, "100000", someArgs("0", "1", "9", "-"), 5, &told)
	tryShortInts(t, "-100000", someArgs("0", "1", "9", "-"), 5, &told)
	var bytes []string
	for b := range 256 {
		bytes = append(bytes, string([]byte{byte(b)}))
	}
	tryShortInts(t, "", bytes, 2, &told)
	tryShortInts(t, "-", bytes, 1, &told)
	for ok, count := range told {
		if count < 2000 {
			t.Errorf("only %d short texts are told %d", count, ok)
		}
	}
}

func TestDrawnInts(t *testing.T) {
	w := &drawer{state: 1313}
	var told [2]int
	for range 60000 {
		text := impl.Decimal(w.wholeNumber())
		if w.below(3) == 0 {
			text = w.damaged(text)
		}
		if mustReadIntPlainly(t, "drawn", text) {
			told[1]++
		} else {
			told[0]++
		}
	}
	for ok, count := range told {
		if count < 5000 {
			t.Errorf("only %d drawn texts are told %d", count, ok)
		}
	}
}
