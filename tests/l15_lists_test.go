package tests

import (
	"math"
	"slices"
	"strconv"
	"strings"
	"testing"

	"loop.example/g00124/impl"
)

const noneReply = "*0\r\n"

func listCommandNames() []string { return words("LPUSH RPUSH LPOP RPOP LLEN LRANGE LINDEX") }

func listLayer() layer { return layer{"OnLists", listCommandNames(), impl.OnLists, plainOnLists} }

// plainPlaces are the places that a range has, each asked by itself.
func plainPlaces(first, last, length int) []int {
	var places []int
	for place := range length {
		behindFirst := first >= 0 && place >= min(first, length-1) || first < 0 && place-length >= first
		aheadOfLast := last >= 0 && place <= last || last < 0 && place-length <= max(last, -length)
		if behindFirst && aheadOfLast {
			places = append(places, place)
		}
	}
	return places
}

func plainBounds(first, last, length int) (int, int) {
	if length < 1 || length > 1000 {
		return 0, 0
	}
	places := plainPlaces(first, last, length)
	if len(places) == 0 {
		return 0, 0
	}
	return places[0], places[0] + len(places)
}

// plainOnLists is the rule again, over a map.
func plainOnLists(table []impl.Entry, args []string) ([]impl.Entry, string, bool) {
	c, known := plainCommand(args)
	if !known || !c.takesByHand(len(args)-1) || !slices.Contains(listCommandNames(), c.name) || !rightTableByHand(table) {
		return nil, "", false
	}
	vals := mapOf(table)
	reply := plainListCommand(vals, c.name, args[1], args[2:])
	if isFault(reply) {
		return table, reply, true
	}
	return tableOfMap(vals), reply, true
}

func plainListCommand(vals map[string]impl.Val, name, key string, args []string) string {
	v, there := vals[key]
	if there && v.Kind != 2 {
		return wrongReply
	}
	switch name {
	case "LPUSH":
		items := slices.Clone(args)
		slices.Reverse(items)
		return plainLeave(vals, key, untilTime(listVal(append(items, v.Items...)...), v.Until))
	case "RPUSH":
		return plainLeave(vals, key, untilTime(listVal(append(slices.Clone(v.Items), args...)...), v.Until))
	case "LLEN":
		return numberByHand(len(v.Items))
	case "LRANGE", "LINDEX":
		return plainPart(v.Items, name, args)
	}
	if !there {
		return nilReply
	}
	last := len(v.Items) - 1
	item, left := v.Items[0], v.Items[1:]
	if name == "RPOP" {
		item, left = v.Items[last], v.Items[:last]
	}
	plainLeave(vals, key, untilTime(listVal(left...), v.Until))
	return bulkByHand(item)
}

func plainLeave(vals map[string]impl.Val, key string, v impl.Val) string {
	if len(v.Items) == 0 {
		delete(vals, key)
		return ""
	}
	return plainSet(vals, key, v, numberByHand(len(v.Items)))
}

func plainPart(items []string, name string, args []string) string {
	var numbers []int
	for _, arg := range args {
		n, ok := plainInt(arg)
		if !ok {
			return notIntReply
		}
		numbers = append(numbers, n)
	}
	if name == "LRANGE" {
		var list []string
		for _, place := range plainPlaces(numbers[0], numbers[1], len(items)) {
			list = append(list, bulkByHand(items[place]))
		}
		return arrayByHand(list...)
	}
	for place, item := range items {
		if numbers[0] == place || numbers[0] == place-len(items) {
			return bulkByHand(item)
		}
	}
	return nilReply
}

func TestBoundsOneByOne(t *testing.T) {
	for _, c := range []struct{ first, last, length, from, to int }{
		{0, 0, 0, 0, 0}, {0, -1, 0, 0, 0}, {-1, 0, 0, 0, 0}, {5, 9, 0, 0, 0},
		{0, 0, 1, 0, 1}, {0, -1, 1, 0, 1}, {-1, -1, 1, 0, 1}, {-1, 0, 1, 0, 1}, {1, 1, 1, 0, 1}, {1, 0, 1, 0, 1}, {0, 1, 1, 0, 1}, {-2, -2, 1, 0, 1}, {0, -2, 1, 0, 1}, {7, -7, 1, 0, 1}, {-7, 7, 1, 0, 1},
		{0, -1, 2, 0, 2}, {0, 0, 2, 0, 1}, {1, 1, 2, 1, 2}, {1, 0, 2, 0, 0}, {-1, -2, 2, 0, 0}, {-2, -1, 2, 0, 2}, {-1, -1, 2, 1, 2}, {-2, -2, 2, 0, 1}, {2, 2, 2, 1, 2}, {-3, -3, 2, 0, 1}, {-1, 0, 2, 0, 0}, {1, -2, 2, 0, 0},
		{-2, 9, 3, 1, 3}, {0, 2, 3, 0, 3}, {0, 3, 3, 0, 3}, {0, 1, 3, 0, 2}, {1, 1, 3, 1, 2}, {1, -1, 3, 1, 3}, {-3, -1, 3, 0, 3}, {-4, -1, 3, 0, 3}, {-4, -4, 3, 0, 1}, {-4, -3, 3, 0, 1}, {-9, -2, 3, 0, 2},
		{2, 2, 3, 2, 3}, {3, 3, 3, 2, 3}, {3, 2, 3, 2, 3}, {3, 1, 3, 0, 0}, {2, 3, 3, 2, 3}, {9, 5, 3, 2, 3}, {9, -1, 3, 2, 3}, {9, -2, 3, 0, 0}, {2, 1, 3, 0, 0}, {0, -4, 3, 0, 1}, {1, -4, 3, 0, 0}, {1, -3, 3, 0, 0}, {-2, 0, 3, 0, 0},
		{3, 6, 10, 3, 7}, {-7, -4, 10, 3, 7}, {3, -4, 10, 3, 7}, {-7, 6, 10, 3, 7}, {-10, -10, 10, 0, 1}, {-11, -10, 10, 0, 1}, {-10, 9, 10, 0, 10}, {9, 10, 10, 9, 10}, {10, 10, 10, 9, 10}, {-1, 10, 10, 9, 10},
		{0, -1, 999, 0, 999}, {0, -1, 1000, 0, 1000}, {-1000, 999, 1000, 0, 1000}, {999, 1000, 1000, 999, 1000}, {-1001, -1000, 1000, 0, 1}, {500, -500, 1000, 500, 501}, {501, -500, 1000, 0, 0}, {-1, -1, 1000, 999, 1000}, {-2, -1, 1000, 998, 1000},
		{0, -1, 1001, 0, 0}, {0, 0, 1001, 0, 0}, {0, 5, 2000, 0, 0}, {0, 0, -1, 0, 0}, {0, -1, -1, 0, 0}, {-1, -1, -3, 0, 0}, {-5, 5, -10, 0, 0},
		{0, 0, math.MaxInt, 0, 0}, {0, 0, math.MinInt, 0, 0}, {math.MinInt, math.MaxInt, math.MinInt, 0, 0}, {math.MinInt, math.MinInt, math.MaxInt, 0, 0},
		{math.MinInt, math.MaxInt, 3, 0, 3}, {math.MaxInt, math.MinInt, 3, 0, 0}, {math.MaxInt, math.MaxInt, 3, 2, 3}, {math.MinInt, math.MinInt, 3, 0, 1}, {math.MinInt, math.MinInt, 1000, 0, 1}, {math.MaxInt, math.MinInt, 1, 0, 1},
	} {
		if from, to := impl.Bounds(c.first, c.last, c.length); from != c.from || to != c.to {
			t.Errorf("Bounds(%d, %d, %d): %d %d, want %d %d", c.first, c.last, c.length, from, to, c.from, c.to)
		}
		if from, to := plainBounds(c.first, c.last, c.length); from != c.from || to != c.to {
			t.Errorf("Bounds(%d, %d, %d): %d %d by the words, not %d %d", c.first, c.last, c.length, from, to, c.from, c.to)
		}
	}
}

func mustBound(t *testing.T, first, last, length int) {
	t.Helper()
	wantFrom, wantTo := plainBounds(first, last, length)
	if from, to := impl.Bounds(first, last, length); from != wantFrom || to != wantTo {
		t.Errorf("Bounds(%d, %d, %d): %d %d, want %d %d", first, last, length, from, to, wantFrom, wantTo)
	}
}

// endsToTry lie well ahead of so many items, well behind them, at their ends and between.
func endsToTry(length int) []int {
	list := []int{math.MinInt, math.MinInt + 1, -1000000001, -1000000000, -5, -4, -3, -2, -1, 0, 1, 2, 3, 4, 5, 1000000000, 1000000001, math.MaxInt - 1, math.MaxInt}
	for _, turn := range []int{1, -1} {
		for _, near := range []int{-3, -2, -1, 0, 1, 2, 3} {
			list = append(list, turn*length+near, turn*(length/2)+near, turn*2*length+near)
		}
	}
	return slices.Compact(slices.Sorted(slices.Values(list)))
}

func TestBoundsOfEveryRange(t *testing.T) {
	for length := -3; length <= 26; length++ {
		for first := -2*length - 4; first <= 2*length+4; first++ {
			for last := -2*length - 4; last <= 2*length+4; last++ {
				mustBound(t, first, last, length)
			}
		}
	}
	for _, length := range []int{math.MinInt, -1001, -1000, -999, -2, -1, 0, 1, 2, 3, 100, 255, 256, 257, 998, 999, 1000, 1001, 1002, 2000, 65536, 1 << 32, math.MaxInt - 1, math.MaxInt} {
		for _, first := range endsToTry(length) {
			for _, last := range endsToTry(length) {
				mustBound(t, first, last, length)
			}
		}
	}
	for first := -2003; first <= 2003; first++ {
		mustBound(t, first, -1, 1000)
		mustBound(t, 0, first, 1000)
		mustBound(t, first, first, 1000)
		mustBound(t, first, -first, 1000)
	}
}

func TestBoundsLieInTheList(t *testing.T) {
	w := &drawer{state: 1500}
	some := 0
	for range 20000 {
		length := 1 + w.below(1000)
		first, last := w.below(4*length)-2*length, w.below(4*length)-2*length
		from, to := impl.Bounds(first, last, length)
		if from < 0 || to > length || from > to || from == to && from != 0 {
			t.Errorf("Bounds(%d, %d, %d): %d %d", first, last, length, from, to)
		}
		if first >= 0 && first <= last && last < length {
			some++
			if from != first || to != last+1 {
				t.Errorf("Bounds(%d, %d, %d): %d %d", first, last, length, from, to)
			}
			for _, ends := range [][2]int{{first - length, last}, {first, last - length}, {first - length, last - length}} {
				if sameFrom, sameTo := impl.Bounds(ends[0], ends[1], length); sameFrom != from || sameTo != to {
					t.Errorf("Bounds(%d, %d, %d): %d %d, want %d %d", ends[0], ends[1], length, sameFrom, sameTo, from, to)
				}
			}
		}
	}
	if some < 500 {
		t.Errorf("only %d lie within", some)
	}
}

func casesOfPushing() []commandCase {
	one, many := oneEntry("a", listVal("x")), someTable()
	return []commandCase{
		{"the first item", nil, words("LPUSH a x"), one, ":1\r\n"},
		{"the first item", nil, words("RPUSH a x"), one, ":1\r\n"},
		{"the first item of an empty table", []impl.Entry{}, words("LPUSH a x"), one, ":1\r\n"},
		{"an empty item", nil, someArgs("RPUSH", "a", ""), oneEntry("a", listVal("")), ":1\r\n"},
		{"an empty item in front", one, someArgs("LPUSH", "a", ""), oneEntry("a", listVal("", "x")), ":2\r\n"},
		{"in front", one, words("LPUSH a y"), oneEntry("a", listVal("y", "x")), ":2\r\n"},
		{"behind", one, words("RPUSH a y"), oneEntry("a", listVal("x", "y")), ":2\r\n"},
		{"the same in front", one, words("LPUSH a x"), oneEntry("a", listVal("x", "x")), ":2\r\n"},
		{"the same behind", one, words("RPUSH a x"), oneEntry("a", listVal("x", "x")), ":2\r\n"},
		{"several in front", one, words("LPUSH a 1 2 3"), oneEntry("a", listVal("3", "2", "1", "x")), ":4\r\n"},
		{"several behind", one, words("RPUSH a 1 2 3"), oneEntry("a", listVal("x", "1", "2", "3")), ":4\r\n"},
		{"two in front", one, words("LPUSH a 1 2"), oneEntry("a", listVal("2", "1", "x")), ":3\r\n"},
		{"two behind", one, words("RPUSH a 1 2"), oneEntry("a", listVal("x", "1", "2")), ":3\r\n"},
		{"several in front of nothing", nil, words("LPUSH a 1 2 3 4"), oneEntry("a", listVal("4", "3", "2", "1")), ":4\r\n"},
		{"several behind nothing", nil, words("RPUSH a 1 2 3 4"), oneEntry("a", listVal("1", "2", "3", "4")), ":4\r\n"},
		{"the same several times", nil, words("LPUSH a x y x x"), oneEntry("a", listVal("x", "x", "y", "x")), ":4\r\n"},
		{"in front, till a time", many, words("LPUSH l 8 9"), someTableWith(entry("l", untilTime(listVal("9", "8", "7"), 9))), ":3\r\n"},
		{"behind, till a time", many, words("RPUSH l 8 9"), someTableWith(entry("l", untilTime(listVal("7", "8", "9"), 9))), ":3\r\n"},
		{"a new list among others", many, words("LPUSH m y"), someTableWith(entry("m", listVal("y"))), ":1\r\n"},
		{"a new list ahead of others", many, words("RPUSH A y"), someTableWith(entry("A", listVal("y"))), ":1\r\n"},
		{"a new list behind others", many, words("RPUSH z y z"), someTableWith(entry("z", listVal("y", "z"))), ":2\r\n"},
		{"a key in other letters", one, words("RPUSH A y"), entries(entry("A", listVal("y")), one[0]), ":1\r\n"},
		{"an item that is a command", nil, words("RPUSH LPUSH LPUSH RPUSH"), oneEntry("LPUSH", listVal("LPUSH", "RPUSH")), ":2\r\n"},
		{"in front of a text", many, words("LPUSH n 8"), many, wrongReply},
		{"behind a set", many, words("RPUSH s 8"), many, wrongReply},
		{"in front of fields", many, words("LPUSH f 8 9"), many, wrongReply},
		{"behind an empty text", many, words("RPUSH e 8"), many, wrongReply},
		{"without a key", many, someArgs("LPUSH", "", "8"), many, tooMuchReply},
		{"without a key", nil, someArgs("RPUSH", "", "8"), nil, tooMuchReply},
	}
}

func casesOfPopping() []commandCase {
	one, many := oneEntry("a", listVal("x")), someTable()
	three := oneEntry("a", listVal("1", "2", "3"))
	gone := func(key string) []impl.Entry {
		return slices.DeleteFunc(someTable(), func(e impl.Entry) bool { return e.Key == key })
	}
	return []commandCase{
		{"of no table", nil, words("LPOP a"), nil, nilReply},
		{"of no table", []impl.Entry{}, words("RPOP a"), nil, nilReply},
		{"of another key", one, words("LPOP b"), one, nilReply},
		{"of another key", one, words("RPOP b"), one, nilReply},
		{"of none of many", many, words("LPOP m"), many, nilReply},
		{"of a key that is too long", many, someArgs("RPOP", someText(21)), many, nilReply},
		{"of no key", many, someArgs("LPOP", ""), many, nilReply},
		{"the only one", one, words("LPOP a"), nil, "$1\r\nx\r\n"},
		{"the only one", one, words("RPOP a"), nil, "$1\r\nx\r\n"},
		{"the only one, and empty", oneEntry("a", listVal("")), words("LPOP a"), nil, "$0\r\n\r\n"},
		{"the only one, till a time", many, words("LPOP l"), gone("l"), "$1\r\n7\r\n"},
		{"the only one, till a time", many, words("RPOP l"), gone("l"), "$1\r\n7\r\n"},
		{"the first", three, words("LPOP a"), oneEntry("a", listVal("2", "3")), "$1\r\n1\r\n"},
		{"the last", three, words("RPOP a"), oneEntry("a", listVal("1", "2")), "$1\r\n3\r\n"},
		{"the first of two", oneEntry("a", listVal("1", "2")), words("LPOP a"), oneEntry("a", listVal("2")), "$1\r\n1\r\n"},
		{"the last of two", oneEntry("a", listVal("1", "2")), words("RPOP a"), oneEntry("a", listVal("1")), "$1\r\n2\r\n"},
		{"the first of the same", oneEntry("a", untilTime(listVal("x", "x"), 5)), words("LPOP a"), oneEntry("a", untilTime(listVal("x"), 5)), "$1\r\nx\r\n"},
		{"the last, till a time", oneEntry("a", untilTime(listVal("x", "y"), 5)), words("RPOP a"), oneEntry("a", untilTime(listVal("x"), 5)), "$1\r\ny\r\n"},
		{"an empty one ahead", oneEntry("a", listVal("", "y")), words("LPOP a"), oneEntry("a", listVal("y")), "$0\r\n\r\n"},
		{"an empty one behind", oneEntry("a", listVal("y", "")), words("RPOP a"), oneEntry("a", listVal("y")), "$0\r\n\r\n"},
		{"an empty one is left", oneEntry("a", listVal("", "y")), words("RPOP a"), oneEntry("a", listVal("")), "$1\r\ny\r\n"},
		{"of a text", many, words("LPOP n"), many, wrongReply},
		{"of a set", many, words("RPOP s"), many, wrongReply},
		{"of fields", many, words("LPOP f"), many, wrongReply},
		{"of an empty text", many, words("RPOP e"), many, wrongReply},
	}
}

func casesOfLooking() []commandCase {
	five, many := oneEntry("a", listVal("v", "", "x", "y", "z")), someTable()
	return []commandCase{
		{"how many in no table", nil, words("LLEN a"), nil, ":0\r\n"},
		{"how many of none", five, words("LLEN b"), five, ":0\r\n"},
		{"how many of five", five, words("LLEN a"), five, ":5\r\n"},
		{"how many of one", many, words("LLEN l"), many, ":1\r\n"},
		{"how many of no key", many, someArgs("LLEN", ""), many, ":0\r\n"},
		{"how many of a key that is too long", many, someArgs("LLEN", someText(21)), many, ":0\r\n"},
		{"how many of a text", many, words("LLEN n"), many, wrongReply},
		{"the range of none", nil, words("LRANGE a 0 -1"), nil, noneReply},
		{"the range of another", five, words("LRANGE b 0 -1"), five, noneReply},
		{"the range of no key", five, someArgs("LRANGE", "", "0", "-1"), five, noneReply},
		{"all", five, words("LRANGE a 0 -1"), five, "*5\r\n$1\r\nv\r\n$0\r\n\r\n$1\r\nx\r\n$1\r\ny\r\n$1\r\nz\r\n"},
		{"all, and more", five, words("LRANGE a -100 100"), five, "*5\r\n$1\r\nv\r\n$0\r\n\r\n$1\r\nx\r\n$1\r\ny\r\n$1\r\nz\r\n"},
		{"the middle", five, words("LRANGE a 1 3"), five, "*3\r\n$0\r\n\r\n$1\r\nx\r\n$1\r\ny\r\n"},
		{"the middle from the end", five, words("LRANGE a -4 -2"), five, "*3\r\n$0\r\n\r\n$1\r\nx\r\n$1\r\ny\r\n"},
		{"the beginning", five, words("LRANGE a 0 1"), five, "*2\r\n$1\r\nv\r\n$0\r\n\r\n"},
		{"the end", five, words("LRANGE a -2 -1"), five, "*2\r\n$1\r\ny\r\n$1\r\nz\r\n"},
		{"one", five, words("LRANGE a 2 2"), five, "*1\r\n$1\r\nx\r\n"},
		{"one from the end", five, words("LRANGE a -3 2"), five, "*1\r\n$1\r\nx\r\n"},
		{"none", five, words("LRANGE a 3 1"), five, noneReply},
		{"none from the end", five, words("LRANGE a -1 -2"), five, noneReply},
		{"what lies behind is the last", five, words("LRANGE a 5 9"), five, "*1\r\n$1\r\nz\r\n"},
		{"what lies ahead is the first", five, words("LRANGE a -9 -6"), five, "*1\r\n$1\r\nv\r\n"},
		{"one, till a time", many, words("LRANGE l 0 0"), many, "*1\r\n$1\r\n7\r\n"},
		{"the range of a set", many, words("LRANGE s 0 -1"), many, wrongReply},
		{"no number first", five, words("LRANGE a x 1"), five, notIntReply},
		{"no number second", five, words("LRANGE a 0 -0"), five, notIntReply},
		{"no numbers of none", nil, words("LRANGE a + -"), nil, notIntReply},
		{"of none", nil, words("LINDEX a 0"), nil, nilReply},
		{"of another", five, words("LINDEX b 0"), five, nilReply},
		{"of no key", five, someArgs("LINDEX", "", "0"), five, nilReply},
		{"the first", five, words("LINDEX a 0"), five, "$1\r\nv\r\n"},
		{"the second", five, words("LINDEX a 1"), five, "$0\r\n\r\n"},
		{"the last", five, words("LINDEX a 4"), five, "$1\r\nz\r\n"},
		{"one past the last", five, words("LINDEX a 5"), five, nilReply},
		{"the last from the end", five, words("LINDEX a -1"), five, "$1\r\nz\r\n"},
		{"one from the end", five, words("LINDEX a -2"), five, "$1\r\ny\r\n"},
		{"the first from the end", five, words("LINDEX a -5"), five, "$1\r\nv\r\n"},
		{"one past the first", five, words("LINDEX a -6"), five, nilReply},
		{"far behind", five, words("LINDEX a 1000000000"), five, nilReply},
		{"far ahead", five, words("LINDEX a -1000000000"), five, nilReply},
		{"one, till a time", many, words("LINDEX l -1"), many, "$1\r\n7\r\n"},
		{"of fields", many, words("LINDEX f 0"), many, wrongReply},
		{"no number", five, words("LINDEX a 01"), five, notIntReply},
		{"no number of none", five, words("LINDEX b one"), five, notIntReply},
	}
}

func casesOfLists() []commandCase {
	return slices.Concat(casesOfPushing(), casesOfPopping(), casesOfLooking())
}

func TestListCommandsOneByOne(t *testing.T) { listLayer().mustDoEach(t, casesOfLists(), 7) }

// listCommandsOn are all seven, with numbers and items that they may be told.
func listCommandsOn(key string) [][]string {
	list := someRequests(someArgs("LPOP", key), someArgs("RPOP", key), someArgs("LLEN", key), someArgs("LPUSH", key, "1", "2", "3"), someArgs("RPUSH", key, "1", "2", "3"))
	for _, item := range someArgs("", "x", "\x00", "\r\n", someText(59), someText(60), someText(61)) {
		list = append(list, someArgs("LPUSH", key, item), someArgs("RPUSH", key, item), someArgs("LPUSH", key, "a", item), someArgs("RPUSH", key, item, "a"))
	}
	for _, first := range someArgs("0", "1", "-1", "-2", "23", "24", "-24", "-25", "1000000000", "-1000000000", "1000000001", "-1000000001", "x", "", "-0") {
		list = append(list, someArgs("LINDEX", key, first))
		for _, last := range someArgs("0", "1", "-1", "-3", "1000000000", "-1000000001", "01") {
			list = append(list, someArgs("LRANGE", key, first, last), someArgs("LRANGE", key, last, first))
		}
	}
	return list
}

func TestListCommandsOverTables(t *testing.T) {
	lists, told := listLayer(), map[string]int{}
	tables := rightTables()
	for _, c := range append(tables, namedTable{"each kind", someTable()}) {
		keys := someArgs("a", "none", "other", "", someText(20), someText(21))
		for _, e := range c.table {
			keys = append(keys, e.Key)
		}
		for _, key := range slices.Compact(slices.Sorted(slices.Values(keys))) {
			for _, args := range listCommandsOn(key) {
				told[lists.mustDoPlainly(t, c.why, c.table, args)]++
			}
		}
	}
	for _, mark := range someArgs(":", "$", "*", wrongReply, notIntReply, tooMuchReply) {
		if told[mark] < 200 {
			t.Errorf("only %d are told %q: %v", told[mark], mark, told)
		}
	}
}

func pushCommands(name, key string, items []string, together bool) [][]string {
	if together {
		return [][]string{append(someArgs(name, key), items...)}
	}
	var list [][]string
	for _, item := range items {
		list = append(list, someArgs(name, key, item))
	}
	return list
}

// mustPop takes all items, each of which must come in its turn, and tells what is left.
func mustPop(t *testing.T, why string, table []impl.Entry, name, key string, items []string) []impl.Entry {
	t.Helper()
	for n, item := range items {
		behind, reply, ok := impl.OnLists(table, someArgs(name, key))
		if reply != bulkByHand(item) || !ok {
			t.Errorf("%s: item %d of %d is %q %v, not %q", why, n, len(items), reply, ok, item)
		}
		table = behind
	}
	listLayer().mustDo(t, why+", and no more", table, someArgs(name, key), table, nilReply)
	return table
}

func itemsToPush() [][]string {
	list := [][]string{someArgs("x"), someArgs(""), someArgs("", ""), words("1 2"), words("x x x"), someArgs("b", "a", "", "a", "\x00", "\r\n", "*1\r\n"), risingItems(24), longItems(24)}
	falling := risingItems(24)
	slices.Reverse(falling)
	return append(list, falling)
}

// Promise 15, from both ends: the same end tells the other order, the other end the same.
func TestWhatIsPushedIsPopped(t *testing.T) {
	for _, table := range [][]impl.Entry{nil, oneEntry("l", textVal("x")), someTable(), manyEntries(19)} {
		for _, items := range itemsToPush() {
			turned := slices.Clone(items)
			slices.Reverse(turned)
			for _, together := range []bool{true, false} {
				ahead := listLayer().after(t, table, pushCommands("LPUSH", "k", items, together)...)
				behind := listLayer().after(t, table, pushCommands("RPUSH", "k", items, together)...)
				for _, c := range []struct {
					why   string
					table []impl.Entry
					name  string
					items []string
				}{
					{"pushed and popped in front", ahead, "LPOP", turned},
					{"pushed in front, popped behind", ahead, "RPOP", items},
					{"pushed behind, popped in front", behind, "LPOP", items},
					{"pushed and popped behind", behind, "RPOP", turned},
				} {
					if left := mustPop(t, c.why, c.table, c.name, "k", c.items); !sameTable(left, table) {
						t.Errorf("%s: %s is left, not %s", c.why, briefTable(left), briefTable(table))
					}
				}
			}
		}
	}
}

// Items go in and out at drawn ends, beside a slice that does the same.
func TestPushingAndPoppingAtBothEnds(t *testing.T) {
	w := &drawer{state: 151}
	lists := listLayer()
	for range 60 {
		items := slices.Clone(risingItems(1 + w.below(5)))
		until := w.below(2) * 300
		table := oneEntry("a", untilTime(listVal(items...), until))
		for step := range 60 {
			item := strconv.Itoa(step)
			args, reply := words("LPOP a"), ""
			switch w.below(4) {
			case 0:
				args, items = someArgs("LPUSH", "a", item), append(someArgs(item), items...)
				reply = numberByHand(len(items))
			case 1:
				args, items = someArgs("RPUSH", "a", item), append(items, item)
				reply = numberByHand(len(items))
			case 2:
				reply, items = bulkByHand(items[0]), items[1:]
			case 3:
				args, reply, items = words("RPOP a"), bulkByHand(items[len(items)-1]), items[:len(items)-1]
			}
			next := oneEntry("a", untilTime(listVal(items...), until))
			if len(items) == 0 || len(items) > 24 {
				break
			}
			lists.mustDo(t, "at both ends", table, args, next, reply)
			table = next
		}
	}
}

func TestListCommandsOneBehindTheOther(t *testing.T) {
	var table []impl.Entry
	for _, step := range []struct{ line, reply string }{
		{"LLEN a", ":0\r\n"}, {"LPOP a", nilReply}, {"RPUSH a x y z", ":3\r\n"}, {"LRANGE a 1 -1", "*2\r\n$1\r\ny\r\n$1\r\nz\r\n"},
		{"LPUSH a w v", ":5\r\n"}, {"LINDEX a 0", "$1\r\nv\r\n"}, {"LINDEX a -1", "$1\r\nz\r\n"}, {"LINDEX a 5", nilReply}, {"LRANGE a 0 x", notIntReply},
		{"RPOP a", "$1\r\nz\r\n"}, {"LPOP a", "$1\r\nv\r\n"}, {"LLEN a", ":3\r\n"}, {"RPUSH b 1", ":1\r\n"}, {"LPOP b", "$1\r\n1\r\n"}, {"LLEN b", ":0\r\n"},
		{"LPUSH b 2", ":1\r\n"}, {"RPOP b", "$1\r\n2\r\n"}, {"RPOP b", nilReply}, {"LRANGE a 0 -1", "*3\r\n$1\r\nw\r\n$1\r\nx\r\n$1\r\ny\r\n"},
		{"LPUSH c 1 2", ":2\r\n"}, {"LPOP a", "$1\r\nw\r\n"}, {"LPOP a", "$1\r\nx\r\n"}, {"LPOP a", "$1\r\ny\r\n"}, {"LPOP a", nilReply}, {"LRANGE a 0 -1", noneReply},
	} {
		behind, reply, ok := impl.OnLists(table, words(step.line))
		if reply != step.reply || !ok {
			t.Errorf("%s: %q %v, not %q", step.line, reply, ok, step.reply)
		}
		table = behind
	}
	if want := oneEntry("c", listVal("2", "1")); !sameTable(table, want) {
		t.Errorf("at the end: %s", briefTable(table))
	}
}

// Ranges are parts of the list: item by item they tell what LINDEX tells.
func TestRangesArePartsOfTheList(t *testing.T) {
	lists := listLayer()
	for _, length := range []int{0, 1, 2, 3, 7, 23, 24} {
		var table []impl.Entry
		items := risingItems(length)
		if length > 0 {
			table = oneEntry("a", untilTime(listVal(items...), 77))
		}
		var told []string
		for n := -length - 3; n <= length+3; n++ {
			_, reply, _ := impl.OnLists(table, someArgs("LINDEX", "a", strconv.Itoa(n)))
			want := nilReply
			if n >= -length && n < length {
				want = bulkByHand(items[(n+length)%max(1, length)])
			}
			if reply != want {
				t.Errorf("%d of %d is %q, not %q", n, length, reply, want)
			}
			if n >= 0 && n < length {
				told = append(told, reply)
			}
		}
		for first := -length - 3; first <= length+3; first++ {
			for last := -length - 3; last <= length+3; last++ {
				from, to := plainBounds(first, last, length)
				lists.mustDo(t, "a range", table, someArgs("LRANGE", "a", strconv.Itoa(first), strconv.Itoa(last)), table, arrayByHand(told[from:to]...))
			}
		}
		lists.mustDo(t, "all of it", table, words("LRANGE a 0 -1"), table, arrayByHand(told...))
		lists.mustDo(t, "how many", table, words("LLEN a"), table, numberByHand(length))
	}
}

// Two ranges that meet are the whole list, wherever it is cut.
func TestRangesThatMeetAreTheList(t *testing.T) {
	for length := 2; length <= 24; length++ {
		items := longItems(length)
		table := oneEntry("a", listVal(items...))
		for cut := 1; cut < length; cut++ {
			_, ahead, _ := impl.OnLists(table, someArgs("LRANGE", "a", "0", strconv.Itoa(cut-1)))
			_, behind, _ := impl.OnLists(table, someArgs("LRANGE", "a", strconv.Itoa(cut), "-1"))
			_, aheadFromEnd, _ := impl.OnLists(table, someArgs("LRANGE", "a", "0", strconv.Itoa(cut-1-length)))
			if got := bulksByHand(items[:cut]); ahead != got || aheadFromEnd != got {
				t.Errorf("ahead of %d of %d: %q %q", cut, length, ahead, aheadFromEnd)
			}
			if behind != bulksByHand(items[cut:]) {
				t.Errorf("behind %d of %d: %q", cut, length, behind)
			}
		}
	}
}

func bulksByHand(items []string) string {
	var list []string
	for _, item := range items {
		list = append(list, bulkByHand(item))
	}
	return arrayByHand(list...)
}

func TestTimesBehindListCommands(t *testing.T) {
	lists := listLayer()
	for _, time := range []int{0, 1, 127, 128, 300, impl.MaxTime - 1, impl.MaxTime} {
		other := entry("b", untilTime(setVal("x"), time))
		with := func(items ...string) []impl.Entry {
			return entries(entry("a", untilTime(listVal(items...), time)), other)
		}
		two := with("1", "2")
		why := "till " + strconv.Itoa(time)
		lists.mustDo(t, why, two, words("LPUSH a 3"), with("3", "1", "2"), ":3\r\n")
		lists.mustDo(t, why, two, words("LPUSH a 3 4"), with("4", "3", "1", "2"), ":4\r\n")
		lists.mustDo(t, why, two, words("RPUSH a 3"), with("1", "2", "3"), ":3\r\n")
		lists.mustDo(t, why, two, words("LPOP a"), with("2"), "$1\r\n1\r\n")
		lists.mustDo(t, why, two, words("RPOP a"), with("1"), "$1\r\n2\r\n")
		for _, line := range someArgs("LLEN a", "LRANGE a 0 -1", "LINDEX a 0", "LPOP none", "LLEN none") {
			lists.mustDo(t, why, two, words(line), two, lists.replyByHand(two, words(line)))
		}
		for _, line := range someArgs("LPUSH b x", "RPUSH b x", "LPOP b", "LRANGE a 0 x", "LINDEX a -0") {
			lists.mustFail(t, why, two, words(line), lists.replyByHand(two, words(line)))
		}
		for _, line := range someArgs("LPOP a", "RPOP a") {
			lists.mustDo(t, "the last item "+why, with("9"), words(line), entries(other), "$1\r\n9\r\n")
			empty := lists.after(t, with("9"), words(line))
			for _, push := range someArgs("LPUSH a 9", "RPUSH a 9") {
				lists.mustDo(t, "a new list, for good, where one was "+why, empty, words(push), entries(entry("a", listVal("9")), other), ":1\r\n")
			}
		}
	}
}

func (l layer) replyByHand(table []impl.Entry, args []string) string {
	_, reply, _ := l.plain(table, args)
	return reply
}

func TestListsUpToTheLimit(t *testing.T) {
	lists := listLayer()
	for stands := range 25 {
		for _, more := range []int{1, 2, 3, 12, 23, 24, 25, 26, 48, 255, 256, 257, 300} {
			var table []impl.Entry
			if stands > 0 {
				table = oneEntry("a", untilTime(listVal(longItems(stands)...), 5))
			}
			for _, name := range words("LPUSH RPUSH") {
				args := append(someArgs(name, "a"), manyArgs(more, "x")...)
				if stands+more > 24 {
					lists.mustFail(t, "an item more, or many", table, args, tooMuchReply)
				} else {
					lists.mustDo(t, "as long as it may be", table, args, tableOfMap(plainAfter(lists, table, args)), numberByHand(stands+more))
				}
			}
		}
	}
	for _, name := range words("LPUSH RPUSH") {
		var table []impl.Entry
		var items []string
		for n := range 24 {
			items = append(items, strconv.Itoa(n))
			want := slices.Clone(items)
			if name == "LPUSH" {
				slices.Reverse(want)
			}
			next := oneEntry("a", listVal(want...))
			lists.mustDo(t, "item by item", table, someArgs(name, "a", strconv.Itoa(n)), next, numberByHand(n+1))
			table = next
		}
		lists.mustFail(t, "an item more", table, someArgs(name, "a", ""), tooMuchReply)
		lists.mustFail(t, "far too many items", nil, append(someArgs(name, "a"), manyArgs(50000, "x")...), tooMuchReply)
	}
}

func plainAfter(l layer, table []impl.Entry, args []string) map[string]impl.Val {
	behind, _, _ := l.plain(table, args)
	return mapOf(behind)
}

func TestLongItems(t *testing.T) {
	lists := listLayer()
	for _, length := range slices.Concat(countsTo(64), []int{255, 256, 316, 2000, impl.MaxText, impl.MaxText + 1, 65536 + 5}) {
		item := someText(length)
		for _, c := range []struct {
			args  []string
			items []string
		}{
			{someArgs("LPUSH", "a", item), someArgs(item, "x")},
			{someArgs("RPUSH", "a", item), someArgs("x", item)},
			{someArgs("LPUSH", "a", "1", item), someArgs(item, "1", "x")},
			{someArgs("RPUSH", "a", item, "1"), someArgs("x", item, "1")},
			{someArgs("LPUSH", "a", "1", item, "2"), someArgs("2", item, "1", "x")},
			{someArgs("RPUSH", "a", "1", item, "2"), someArgs("x", "1", item, "2")},
		} {
			one := oneEntry("a", untilTime(listVal("x"), 7))
			if length > 60 {
				lists.mustFail(t, "an item that is too long", one, c.args, tooMuchReply)
				lists.mustFail(t, "an item that is too long, of none", nil, c.args, tooMuchReply)
				continue
			}
			all := oneEntry("a", untilTime(listVal(c.items...), 7))
			lists.mustDo(t, "an item of some length", one, c.args, all, numberByHand(len(c.items)))
			place := strconv.Itoa(slices.Index(c.items, item))
			lists.mustDo(t, "looked at", all, someArgs("LINDEX", "a", place), all, bulkByHand(item))
			lists.mustDo(t, "looked at among others", all, words("LRANGE a 0 -1"), all, bulksByHand(c.items))
			lists.mustDo(t, "popped", all, words("LPOP a"), oneEntry("a", untilTime(listVal(c.items[1:]...), 7)), bulkByHand(c.items[0]))
		}
	}
}

func TestItemsOfAnyBytes(t *testing.T) {
	lists := listLayer()
	for b := range 256 {
		item := string([]byte{byte(b)})
		for _, text := range someArgs(item, "a"+item+"z", item+item) {
			all := oneEntry("a", listVal(text, "x"))
			lists.mustDo(t, "any byte", oneEntry("a", listVal("x")), someArgs("LPUSH", "a", text), all, ":2\r\n")
			lists.mustDo(t, "any byte", all, words("LINDEX a -2"), all, bulkByHand(text))
			lists.mustDo(t, "any byte", all, words("LPOP a"), oneEntry("a", listVal("x")), bulkByHand(text))
		}
	}
}

func TestFullTablesOfLists(t *testing.T) {
	lists := listLayer()
	full, room := manyEntries(20), manyEntries(19)
	for _, line := range someArgs("LPUSH k x", "RPUSH k x", "LPUSH A x y", "RPUSH zz x y z") {
		args := words(line)
		lists.mustFail(t, "one key too many", full, args, tooMuchReply)
		behind, reply, _ := plainOnLists(room, args)
		lists.mustDo(t, "the last key", room, args, behind, reply)
		if isFault(reply) || len(behind) != 20 {
			t.Errorf("%s: not the last key", line)
		}
	}
	for _, line := range someArgs("LPOP k", "RPOP k", "LLEN k", "LRANGE k 0 -1", "LINDEX k 0") {
		lists.mustDo(t, "none of twenty", full, words(line), full, lists.replyByHand(full, words(line)))
	}
	for n, e := range full {
		full[n].Val = untilTime(listVal(e.Key), n)
	}
	for n, e := range full {
		with := func(items ...string) []impl.Entry {
			own := copyTable(full)
			own[n].Val.Items = items
			return own
		}
		lists.mustDo(t, "pushed in front", full, someArgs("LPUSH", e.Key, "x"), with("x", e.Key), ":2\r\n")
		lists.mustDo(t, "pushed behind", full, someArgs("RPUSH", e.Key, "x"), with(e.Key, "x"), ":2\r\n")
		left := slices.Delete(copyTable(full), n, n+1)
		for _, name := range words("LPOP RPOP") {
			lists.mustDo(t, "the key is gone", full, someArgs(name, e.Key), left, bulkByHand(e.Key))
			popped := lists.after(t, full, someArgs(name, e.Key))
			lists.mustDo(t, "there is room again", popped, words("RPUSH k x"), append(copyTable(left), entry("k", listVal("x"))), ":1\r\n")
		}
	}
}

func TestKeysOfListCommands(t *testing.T) {
	lists := listLayer()
	for length := range 24 {
		key := someText(length)
		for _, table := range [][]impl.Entry{nil, oneEntry("none", textVal("x"))} {
			for _, args := range someRequests(someArgs("LPUSH", key, "x"), someArgs("RPUSH", key, "x")) {
				if length >= 1 && length <= 20 {
					lists.mustDo(t, "a key", table, args, sortedTable(append(oneEntry(key, listVal("x")), table...)), ":1\r\n")
				} else {
					lists.mustFail(t, "a key that cannot be", table, args, tooMuchReply)
				}
			}
			for _, args := range someRequests(someArgs("LPOP", key), someArgs("RPOP", key), someArgs("LINDEX", key, "0")) {
				lists.mustDo(t, "no such key", table, args, table, nilReply)
			}
			lists.mustDo(t, "no such key", table, someArgs("LLEN", key), table, ":0\r\n")
			lists.mustDo(t, "no such key", table, someArgs("LRANGE", key, "0", "-1"), table, noneReply)
		}
	}
	for _, key := range someArgs(someText(300), someText(20000), strings.Repeat("\u20ac", 7)) {
		lists.mustFail(t, "a key that is far too long", someTable(), someArgs("LPUSH", key, "x"), tooMuchReply)
		lists.mustFail(t, "a key that is far too long", someTable(), someArgs("RPUSH", key, "x"), tooMuchReply)
		lists.mustDo(t, "a key that is far too long", someTable(), someArgs("LPOP", key), someTable(), nilReply)
	}
}

// Keys stand by their bytes: wherever a list comes to stand, or is popped away, the table is right and has all others as they were.
func TestListsComeAndGoInOrder(t *testing.T) {
	all := someArgs("\x00", "\x00\x00", " ", "10", "9", "A", "B", "Z", "a", "a\x00", "a\x00b", "aa", "ab", "b", "\x7f", "\x80", "\u00e9", "\xfe", "\xff", "\xff\xff")
	tableOfKeys := func(keys []string) []impl.Entry {
		var table []impl.Entry
		for _, key := range slices.Sorted(slices.Values(keys)) {
			table = append(table, entry(key, listVal(key)))
		}
		return table
	}
	for turn := range 2 * len(all) {
		keys := slices.Concat(all[turn%20:], all[:turn%20])
		if turn >= 20 {
			slices.Reverse(keys)
		}
		for n, key := range keys {
			listLayer().mustDo(t, "come", tableOfKeys(keys[:n]), someArgs(words("LPUSH RPUSH")[n%2], key, key), tableOfKeys(keys[:n+1]), ":1\r\n")
			listLayer().mustDo(t, "gone", tableOfKeys(keys[n:]), someArgs(words("LPOP RPOP")[n%2], key), tableOfKeys(keys[n+1:]), bulkByHand(key))
		}
	}
}

func TestNumbersToldToListCommands(t *testing.T) {
	lists := listLayer()
	three := oneEntry("a", untilTime(listVal("x", "y", "z"), 9))
	for _, table := range [][]impl.Entry{nil, three, manyEntries(20)} {
		for _, wrong := range append(notInts(), strings.Repeat("9", 5000), "1"+strings.Repeat("0", 20000), someText(61)) {
			lists.mustFail(t, "no number", table, someArgs("LINDEX", "a", wrong), notIntReply)
			lists.mustFail(t, "the first is none", table, someArgs("LRANGE", "a", wrong, "0"), notIntReply)
			lists.mustFail(t, "the second is none", table, someArgs("LRANGE", "a", "0", wrong), notIntReply)
			lists.mustFail(t, "both are none", table, someArgs("LRANGE", "a", wrong, wrong), notIntReply)
			lists.mustFail(t, "of no key", table, someArgs("LRANGE", "", "5", wrong), notIntReply)
			lists.mustFail(t, "of no key", table, someArgs("LINDEX", "", wrong), notIntReply)
		}
	}
	great, small := "1000000000", "-1000000000"
	all := bulksByHand(words("x y z"))
	lists.mustDo(t, "from the least to the greatest", three, someArgs("LRANGE", "a", small, great), three, all)
	lists.mustDo(t, "from the greatest to the least", three, someArgs("LRANGE", "a", great, small), three, noneReply)
	lists.mustDo(t, "the greatest twice", three, someArgs("LRANGE", "a", great, great), three, bulksByHand(words("z")))
	lists.mustDo(t, "the least twice", three, someArgs("LRANGE", "a", small, small), three, bulksByHand(words("x")))
	lists.mustDo(t, "the greatest", three, someArgs("LINDEX", "a", great), three, nilReply)
	lists.mustDo(t, "the least", three, someArgs("LINDEX", "a", small), three, nilReply)
	for _, n := range intsToTry() {
		for _, table := range [][]impl.Entry{nil, three} {
			number := strconv.Itoa(n)
			lists.mustDoPlainly(t, "a number", table, someArgs("LINDEX", "a", number))
			lists.mustDoPlainly(t, "a number first", table, someArgs("LRANGE", "a", number, "1"))
			lists.mustDoPlainly(t, "a number second", table, someArgs("LRANGE", "a", "1", number))
			lists.mustDoPlainly(t, "a number twice", table, someArgs("LRANGE", "a", number, number))
		}
	}
}

func TestListCommandsOnOtherKinds(t *testing.T) {
	lists, kinds := listLayer(), map[int]int{}
	for _, c := range valsNotOf(impl.KindList) {
		kinds[c.v.Kind]++
		for _, table := range [][]impl.Entry{oneEntry("k", c.v), entries(entry("a", listVal("1")), entry("k", c.v), entry("z", untilTime(listVal("2"), 3)))} {
			for _, line := range someArgs("LPUSH k x", "LPUSH k x y", "RPUSH k x", "RPUSH k x y", "LPOP k", "RPOP k", "LLEN k", "LRANGE k 0 -1", "LRANGE k 1 0", "LRANGE k x 0", "LRANGE k 0 x", "LINDEX k 0", "LINDEX k 99", "LINDEX k x") {
				lists.mustFail(t, c.why, table, words(line), wrongReply)
			}
			for _, name := range words("LPUSH RPUSH") {
				lists.mustFail(t, c.why+", and an empty item", table, someArgs(name, "k", ""), wrongReply)
				lists.mustFail(t, c.why+", and an item that is too long", table, someArgs(name, "k", someText(61)), wrongReply)
				lists.mustFail(t, c.why+", and too many items", table, append(someArgs(name, "k"), manyArgs(25, "x")...), wrongReply)
			}
			lists.mustDo(t, "beside "+c.why, table, words("LLEN none"), table, ":0\r\n")
			lists.mustDo(t, "beside "+c.why, table, words("RPUSH none 1"), sortedTable(append(oneEntry("none", listVal("1")), table...)), ":1\r\n")
		}
	}
	if kinds[1] < 10 || kinds[3] < 8 || kinds[4] < 8 || kinds[2] > 0 {
		t.Errorf("only so many of each kind: %v", kinds)
	}
}

func TestOtherCommandsAreNotOnLists(t *testing.T) {
	listLayer().mustLeaveOthers(t, "l", someArgs("LLE", "LLENS", "LLEN ", " LLEN", "LLEN\x00", "\x00LLEN", "LPUSHX", "RPUSHX", "LPOPRPUSH", "RPOPLPUSH", "LSET", "LTRIM", "LREM", "LINSERT", "LPO", "POP", "PUSH", "L\u0420OP", "\u217cLEN", "llen\r\n", "+LLEN", "\x0cLEN", strings.Repeat("LPOP", 5000)))
}

func TestListCommandsWithOtherArguments(t *testing.T) {
	listLayer().mustTakeItsArguments(t, [][]impl.Entry{nil, oneEntry("7", listVal("x")), oneEntry("7", textVal("x")), someTable()}, "7")
}

func TestListCommandsOverTablesThatAreNotRight(t *testing.T) {
	lists := listLayer()
	for _, c := range wrongTables() {
		for _, line := range someArgs("LPUSH a x", "LPUSH none x y", "RPUSH a x", "RPUSH none x", "LPOP a", "LPOP none", "RPOP a", "RPOP none", "LLEN a", "LLEN none", "LRANGE a 0 -1", "LRANGE none 0 -1", "LRANGE none x y", "LINDEX a 0", "LINDEX none 0", "GET a", "what") {
			lists.mustNotDo(t, c.why, c.table, words(line))
		}
		lists.mustNotDo(t, c.why, c.table, nil)
		lists.mustNotDo(t, c.why, c.table, someArgs("LPUSH", "", someText(61)))
	}
}

// Of two faults the one that the document tells first is told.
func TestFaultsOfListCommandsInOrder(t *testing.T) {
	lists := listLayer()
	full, key21 := manyEntries(20), someText(21)
	lists.mustFail(t, "another kind, and no number", oneEntry("a", setVal("7")), words("LINDEX a x"), wrongReply)
	lists.mustFail(t, "another kind, and no numbers", oneEntry("a", textVal("7")), words("LRANGE a x y"), wrongReply)
	lists.mustFail(t, "another kind, and a full table", full, words("LPUSH i003 x"), wrongReply)
	lists.mustFail(t, "no number, and a key that cannot be", full, someArgs("LINDEX", key21, "x"), notIntReply)
	lists.mustFail(t, "a list too long, and an item too long", oneEntry("a", listVal(longItems(24)...)), someArgs("LPUSH", "a", someText(61)), tooMuchReply)
	lists.mustFail(t, "a key too many, and too long", full, someArgs("RPUSH", key21, someText(61)), tooMuchReply)
}

// listArgs draws a command, mostly a right one on lists, whose arguments hang together with the keys of tables.
func (w *drawer) listArgs() []string {
	if w.below(20) == 0 {
		return w.commandArgs()
	}
	names := listCommandNames()
	name := names[w.below(len(names))]
	args := someArgs(inAllCases(name)[w.below(5)], w.drawnKey())
	switch name {
	case "LPUSH", "RPUSH":
		for range 1 + w.below(4)*w.below(3) {
			args = append(args, w.item())
		}
	case "LRANGE":
		args = append(args, w.drawnPlace(), w.drawnPlace())
	case "LINDEX":
		args = append(args, w.drawnPlace())
	}
	if w.below(30) == 0 {
		args = append(args, w.item())
	}
	return args
}

func (w *drawer) drawnPlace() string {
	switch w.below(10) {
	case 0:
		return w.drawnText()
	case 1:
		return w.drawnNumber()
	}
	return strconv.Itoa(w.below(16) - 8)
}

// listTable draws a table that is right most of the time, with lists under some of its keys; now and then it is full, or a list is.
func (w *drawer) listTable() []impl.Entry {
	list := w.table()
	for !rightTableByHand(list) && w.below(5) > 0 {
		list = w.table()
	}
	if w.below(10) == 0 {
		list = sortedTable(append(list, manyEntries(20)...))[:20]
	}
	for _, key := range words("a b n") {
		if w.below(2) == 0 {
			v := untilTime(listVal(risingItems(1+w.below(6))...), w.below(3))
			if w.below(5) == 0 {
				v.Items = risingItems(20 + w.below(5))
			}
			list = append(slices.DeleteFunc(list, func(e impl.Entry) bool { return e.Key == key }), entry(key, v))
			list = sortedTable(list)
		}
	}
	return list
}

func TestDrawnListCommands(t *testing.T) {
	w := &drawer{state: 15}
	told := map[string]int{}
	for range 50000 {
		told[listLayer().mustDoPlainly(t, "drawn", w.listTable(), w.listArgs())]++
	}
	for _, mark := range someArgs("", ":", "$", "*", wrongReply, notIntReply, tooMuchReply) {
		if told[mark] < 700 {
			t.Errorf("only %d drawn commands are told %q: %v", told[mark], mark, told)
		}
	}
}

// A drawn life: commands go one behind the other, and the engine that keeps what differs tells each table.
func TestListCommandsInDrawnLives(t *testing.T) {
	w, lists := &drawer{state: 1515}, listLayer()
	kept, gone, told := 0, 0, map[string]int{}
	for range 30 {
		var table []impl.Entry
		if w.below(2) == 0 {
			table = someTable()
		}
		e := holding(t, table)
		for range 150 {
			args := w.listArgs()
			behind, reply, ok := plainOnLists(table, args)
			told[lists.mustDoPlainly(t, "in a life", table, args)]++
			next, _, _ := impl.OnLists(table, args)
			changes := impl.Differ(table, next)
			if !ok || isFault(reply) || len(changes) == 0 {
				continue
			}
			after, _, code := impl.PutBatch(e, changes)
			if code == 0 {
				kept++
				if len(next) < len(table) {
					gone++
				}
				mustTell(t, "kept", after, behind, true)
				e, table = after, next
			}
		}
	}
	if kept < 700 || gone < 50 || told[tooMuchReply] < 50 || told[notIntReply] < 50 {
		t.Errorf("only %d are kept, %d keys gone: %v", kept, gone, told)
	}
}

func TestListsThatAreOnlyLookedAtDifferInNothing(t *testing.T) {
	listLayer().mustDifferWhereItMay(t, casesOfLists())
}

func TestAnswersOnListsShareNothing(t *testing.T) {
	lists := listLayer()
	for _, c := range casesOfLists() {
		lists.mustDoWithoutSharing(t, c.why, c.table, c.args)
	}
	tables := [][]impl.Entry{nil, oneEntry("a", listVal("b")), oneEntry("a", listVal("a", "1")), entries(entry("1", textVal("1")), entry("a", listVal("1", "1", "")), entry("b", setVal("1")), entry("c", fieldsVal("1", "1")))}
	for _, table := range tables {
		for _, line := range someArgs("LPUSH a 1", "RPUSH a 1 2 a", "LPUSH a a a", "RPUSH d 1", "LPUSH d d d", "LPOP a", "RPOP a", "LLEN a", "LRANGE a 0 -1", "LRANGE a 0 0", "LINDEX a 0", "LINDEX a -1", "LPOP b", "LRANGE a x 1") {
			lists.mustDoWithoutSharing(t, "small texts", table, words(line))
		}
	}
}

// Lists that come in as one piece of memory go out with a list each, whatever becomes of the others.
func TestListsBehindListCommandsShareNothing(t *testing.T) {
	items := []string{"a", "b", "c", "d"}
	for _, line := range someArgs("LPUSH w 1", "RPUSH w 1", "LPOP w", "RPOP w", "LLEN w", "LRANGE w 0 1", "LINDEX x 0", "RPUSH new 1", "LPOP none", "LPUSH w", "LPUSH y 1", "LRANGE w x 1") {
		table := entries(entry("w", listVal(items[:2]...)), entry("x", listVal(items...)), entry("y", setVal(items...)), entry("z", fieldsVal(items...)))
		table[0].Val.Items = items[:2:4]
		behind, _, ok := impl.OnLists(table, words(line))
		want := copyTable(behind)
		for n := range behind {
			scribbleVal(behind[n].Val)
			behind[n] = want[n]
			if !sameTable(behind, want) {
				t.Errorf("%s: what is changed in %d is changed in others: %s", line, n, briefTable(behind))
			}
			behind[n] = copyTable(want[n : n+1])[0]
		}
		if !slices.Equal(items, []string{"a", "b", "c", "d"}) || ok && len(behind) < 4 {
			t.Errorf("%s: %s %v", line, briefTable(behind), items)
		}
	}
}
