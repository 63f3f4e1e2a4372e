package tests

import (
	"maps"
	"slices"
	"strconv"
	"strings"
	"testing"

	"loop.example/g00124/impl"
)

func fieldCommandNames() []string { return words("HSET HGET HDEL HLEN HGETALL HKEYS") }
func setCommandNames() []string   { return words("SADD SREM SISMEMBER SCARD SMEMBERS") }

func fieldLayer() layer {
	return layer{"OnFields", fieldCommandNames(), impl.OnFields, plainOnFields}
}

func setLayer() layer { return layer{"OnSets", setCommandNames(), impl.OnSets, plainOnSets} }

// plainOnKind is the rule of both layers again: a value is a map while a command is done to it.
func plainOnKind(table []impl.Entry, args, names []string, kind int, do func(inside map[string]string, name string, args []string) string) ([]impl.Entry, string, bool) {
	c, known := plainCommand(args)
	if !known || !c.takesByHand(len(args)-1) || !slices.Contains(names, c.name) || !rightTableByHand(table) {
		return nil, "", false
	}
	vals, key := mapOf(table), args[1]
	v, there := vals[key]
	if there && v.Kind != kind {
		return table, wrongReply, true
	}
	inside := insideOf(v)
	reply := do(inside, c.name, args[2:])
	if !c.writes {
		return table, reply, true
	}
	if fault := plainLeave(vals, key, untilTime(valOfInside(kind, inside), v.Until)); isFault(fault) {
		return table, fault, true
	}
	return tableOfMap(vals), reply, true
}

// insideOf has fields with their texts, and what is in a set with nothing.
func insideOf(v impl.Val) map[string]string {
	inside := map[string]string{}
	for place, item := range v.Items {
		switch {
		case v.Kind == impl.KindSet:
			inside[item] = ""
		case place%2 == 1:
			inside[v.Items[place-1]] = item
		}
	}
	return inside
}

func valOfInside(kind int, inside map[string]string) impl.Val {
	v := impl.Val{Kind: kind}
	for _, name := range slices.Sorted(maps.Keys(inside)) {
		v.Items = append(v.Items, name)
		if kind == impl.KindFields {
			v.Items = append(v.Items, inside[name])
		}
	}
	return v
}

func fieldsOfMap(inside map[string]string) impl.Val { return valOfInside(impl.KindFields, inside) }
func setOfMap(inside map[string]string) impl.Val    { return valOfInside(impl.KindSet, inside) }

// plainTake takes away what is there, and tells how many were.
func plainTake(inside map[string]string, names []string) string {
	before := len(inside)
	maps.DeleteFunc(inside, func(name, _ string) bool { return slices.Contains(names, name) })
	return numberByHand(before - len(inside))
}

func plainOnFields(table []impl.Entry, args []string) ([]impl.Entry, string, bool) {
	return plainOnKind(table, args, fieldCommandNames(), impl.KindFields, func(inside map[string]string, name string, args []string) string {
		switch name {
		case "HSET":
			before := len(inside)
			inside[args[0]] = args[1]
			return numberByHand(len(inside) - before)
		case "HGET":
			if text, there := inside[args[0]]; there {
				return bulkByHand(text)
			}
			return nilReply
		case "HDEL":
			return plainTake(inside, args)
		case "HLEN":
			return numberByHand(len(inside))
		case "HGETALL":
			return bulksByHand(fieldsOfMap(inside).Items)
		}
		return bulksByHand(setOfMap(inside).Items)
	})
}

func plainOnSets(table []impl.Entry, args []string) ([]impl.Entry, string, bool) {
	return plainOnKind(table, args, setCommandNames(), impl.KindSet, func(inside map[string]string, name string, args []string) string {
		switch name {
		case "SADD":
			before := len(inside)
			for _, item := range args {
				inside[item] = ""
			}
			return numberByHand(len(inside) - before)
		case "SREM":
			return plainTake(inside, args)
		case "SISMEMBER":
			if _, there := inside[args[0]]; there {
				return ":1\r\n"
			}
			return ":0\r\n"
		case "SCARD":
			return numberByHand(len(inside))
		}
		return bulksByHand(setOfMap(inside).Items)
	})
}

func tableWithout(key string) []impl.Entry {
	return slices.DeleteFunc(someTable(), func(e impl.Entry) bool { return e.Key == key })
}

func casesOfGivingFields() []commandCase {
	one, many := oneEntry("a", fieldsVal("f", "1")), someTable()
	two := oneEntry("a", untilTime(fieldsVal("f", "1", "g", "2"), 9))
	return []commandCase{
		{"the first field", nil, words("HSET a f 1"), one, ":1\r\n"},
		{"the first field of an empty table", []impl.Entry{}, words("HSET a f 1"), one, ":1\r\n"},
		{"the same text again", one, words("HSET a f 1"), one, ":0\r\n"},
		{"another text", one, words("HSET a f 2"), oneEntry("a", fieldsVal("f", "2")), ":0\r\n"},
		{"a longer text", one, words("HSET a f 1234567890"), oneEntry("a", fieldsVal("f", "1234567890")), ":0\r\n"},
		{"no text any more", one, someArgs("HSET", "a", "f", ""), oneEntry("a", fieldsVal("f", "")), ":0\r\n"},
		{"an empty text", nil, someArgs("HSET", "a", "f", ""), oneEntry("a", fieldsVal("f", "")), ":1\r\n"},
		{"an empty field", nil, someArgs("HSET", "a", "", "1"), oneEntry("a", fieldsVal("", "1")), ":1\r\n"},
		{"an empty field without a text", nil, someArgs("HSET", "a", "", ""), oneEntry("a", fieldsVal("", "")), ":1\r\n"},
		{"an empty field ahead", one, someArgs("HSET", "a", "", "2"), oneEntry("a", fieldsVal("", "2", "f", "1")), ":1\r\n"},
		{"a field ahead", one, words("HSET a e 2"), oneEntry("a", fieldsVal("e", "2", "f", "1")), ":1\r\n"},
		{"a field behind", one, words("HSET a g 2"), oneEntry("a", fieldsVal("f", "1", "g", "2")), ":1\r\n"},
		{"a field between", two, words("HSET a ff 3"), oneEntry("a", untilTime(fieldsVal("f", "1", "ff", "3", "g", "2"), 9)), ":1\r\n"},
		{"the last of two", two, words("HSET a g 3"), oneEntry("a", untilTime(fieldsVal("f", "1", "g", "3"), 9)), ":0\r\n"},
		{"the first of two", two, words("HSET a f 3"), oneEntry("a", untilTime(fieldsVal("f", "3", "g", "2"), 9)), ":0\r\n"},
		{"a field in other letters", one, words("HSET a F 2"), oneEntry("a", fieldsVal("F", "2", "f", "1")), ":1\r\n"},
		{"a field that is another's text", one, words("HSET a 1 f"), oneEntry("a", fieldsVal("1", "f", "f", "1")), ":1\r\n"},
		{"a text that is another field", two, words("HSET a f g"), oneEntry("a", untilTime(fieldsVal("f", "g", "g", "2"), 9)), ":0\r\n"},
		{"a text that is its field", one, words("HSET a f f"), oneEntry("a", fieldsVal("f", "f")), ":0\r\n"},
		{"a field that is a command", nil, words("HSET HGET HSET HDEL"), oneEntry("HGET", fieldsVal("HSET", "HDEL")), ":1\r\n"},
		{"new fields among others", many, words("HSET m f 1"), someTableWith(entry("m", fieldsVal("f", "1"))), ":1\r\n"},
		{"new fields ahead of others", many, words("HSET A f 1"), someTableWith(entry("A", fieldsVal("f", "1"))), ":1\r\n"},
		{"new fields behind others", many, words("HSET z f 1"), someTableWith(entry("z", fieldsVal("f", "1"))), ":1\r\n"},
		{"a key in other letters", one, words("HSET A f 2"), entries(entry("A", fieldsVal("f", "2")), one[0]), ":1\r\n"},
		{"a field of many", many, words("HSET f f 8"), someTableWith(entry("f", fieldsVal("f", "8"))), ":0\r\n"},
		{"in a text", many, words("HSET n f 1"), many, wrongReply},
		{"in an empty text", many, words("HSET e f 1"), many, wrongReply},
		{"in a list", many, words("HSET l 7 1"), many, wrongReply},
		{"in a set", many, words("HSET s 7 1"), many, wrongReply},
		{"without a key", many, someArgs("HSET", "", "f", "1"), many, tooMuchReply},
		{"without a key", nil, someArgs("HSET", "", "", ""), nil, tooMuchReply},
	}
}

func casesOfTakingFields() []commandCase {
	one, many := oneEntry("a", fieldsVal("f", "1")), someTable()
	three := oneEntry("a", untilTime(fieldsVal("f", "1", "g", "f", "h", ""), 9))
	left := func(items ...string) []impl.Entry { return oneEntry("a", untilTime(fieldsVal(items...), 9)) }
	return []commandCase{
		{"of no table", nil, words("HDEL a f"), nil, ":0\r\n"},
		{"of an empty table", []impl.Entry{}, words("HDEL a f"), nil, ":0\r\n"},
		{"of another key", one, words("HDEL b f"), one, ":0\r\n"},
		{"of no key", many, someArgs("HDEL", "", "f"), many, ":0\r\n"},
		{"of a key that is too long", many, someArgs("HDEL", someText(21), "f"), many, ":0\r\n"},
		{"another field", one, words("HDEL a g"), one, ":0\r\n"},
		{"a field in other letters", one, words("HDEL a F"), one, ":0\r\n"},
		{"what is a beginning", one, someArgs("HDEL", "a", ""), one, ":0\r\n"},
		{"what goes on", one, words("HDEL a ff"), one, ":0\r\n"},
		{"a field that is too long", one, someArgs("HDEL", "a", someText(61)), one, ":0\r\n"},
		{"what is a text", one, words("HDEL a 1"), one, ":0\r\n"},
		{"the only field", one, words("HDEL a f"), nil, ":1\r\n"},
		{"the only field, told twice", one, words("HDEL a f f"), nil, ":1\r\n"},
		{"the only field among others that are none", one, words("HDEL a 1 f g f"), nil, ":1\r\n"},
		{"an empty field", oneEntry("a", fieldsVal("", "x")), someArgs("HDEL", "a", ""), nil, ":1\r\n"},
		{"the first", three, words("HDEL a f"), left("g", "f", "h", ""), ":1\r\n"},
		{"the middle", three, words("HDEL a g"), left("f", "1", "h", ""), ":1\r\n"},
		{"the last", three, words("HDEL a h"), left("f", "1", "g", "f"), ":1\r\n"},
		{"two", three, words("HDEL a h f"), left("g", "f"), ":2\r\n"},
		{"two, one of them twice", three, words("HDEL a g h g"), left("f", "1"), ":2\r\n"},
		{"one, three times", three, words("HDEL a g g g"), left("f", "1", "h", ""), ":1\r\n"},
		{"all, till a time", three, words("HDEL a h g f"), nil, ":3\r\n"},
		{"all and more", three, someArgs("HDEL", "a", "x", "f", "", "g", "h", "1"), nil, ":3\r\n"},
		{"all of one key of many", many, words("HDEL f f"), tableWithout("f"), ":1\r\n"},
		{"in a text", many, words("HDEL n 7"), many, wrongReply},
		{"in an empty text", many, words("HDEL e f"), many, wrongReply},
		{"in a list", many, words("HDEL l 7"), many, wrongReply},
		{"in a set", many, words("HDEL s 7"), many, wrongReply},
	}
}

func casesOfLookingAtFields() []commandCase {
	many := someTable()
	three := oneEntry("a", untilTime(fieldsVal("", "0", "f", "1", "g", ""), 9))
	return []commandCase{
		{"what none has", nil, words("HGET a f"), nil, nilReply},
		{"what another key has", three, words("HGET b f"), three, nilReply},
		{"what no key has", three, someArgs("HGET", "", ""), three, nilReply},
		{"what a key that is too long has", three, someArgs("HGET", someText(21), "f"), three, nilReply},
		{"what another field has", three, words("HGET a h"), three, nilReply},
		{"what a field in other letters has", three, words("HGET a F"), three, nilReply},
		{"what a text has", three, words("HGET a 1"), three, nilReply},
		{"what a field that is too long has", three, someArgs("HGET", "a", someText(61)), three, nilReply},
		{"what the empty field has", three, someArgs("HGET", "a", ""), three, "$1\r\n0\r\n"},
		{"what the middle one has", three, words("HGET a f"), three, "$1\r\n1\r\n"},
		{"what one without a text has", three, words("HGET a g"), three, "$0\r\n\r\n"},
		{"what one of many has", many, words("HGET f f"), many, "$1\r\n7\r\n"},
		{"what a text has, asked as a field", many, words("HGET f 7"), many, nilReply},
		{"of a text", many, words("HGET n 7"), many, wrongReply},
		{"of a list", many, words("HGET l 7"), many, wrongReply},
		{"of a set", many, words("HGET s 7"), many, wrongReply},
		{"how many none has", nil, words("HLEN a"), nil, ":0\r\n"},
		{"how many another has", three, words("HLEN b"), three, ":0\r\n"},
		{"how many no key has", three, someArgs("HLEN", ""), three, ":0\r\n"},
		{"how many there are", three, words("HLEN a"), three, ":3\r\n"},
		{"how many of one", many, words("HLEN f"), many, ":1\r\n"},
		{"how many of a set", many, words("HLEN s"), many, wrongReply},
		{"how many of a text", many, words("HLEN e"), many, wrongReply},
		{"all of none", nil, words("HGETALL a"), nil, noneReply},
		{"all of another", three, words("HGETALL b"), three, noneReply},
		{"all of no key", three, someArgs("HGETALL", ""), three, noneReply},
		{"all", three, words("HGETALL a"), three, "*6\r\n$0\r\n\r\n$1\r\n0\r\n$1\r\nf\r\n$1\r\n1\r\n$1\r\ng\r\n$0\r\n\r\n"},
		{"all of one", many, words("HGETALL f"), many, "*2\r\n$1\r\nf\r\n$1\r\n7\r\n"},
		{"all of a list", many, words("HGETALL l"), many, wrongReply},
		{"all of a set", many, words("HGETALL s"), many, wrongReply},
		{"the fields of none", nil, words("HKEYS a"), nil, noneReply},
		{"the fields of another", three, words("HKEYS A"), three, noneReply},
		{"the fields of a key that is too long", three, someArgs("HKEYS", someText(21)), three, noneReply},
		{"the fields", three, words("HKEYS a"), three, "*3\r\n$0\r\n\r\n$1\r\nf\r\n$1\r\ng\r\n"},
		{"the fields of one", many, words("HKEYS f"), many, "*1\r\n$1\r\nf\r\n"},
		{"the fields of a text", many, words("HKEYS w"), many, wrongReply},
		{"the fields of a set", many, words("HKEYS s"), many, wrongReply},
	}
}

func casesOfFields() []commandCase {
	return slices.Concat(casesOfGivingFields(), casesOfTakingFields(), casesOfLookingAtFields())
}

func casesOfAdding() []commandCase {
	one, many := oneEntry("a", setVal("x")), someTable()
	two := oneEntry("a", untilTime(setVal("x", "z"), 9))
	with := func(items ...string) []impl.Entry { return oneEntry("a", untilTime(setVal(items...), 9)) }
	return []commandCase{
		{"the first item", nil, words("SADD a x"), one, ":1\r\n"},
		{"the first item of an empty table", []impl.Entry{}, words("SADD a x"), one, ":1\r\n"},
		{"the first item, told twice", nil, words("SADD a x x"), one, ":1\r\n"},
		{"the first item, told often", nil, append(words("SADD a"), manyArgs(40, "x")...), one, ":1\r\n"},
		{"an empty item", nil, someArgs("SADD", "a", ""), oneEntry("a", setVal("")), ":1\r\n"},
		{"an empty item, told twice", one, someArgs("SADD", "a", "", ""), oneEntry("a", setVal("", "x")), ":1\r\n"},
		{"one that is there", one, words("SADD a x"), one, ":0\r\n"},
		{"one that is there, told twice", one, words("SADD a x x"), one, ":0\r\n"},
		{"two that are there", two, words("SADD a z x"), two, ":0\r\n"},
		{"one ahead", two, words("SADD a w"), with("w", "x", "z"), ":1\r\n"},
		{"one between", two, words("SADD a y"), with("x", "y", "z"), ":1\r\n"},
		{"one behind", two, words("SADD a zz"), with("x", "z", "zz"), ":1\r\n"},
		{"several, falling", two, words("SADD a zz y w"), with("w", "x", "y", "z", "zz"), ":3\r\n"},
		{"several, rising", two, words("SADD a w y zz"), with("w", "x", "y", "z", "zz"), ":3\r\n"},
		{"several, some of them there", two, words("SADD a z y x w"), with("w", "x", "y", "z"), ":2\r\n"},
		{"several, some of them twice", nil, words("SADD a y x y"), oneEntry("a", setVal("x", "y")), ":2\r\n"},
		{"one there and one new, each twice", one, words("SADD a x y y x"), oneEntry("a", setVal("x", "y")), ":1\r\n"},
		{"one in other letters", one, words("SADD a X"), oneEntry("a", setVal("X", "x")), ":1\r\n"},
		{"by bytes, not by numbers", nil, words("SADD a 9 10 1"), oneEntry("a", setVal("1", "10", "9")), ":3\r\n"},
		{"an item that is a command", nil, words("SADD SADD SREM SADD"), oneEntry("SADD", setVal("SADD", "SREM")), ":2\r\n"},
		{"a new set among others", many, words("SADD m y"), someTableWith(entry("m", setVal("y"))), ":1\r\n"},
		{"a new set ahead of others", many, words("SADD A y x"), someTableWith(entry("A", setVal("x", "y"))), ":2\r\n"},
		{"a new set behind others", many, words("SADD z y"), someTableWith(entry("z", setVal("y"))), ":1\r\n"},
		{"to one of many", many, words("SADD s 8"), someTableWith(entry("s", setVal("7", "8"))), ":1\r\n"},
		{"to a text", many, words("SADD n 7"), many, wrongReply},
		{"to an empty text", many, words("SADD e 7"), many, wrongReply},
		{"to a list", many, words("SADD l 7"), many, wrongReply},
		{"to fields", many, words("SADD f f"), many, wrongReply},
		{"without a key", many, someArgs("SADD", "", "x"), many, tooMuchReply},
		{"without a key", nil, someArgs("SADD", "", ""), nil, tooMuchReply},
	}
}

func casesOfRemoving() []commandCase {
	one, many := oneEntry("a", setVal("x")), someTable()
	three := oneEntry("a", untilTime(setVal("", "x", "y"), 9))
	left := func(items ...string) []impl.Entry { return oneEntry("a", untilTime(setVal(items...), 9)) }
	return []commandCase{
		{"of no table", nil, words("SREM a x"), nil, ":0\r\n"},
		{"of an empty table", []impl.Entry{}, words("SREM a x"), nil, ":0\r\n"},
		{"of another key", one, words("SREM b x"), one, ":0\r\n"},
		{"of no key", many, someArgs("SREM", "", "x"), many, ":0\r\n"},
		{"of a key that is too long", many, someArgs("SREM", someText(21), "x"), many, ":0\r\n"},
		{"another item", one, words("SREM a y"), one, ":0\r\n"},
		{"an item in other letters", one, words("SREM a X"), one, ":0\r\n"},
		{"what is a beginning", one, someArgs("SREM", "a", ""), one, ":0\r\n"},
		{"what goes on", one, words("SREM a xx"), one, ":0\r\n"},
		{"an item that is too long", one, someArgs("SREM", "a", someText(61)), one, ":0\r\n"},
		{"the only item", one, words("SREM a x"), nil, ":1\r\n"},
		{"the only item, told twice", one, words("SREM a x x"), nil, ":1\r\n"},
		{"the only item among others that are none", one, words("SREM a y x z x"), nil, ":1\r\n"},
		{"the empty item", three, someArgs("SREM", "a", ""), left("x", "y"), ":1\r\n"},
		{"the middle", three, words("SREM a x"), left("", "y"), ":1\r\n"},
		{"the last", three, words("SREM a y"), left("", "x"), ":1\r\n"},
		{"two", three, words("SREM a y x"), left(""), ":2\r\n"},
		{"two, one of them twice", three, words("SREM a x y x"), left(""), ":2\r\n"},
		{"one, three times", three, words("SREM a x x x"), left("", "y"), ":1\r\n"},
		{"all, till a time", three, someArgs("SREM", "a", "y", "", "x"), nil, ":3\r\n"},
		{"all and more", three, someArgs("SREM", "a", "z", "y", "", "w", "x"), nil, ":3\r\n"},
		{"all of one key of many", many, words("SREM s 7"), tableWithout("s"), ":1\r\n"},
		{"in a text", many, words("SREM n 7"), many, wrongReply},
		{"in an empty text", many, words("SREM e 7"), many, wrongReply},
		{"in a list", many, words("SREM l 7"), many, wrongReply},
		{"in fields", many, words("SREM f f"), many, wrongReply},
	}
}

func casesOfLookingAtSets() []commandCase {
	many := someTable()
	three := oneEntry("a", untilTime(setVal("", "10", "9"), 9))
	return []commandCase{
		{"in none", nil, words("SISMEMBER a x"), nil, ":0\r\n"},
		{"in another", three, words("SISMEMBER b 9"), three, ":0\r\n"},
		{"in no key", three, someArgs("SISMEMBER", "", ""), three, ":0\r\n"},
		{"in a key that is too long", three, someArgs("SISMEMBER", someText(21), "9"), three, ":0\r\n"},
		{"the empty one is in", three, someArgs("SISMEMBER", "a", ""), three, ":1\r\n"},
		{"the middle one is in", three, words("SISMEMBER a 10"), three, ":1\r\n"},
		{"the last one is in", three, words("SISMEMBER a 9"), three, ":1\r\n"},
		{"what is a beginning is not in", three, words("SISMEMBER a 1"), three, ":0\r\n"},
		{"what goes on is not in", three, words("SISMEMBER a 99"), three, ":0\r\n"},
		{"what is too long is not in", three, someArgs("SISMEMBER", "a", someText(61)), three, ":0\r\n"},
		{"one is in one of many", many, words("SISMEMBER s 7"), many, ":1\r\n"},
		{"in a text", many, words("SISMEMBER n 7"), many, wrongReply},
		{"in a list", many, words("SISMEMBER l 7"), many, wrongReply},
		{"in fields", many, words("SISMEMBER f f"), many, wrongReply},
		{"how many are in none", nil, words("SCARD a"), nil, ":0\r\n"},
		{"how many are in another", three, words("SCARD b"), three, ":0\r\n"},
		{"how many are in no key", three, someArgs("SCARD", ""), three, ":0\r\n"},
		{"how many are in", three, words("SCARD a"), three, ":3\r\n"},
		{"how many are in one", many, words("SCARD s"), many, ":1\r\n"},
		{"how many of fields", many, words("SCARD f"), many, wrongReply},
		{"how many of a list", many, words("SCARD l"), many, wrongReply},
		{"all of none", nil, words("SMEMBERS a"), nil, noneReply},
		{"all of another", three, words("SMEMBERS A"), three, noneReply},
		{"all of a key that is too long", three, someArgs("SMEMBERS", someText(21)), three, noneReply},
		{"all", three, words("SMEMBERS a"), three, "*3\r\n$0\r\n\r\n$2\r\n10\r\n$1\r\n9\r\n"},
		{"all of one", many, words("SMEMBERS s"), many, "*1\r\n$1\r\n7\r\n"},
		{"all of fields", many, words("SMEMBERS f"), many, wrongReply},
		{"all of a text", many, words("SMEMBERS e"), many, wrongReply},
	}
}

func casesOfSets() []commandCase {
	return slices.Concat(casesOfAdding(), casesOfRemoving(), casesOfLookingAtSets())
}

func TestFieldCommandsOneByOne(t *testing.T) { fieldLayer().mustDoEach(t, casesOfFields(), 7) }

func TestSetCommandsOneByOne(t *testing.T) { setLayer().mustDoEach(t, casesOfSets(), 7) }

func itemsToTell() []string {
	return someArgs("", "x", "f", "a", "b", "i000", "i001", "i022", "i023", "\x00", "\r\n", someText(59), someText(60), someText(61))
}

// fieldCommandsOn are all six, with fields and texts that they may be told.
func fieldCommandsOn(key string) [][]string {
	list := someRequests(someArgs("HLEN", key), someArgs("HGETALL", key), someArgs("HKEYS", key), append(someArgs("HDEL", key), risingItems(24)...), append(someArgs("HDEL", key), itemsToTell()...))
	for _, item := range itemsToTell() {
		list = append(list, someArgs("HGET", key, item), someArgs("HDEL", key, item), someArgs("HDEL", key, item, "a", item), someArgs("HSET", key, item, item), someArgs("HSET", key, item, "1"), someArgs("HSET", key, "f", item))
	}
	return list
}

func setCommandsOn(key string) [][]string {
	list := someRequests(someArgs("SCARD", key), someArgs("SMEMBERS", key), append(someArgs("SREM", key), risingItems(24)...), append(someArgs("SADD", key), risingItems(24)...), append(someArgs("SREM", key), itemsToTell()...))
	for _, item := range itemsToTell() {
		list = append(list, someArgs("SISMEMBER", key, item), someArgs("SREM", key, item), someArgs("SREM", key, item, "a", item), someArgs("SADD", key, item), someArgs("SADD", key, item, "a", item), someArgs("SADD", key, "b", item))
	}
	return list
}

// mustDoOverTables does commands on each key of many tables, and on keys that they have not.
func (l layer) mustDoOverTables(t *testing.T, commandsOn func(key string) [][]string) map[string]int {
	t.Helper()
	told := map[string]int{}
	for _, c := range append(rightTables(), namedTable{"each kind", someTable()}) {
		keys := someArgs("a", "none", "other", "", someText(20), someText(21))
		for _, e := range c.table {
			keys = append(keys, e.Key)
		}
		for _, key := range slices.Compact(slices.Sorted(slices.Values(keys))) {
			for _, args := range commandsOn(key) {
				told[l.mustDoPlainly(t, c.why, c.table, args)]++
			}
		}
	}
	return told
}

func mustHaveTold(t *testing.T, told map[string]int, least int, marks ...string) {
	t.Helper()
	for _, mark := range marks {
		if told[mark] < least {
			t.Errorf("only %d are told %q: %v", told[mark], mark, told)
		}
	}
}

func TestFieldCommandsOverTables(t *testing.T) {
	mustHaveTold(t, fieldLayer().mustDoOverTables(t, fieldCommandsOn), 50, ":", "$", "*", wrongReply, tooMuchReply)
}

func TestSetCommandsOverTables(t *testing.T) {
	mustHaveTold(t, setLayer().mustDoOverTables(t, setCommandsOn), 50, ":", "*", wrongReply, tooMuchReply)
}

// orderedWays are three orders of the same items: rising, falling, and from both ends in turn.
func orderedWays(items []string) [][]string {
	rising := slices.Sorted(slices.Values(items))
	falling := slices.Clone(rising)
	slices.Reverse(falling)
	var inTurn []string
	for place := range rising {
		inTurn = append(inTurn, [][]string{rising, falling}[place%2][place/2])
	}
	return [][]string{rising, falling, inTurn}
}

// Promise 16 of fields: each has what it was given last, however often and in whatever order it was given.
func TestFieldsHaveWhatTheyWereGivenLast(t *testing.T) {
	fields := fieldLayer()
	for _, names := range [][]string{words("f"), someArgs("", "a"), someArgs("b", "", "a", "\x00", "aa", "a\x00"), risingItems(12), longItems(12), words("9 10 1 A a B b")} {
		for _, way := range orderedWays(names) {
			for rounds := 1; rounds <= 3; rounds++ {
				has := map[string]string{}
				table := entries(entry("b", setVal("x")))
				for round := range rounds {
					for n, field := range way {
						text := someArgs("", field, strconv.Itoa(n), someText(60))[(n+round)%4]
						reply := numberByHand(max(0, 1-round))
						has[field] = text
						next := entries(entry("a", fieldsOfMap(has)), entry("b", setVal("x")))
						fields.mustDo(t, "given", table, someArgs("HSET", "a", field, text), next, reply)
						table = next
					}
				}
				for _, field := range way {
					fields.mustDo(t, "got", table, someArgs("HGET", "a", field), table, bulkByHand(has[field]))
				}
				fields.mustDo(t, "all in order", table, words("HKEYS a"), table, bulksByHand(slices.Sorted(slices.Values(names))))
				fields.mustDo(t, "all with their texts", table, words("HGETALL a"), table, bulksByHand(fieldsOfMap(has).Items))
				fields.mustDo(t, "how many", table, words("HLEN a"), table, numberByHand(len(names)))
			}
		}
	}
}

func TestFieldsThatAreGoneAndComeAgain(t *testing.T) {
	fields := fieldLayer()
	for _, way := range orderedWays(risingItems(12)) {
		has := map[string]string{}
		var table []impl.Entry
		for _, field := range way {
			has[field] = "first"
			table = fields.after(t, table, someArgs("HSET", "a", field, "first"))
		}
		for n, field := range way {
			delete(has, field)
			var gone []impl.Entry
			if n < 11 {
				gone = oneEntry("a", fieldsOfMap(has))
			}
			fields.mustDo(t, "gone", table, someArgs("HDEL", "a", field), gone, ":1\r\n")
			fields.mustDo(t, "gone already", gone, someArgs("HDEL", "a", field), gone, ":0\r\n")
			fields.mustDo(t, "not got any more", gone, someArgs("HGET", "a", field), gone, nilReply)
			again := maps.Clone(has)
			again[field] = "again"
			fields.mustDo(t, "given again", gone, someArgs("HSET", "a", field, "again"), oneEntry("a", fieldsOfMap(again)), ":1\r\n")
			table = gone
		}
		if len(table) > 0 {
			t.Errorf("left: %s", briefTable(table))
		}
	}
}

// Promise 16 of sets: what was added and not taken away, told in order.
func TestInASetIsWhatWasAdded(t *testing.T) {
	sets := setLayer()
	for _, items := range [][]string{words("x"), someArgs("", "a"), someArgs("b", "", "a", "\x00", "aa", "a\x00", "\xff", "\x80"), risingItems(24), longItems(24), words("9 10 1 A a B b")} {
		inOrder := slices.Sorted(slices.Values(items))
		for _, way := range orderedWays(items) {
			all := oneEntry("a", setVal(inOrder...))
			sets.mustDo(t, "all at once", nil, append(words("SADD a"), way...), all, numberByHand(len(items)))
			sets.mustDo(t, "all at once, twice", nil, slices.Concat(words("SADD a"), way, way), all, numberByHand(len(items)))
			sets.mustDo(t, "all once more", all, append(words("SADD a"), way...), all, ":0\r\n")
			sets.mustDo(t, "told in order", all, words("SMEMBERS a"), all, bulksByHand(inOrder))
			sets.mustDo(t, "how many", all, words("SCARD a"), all, numberByHand(len(items)))
			sets.mustDo(t, "all taken away", all, append(words("SREM a"), way...), nil, numberByHand(len(items)))
			sets.mustDo(t, "all taken away, told twice", all, slices.Concat(words("SREM a"), way, way), nil, numberByHand(len(items)))
			var table []impl.Entry
			for n, item := range way {
				next := oneEntry("a", setVal(slices.Sorted(slices.Values(way[:n+1]))...))
				sets.mustDo(t, "one is added", table, someArgs("SADD", "a", item), next, ":1\r\n")
				table = next
			}
			for n, item := range way {
				sets.mustDo(t, "it is in", table, someArgs("SISMEMBER", "a", item), table, ":1\r\n")
				var next []impl.Entry
				if n+1 < len(way) {
					next = oneEntry("a", setVal(slices.Sorted(slices.Values(way[n+1:]))...))
				}
				sets.mustDo(t, "one is taken away", table, someArgs("SREM", "a", item), next, ":1\r\n")
				sets.mustDo(t, "it is in no more", next, someArgs("SISMEMBER", "a", item), next, ":0\r\n")
				sets.mustDo(t, "it was taken away", next, someArgs("SREM", "a", item), next, ":0\r\n")
				table = next
			}
		}
	}
}

// Every way of adding, and of taking away, some of four items, each of them up to twice.
func TestEachPartOfASet(t *testing.T) {
	all, sets := words("w x y z"), setLayer()
	part := func(bits int) []string {
		var items []string
		for n, item := range all {
			if bits>>n&1 == 1 {
				items = append(items, item)
			}
		}
		return items
	}
	tableOf := func(bits int) []impl.Entry {
		if bits == 0 {
			return nil
		}
		return oneEntry("a", untilTime(setVal(part(bits)...), 5))
	}
	count := func(bits int) string { return numberByHand(len(part(bits))) }
	for stands := 1; stands < 16; stands++ {
		for told := 1; told < 16; told++ {
			for _, way := range append(orderedWays(part(told)), slices.Concat(part(told), part(told))) {
				sets.mustDo(t, "added", tableOf(stands), append(words("SADD a"), way...), tableOf(stands|told), count(told&^stands))
				sets.mustDo(t, "taken away", tableOf(stands), append(words("SREM a"), way...), tableOf(stands&^told), count(told&stands))
			}
		}
	}
}

func mustReplyEach(t *testing.T, on onTable, steps [][2]string) []impl.Entry {
	t.Helper()
	var table []impl.Entry
	for _, step := range steps {
		behind, reply, ok := on(table, words(step[0]))
		if reply != step[1] || !ok {
			t.Errorf("%s: %q %v, not %q", step[0], reply, ok, step[1])
		}
		table = behind
	}
	return table
}

func TestFieldCommandsOneBehindTheOther(t *testing.T) {
	table := mustReplyEach(t, impl.OnFields, [][2]string{
		{"HLEN a", ":0\r\n"}, {"HDEL a f", ":0\r\n"}, {"HSET a f 1", ":1\r\n"}, {"HSET a f 2", ":0\r\n"}, {"HGET a f", "$1\r\n2\r\n"}, {"HSET a e 3", ":1\r\n"},
		{"HGETALL a", "*4\r\n$1\r\ne\r\n$1\r\n3\r\n$1\r\nf\r\n$1\r\n2\r\n"}, {"HKEYS a", "*2\r\n$1\r\ne\r\n$1\r\nf\r\n"}, {"HDEL a f", ":1\r\n"}, {"HGET a f", nilReply},
		{"HSET a f 4", ":1\r\n"}, {"HGET a f", "$1\r\n4\r\n"}, {"HDEL a e f e", ":2\r\n"}, {"HLEN a", ":0\r\n"}, {"HGETALL a", noneReply}, {"HSET b x y", ":1\r\n"}, {"HSET a g 5", ":1\r\n"}, {"HKEYS a", "*1\r\n$1\r\ng\r\n"},
	})
	if want := entries(entry("a", fieldsVal("g", "5")), entry("b", fieldsVal("x", "y"))); !sameTable(table, want) {
		t.Errorf("at the end: %s", briefTable(table))
	}
}

func TestSetCommandsOneBehindTheOther(t *testing.T) {
	table := mustReplyEach(t, impl.OnSets, [][2]string{
		{"SCARD a", ":0\r\n"}, {"SREM a x", ":0\r\n"}, {"SADD a y x y", ":2\r\n"}, {"SADD a x", ":0\r\n"}, {"SMEMBERS a", "*2\r\n$1\r\nx\r\n$1\r\ny\r\n"}, {"SISMEMBER a x", ":1\r\n"},
		{"SREM a x x", ":1\r\n"}, {"SISMEMBER a x", ":0\r\n"}, {"SADD a x w", ":2\r\n"}, {"SCARD a", ":3\r\n"}, {"SREM a w x y z", ":3\r\n"}, {"SMEMBERS a", noneReply}, {"SADD b 1", ":1\r\n"}, {"SADD a q", ":1\r\n"}, {"SISMEMBER b 1", ":1\r\n"},
	})
	if want := entries(entry("a", setVal("q")), entry("b", setVal("1"))); !sameTable(table, want) {
		t.Errorf("at the end: %s", briefTable(table))
	}
}

func timesToTry() []int { return []int{0, 1, 127, 128, 300, impl.MaxTime - 1, impl.MaxTime} }

func TestTimesBehindFieldCommands(t *testing.T) {
	fields := fieldLayer()
	for _, time := range timesToTry() {
		why, other := "till "+strconv.Itoa(time), entry("b", untilTime(setVal("x"), time))
		with := func(items ...string) []impl.Entry {
			return entries(entry("a", untilTime(fieldsVal(items...), time)), other)
		}
		two := with("f", "1", "g", "2")
		fields.mustDo(t, why, two, words("HSET a h 3"), with("f", "1", "g", "2", "h", "3"), ":1\r\n")
		fields.mustDo(t, why, two, words("HSET a f 3"), with("f", "3", "g", "2"), ":0\r\n")
		fields.mustDo(t, why, two, words("HSET a f 1"), two, ":0\r\n")
		fields.mustDo(t, why, two, words("HDEL a f"), with("g", "2"), ":1\r\n")
		fields.mustDo(t, why, two, words("HDEL a h"), two, ":0\r\n")
		for _, line := range someArgs("HGET a f", "HLEN a", "HGETALL a", "HKEYS a", "HGET none f", "HDEL none f") {
			fields.mustDo(t, why, two, words(line), two, fields.replyByHand(two, words(line)))
		}
		for _, line := range someArgs("HSET b x 1", "HDEL b x", "HGET b x", "HLEN b", "HSET a f "+strings.Repeat("x", 61)) {
			fields.mustFail(t, why, two, words(line), fields.replyByHand(two, words(line)))
		}
		fields.mustDo(t, "the last field "+why, with("f", "1"), words("HDEL a f"), entries(other), ":1\r\n")
		empty := fields.after(t, two, words("HDEL a g f"))
		fields.mustDo(t, "new fields, for good, where some were "+why, empty, words("HSET a f 1"), entries(entry("a", fieldsVal("f", "1")), other), ":1\r\n")
	}
}

func TestTimesBehindSetCommands(t *testing.T) {
	sets := setLayer()
	for _, time := range timesToTry() {
		why, other := "till "+strconv.Itoa(time), entry("b", untilTime(fieldsVal("x", "1"), time))
		with := func(items ...string) []impl.Entry {
			return entries(entry("a", untilTime(setVal(items...), time)), other)
		}
		two := with("x", "y")
		sets.mustDo(t, why, two, words("SADD a z"), with("x", "y", "z"), ":1\r\n")
		sets.mustDo(t, why, two, words("SADD a x y"), two, ":0\r\n")
		sets.mustDo(t, why, two, words("SREM a x"), with("y"), ":1\r\n")
		sets.mustDo(t, why, two, words("SREM a z"), two, ":0\r\n")
		for _, line := range someArgs("SISMEMBER a x", "SCARD a", "SMEMBERS a", "SMEMBERS none", "SREM none x") {
			sets.mustDo(t, why, two, words(line), two, sets.replyByHand(two, words(line)))
		}
		for _, line := range someArgs("SADD b x", "SREM b x", "SISMEMBER b x", "SCARD b", "SMEMBERS b", "SADD a "+strings.Repeat("x", 61)) {
			sets.mustFail(t, why, two, words(line), sets.replyByHand(two, words(line)))
		}
		sets.mustDo(t, "the last item "+why, with("x"), words("SREM a x"), entries(other), ":1\r\n")
		empty := sets.after(t, two, words("SREM a y x"))
		sets.mustDo(t, "a new set, for good, where one was "+why, empty, words("SADD a x"), entries(entry("a", setVal("x")), other), ":1\r\n")
	}
}

func TestFieldsUpToTheLimit(t *testing.T) {
	fields := fieldLayer()
	for _, names := range [][]string{risingItems(12), longItems(12)} {
		var items []string
		for _, name := range names {
			items = append(items, name, someText(60))
		}
		full := oneEntry("a", untilTime(fieldsVal(items...), 5))
		for _, field := range someArgs("", "a", "i", "i0055", "z", "i012", someText(60)) {
			fields.mustFail(t, "a field more", full, someArgs("HSET", "a", field, ""), tooMuchReply)
			fields.mustFail(t, "a field more", full, someArgs("HSET", "a", field, "x"), tooMuchReply)
			fields.mustDo(t, "a field more is not there", full, someArgs("HGET", "a", field), full, nilReply)
			fields.mustDo(t, "a field more is not there", full, someArgs("HDEL", "a", field), full, ":0\r\n")
		}
		for n, name := range names {
			with := func(text string) []impl.Entry {
				own := slices.Clone(items)
				own[2*n+1] = text
				return oneEntry("a", untilTime(fieldsVal(own...), 5))
			}
			for _, text := range someArgs("", "x", name, someText(59), someText(60)) {
				fields.mustDo(t, "one of twelve that is there", full, someArgs("HSET", "a", name, text), with(text), ":0\r\n")
			}
			fields.mustFail(t, "a text that is too long in one of twelve", full, someArgs("HSET", "a", name, someText(61)), tooMuchReply)
			left := oneEntry("a", untilTime(fieldsVal(slices.Delete(slices.Clone(items), 2*n, 2*n+2)...), 5))
			fields.mustDo(t, "one of twelve is gone", full, someArgs("HDEL", "a", name), left, ":1\r\n")
			fields.mustDo(t, "there is room again", left, someArgs("HSET", "a", name, "x"), with("x"), ":1\r\n")
			fields.mustDo(t, "there is room for another", left, someArgs("HSET", "a", "z", "x"), oneEntry("a", untilTime(fieldsVal(append(slices.Clone(left[0].Val.Items), "z", "x")...), 5)), ":1\r\n")
		}
		fields.mustDo(t, "all are gone, far too many told", full, slices.Concat(words("HDEL a"), names, risingItems(900), manyArgs(5000, "x")), nil, ":12\r\n")
	}
}

func TestSetsUpToTheLimit(t *testing.T) {
	sets := setLayer()
	for _, all := range [][]string{risingItems(26), longItems(26)} {
		for stands := range 25 {
			var table []impl.Entry
			if stands > 0 {
				table = oneEntry("a", untilTime(setVal(all[:stands]...), 5))
			}
			for told := range 26 {
				args := append(words("SADD a"), all[:told+1]...)
				if told+1 > 24 {
					sets.mustFail(t, "an item more, or two", table, args, tooMuchReply)
				} else {
					sets.mustDo(t, "as many as may be", table, args, tableOfMap(plainAfter(sets, table, args)), numberByHand(max(0, told+1-stands)))
				}
			}
		}
		full := oneEntry("a", setVal(all[:24]...))
		sets.mustDo(t, "one that is there among as many as may be", full, append(words("SADD a"), manyArgs(300, all[7])...), full, ":0\r\n")
		sets.mustFail(t, "one that is there, and one more", full, someArgs("SADD", "a", all[7], all[24]), tooMuchReply)
		for _, item := range someArgs("", "a", "i", "z", all[24]) {
			sets.mustFail(t, "one more", full, someArgs("SADD", "a", item), tooMuchReply)
			sets.mustDo(t, "one more is not in", full, someArgs("SISMEMBER", "a", item), full, ":0\r\n")
			left := sets.after(t, full, someArgs("SREM", "a", all[3]))
			sets.mustDo(t, "there is room again", left, someArgs("SADD", "a", item), tableOfMap(plainAfter(sets, left, someArgs("SADD", "a", item))), ":1\r\n")
		}
		sets.mustFail(t, "far too many", nil, append(words("SADD a"), risingItems(1000)...), tooMuchReply)
		sets.mustDo(t, "all are taken away, far too many told", full, slices.Concat(words("SREM a"), all, risingItems(900), manyArgs(5000, "x")), nil, ":24\r\n")
	}
}

func lengthsToTry() []int {
	return slices.Concat(countsTo(64), []int{255, 256, 316, 2000, impl.MaxText, impl.MaxText + 1, 65536 + 5})
}

func TestLongFieldsAndTexts(t *testing.T) {
	fields := fieldLayer()
	one := oneEntry("a", untilTime(fieldsVal("~", "x"), 7))
	for _, length := range lengthsToTry() {
		long := someText(length)
		for _, table := range [][]impl.Entry{nil, one, oneEntry("a", setVal("x"))} {
			for _, args := range someRequests(someArgs("HSET", "a", long, "1"), someArgs("HSET", "a", "~", long), someArgs("HSET", "a", long, long), someArgs("HSET", "a", "b", long), someArgs("HGET", "a", long), someArgs("HDEL", "a", long), someArgs("HDEL", "a", "~", long)) {
				mark := fields.mustDoPlainly(t, "a field or text of some length", table, args)
				if args[0] == "HSET" && (mark == tooMuchReply) != (length > 60 && (len(table) == 0 || table[0].Val.Kind == 3)) {
					t.Errorf("%.40q of length %d: %q", args, length, mark)
				}
			}
		}
		if length > 60 {
			continue
		}
		both := fields.after(t, one, someArgs("HSET", "a", long, long))
		fields.mustDo(t, "got", both, someArgs("HGET", "a", long), both, bulkByHand(long))
		fields.mustDo(t, "gone", both, someArgs("HDEL", "a", long), one, ":1\r\n")
	}
}

func TestLongItemsOfSets(t *testing.T) {
	sets := setLayer()
	one := oneEntry("a", untilTime(setVal("~"), 7))
	for _, length := range lengthsToTry() {
		long := someText(length)
		for _, table := range [][]impl.Entry{nil, one, oneEntry("a", fieldsVal("x", "y"))} {
			for _, args := range someRequests(someArgs("SADD", "a", long), someArgs("SADD", "a", "~", long), someArgs("SADD", "a", long, "~"), someArgs("SADD", "a", "b", long, "c"), someArgs("SISMEMBER", "a", long), someArgs("SREM", "a", long), someArgs("SREM", "a", "~", long)) {
				mark := sets.mustDoPlainly(t, "an item of some length", table, args)
				if args[0] == "SADD" && (mark == tooMuchReply) != (length > 60 && (len(table) == 0 || table[0].Val.Kind == 4)) {
					t.Errorf("%.40q of length %d: %q", args, length, mark)
				}
			}
		}
		if length > 60 {
			continue
		}
		both := sets.after(t, one, someArgs("SADD", "a", long))
		sets.mustDo(t, "in", both, someArgs("SISMEMBER", "a", long), both, ":1\r\n")
		sets.mustDo(t, "in no more", both, someArgs("SREM", "a", long), one, ":1\r\n")
	}
}

func TestFieldsAndItemsOfAnyBytes(t *testing.T) {
	fields, sets := fieldLayer(), setLayer()
	someFields, someSet := oneEntry("a", fieldsVal("k", "1", "m", "2")), oneEntry("a", setVal("k", "m"))
	for b := range 256 {
		one := string([]byte{byte(b)})
		for _, text := range someArgs(one, "k"+one, "l"+one+"l", one+one) {
			has := map[string]string{"k": "1", "m": "2", text: text}
			reply := numberByHand(len(has) - 2)
			fields.mustDo(t, "any byte", someFields, someArgs("HSET", "a", text, text), oneEntry("a", fieldsOfMap(has)), reply)
			sets.mustDo(t, "any byte", someSet, someArgs("SADD", "a", text), oneEntry("a", setOfMap(has)), reply)
			table := oneEntry("a", fieldsOfMap(has))
			fields.mustDo(t, "any byte", table, someArgs("HGET", "a", text), table, bulkByHand(text))
			fields.mustDoPlainly(t, "any byte", table, someArgs("HDEL", "a", text, "k"))
			sets.mustDoPlainly(t, "any byte", oneEntry("a", setOfMap(has)), someArgs("SREM", "a", text, "m"))
		}
	}
}

// comingAndGoing are commands that make a key, and take it away again.
type comingAndGoing struct {
	l          layer
	come, gone string
	ofKey      func(key string) impl.Val
}

func bothComingAndGoing() []comingAndGoing {
	return []comingAndGoing{
		{fieldLayer(), "HSET % f 1", "HDEL % f", func(string) impl.Val { return fieldsVal("f", "1") }},
		{setLayer(), "SADD % x y x", "SREM % y x", func(string) impl.Val { return setVal("x", "y") }},
	}
}

// onKey puts a key, which may have any bytes, where a line has its mark.
func onKey(line, key string) []string {
	args := words(line)
	args[slices.Index(args, "%")] = key
	return args
}

func readingOn(l layer, key string) [][]string {
	if l.label == "OnSets" {
		return someRequests(someArgs("SISMEMBER", key, "x"), someArgs("SCARD", key), someArgs("SMEMBERS", key), someArgs("SREM", key, "x", "y"))
	}
	return someRequests(someArgs("HGET", key, "f"), someArgs("HLEN", key), someArgs("HGETALL", key), someArgs("HKEYS", key), someArgs("HDEL", key, "f", "g"))
}

func TestFullTablesOfFieldsAndSets(t *testing.T) {
	for _, c := range bothComingAndGoing() {
		full, room := manyEntries(20), manyEntries(19)
		for _, key := range words("k A zz i0055") {
			c.l.mustFail(t, "one key too many", full, onKey(c.come, key), tooMuchReply)
			behind, reply, _ := c.l.plain(room, onKey(c.come, key))
			c.l.mustDo(t, "the last key", room, onKey(c.come, key), behind, reply)
			if isFault(reply) || len(behind) != 20 {
				t.Errorf("%s: not the last key", key)
			}
			for _, args := range readingOn(c.l, key) {
				c.l.mustDo(t, "none of twenty", full, args, full, c.l.replyByHand(full, args))
			}
		}
		for n, e := range full {
			full[n].Val = untilTime(c.ofKey(e.Key), n)
		}
		for n, e := range full {
			left := slices.Delete(copyTable(full), n, n+1)
			c.l.mustDo(t, "one of twenty stays", full, onKey(c.come, e.Key), full, ":0\r\n")
			c.l.mustDoPlainly(t, "one of twenty is gone", full, onKey(c.gone, e.Key))
			if got := c.l.after(t, full, onKey(c.gone, e.Key)); !sameTable(got, left) {
				t.Errorf("%s is gone: %s", e.Key, briefTable(got))
			}
			c.l.mustDo(t, "there is room again", left, onKey(c.come, "k"), append(copyTable(left), entry("k", c.ofKey("k"))), c.l.replyByHand(nil, onKey(c.come, "k")))
		}
	}
}

func TestKeysOfFieldAndSetCommands(t *testing.T) {
	for _, c := range bothComingAndGoing() {
		for _, length := range slices.Concat(countsTo(24), []int{300, 20000}) {
			key := someText(length)
			for _, table := range [][]impl.Entry{nil, oneEntry("none", textVal("x")), someTable()} {
				if length >= 1 && length <= 20 {
					c.l.mustDo(t, "a key", table, onKey(c.come, key), sortedTable(append(oneEntry(key, c.ofKey(key)), table...)), c.l.replyByHand(nil, onKey(c.come, key)))
				} else {
					c.l.mustFail(t, "a key that cannot be", table, onKey(c.come, key), tooMuchReply)
				}
				for _, args := range readingOn(c.l, key) {
					c.l.mustDo(t, "no such key", table, args, table, c.l.replyByHand(nil, args))
				}
			}
		}
		c.l.mustFail(t, "a key of 21 bytes in seven letters", nil, onKey(c.come, strings.Repeat("\u20ac", 7)), tooMuchReply)
	}
}

// Keys stand by their bytes: wherever one comes to stand, or is gone, the table is right and has all others as they were.
func TestFieldsAndSetsComeAndGoInOrder(t *testing.T) {
	all := someArgs("\x00", "\x00\x00", " ", "10", "9", "A", "B", "Z", "a", "a\x00", "a\x00b", "aa", "ab", "b", "\x7f", "\x80", "\u00e9", "\xfe", "\xff", "\xff\xff")
	for _, c := range bothComingAndGoing() {
		tableOfKeys := func(keys []string) []impl.Entry {
			var table []impl.Entry
			for _, key := range slices.Sorted(slices.Values(keys)) {
				table = append(table, entry(key, c.ofKey(key)))
			}
			return table
		}
		comeReply := c.l.replyByHand(nil, onKey(c.come, "a"))
		for turn := range 2 * len(all) {
			keys := slices.Concat(all[turn%20:], all[:turn%20])
			if turn >= 20 {
				slices.Reverse(keys)
			}
			for n, key := range keys {
				c.l.mustDo(t, "come", tableOfKeys(keys[:n]), onKey(c.come, key), tableOfKeys(keys[:n+1]), comeReply)
				c.l.mustDo(t, "gone", tableOfKeys(keys[n:]), onKey(c.gone, key), tableOfKeys(keys[n+1:]), comeReply)
			}
		}
	}
}

// mustFailOnOtherKinds does each command on the key k, whatever stands there.
func (l layer) mustFailOnOtherKinds(t *testing.T, kind int, commands [][]string) {
	t.Helper()
	kinds, names := map[int]int{}, map[string]int{}
	for _, c := range valsNotOf(kind) {
		kinds[c.v.Kind]++
		for _, table := range [][]impl.Entry{oneEntry("k", c.v), entries(entry("a", textVal("1")), entry("k", c.v), entry("z", untilTime(listVal("2"), 3)))} {
			for _, args := range commands {
				names[args[0]]++
				l.mustFail(t, c.why, table, args, wrongReply)
			}
		}
	}
	for other := 1; other <= 4; other++ {
		if (kinds[other] >= 8) != (other != kind) {
			t.Errorf("so many of each kind: %v", kinds)
		}
	}
	if len(names) != len(l.names) {
		t.Errorf("so many of each command: %v", names)
	}
}

func TestFieldCommandsOnOtherKinds(t *testing.T) {
	long := someText(61)
	commands := someRequests(someArgs("HSET", "k", "", ""), someArgs("HSET", "k", "f", long), someArgs("HSET", "k", long, "1"), someArgs("HGET", "k", ""), someArgs("HGET", "k", long), someArgs("HDEL", "k", ""), someArgs("HDEL", "k", "x", long))
	for _, line := range someArgs("HSET k f 1", "HSET k a x", "HSET k x x", "HGET k f", "HGET k a", "HDEL k a", "HDEL k f x", "HLEN k", "HGETALL k", "HKEYS k") {
		commands = append(commands, words(line))
	}
	fieldLayer().mustFailOnOtherKinds(t, impl.KindFields, commands)
}

func TestSetCommandsOnOtherKinds(t *testing.T) {
	long := someText(61)
	commands := someRequests(someArgs("SADD", "k", ""), someArgs("SADD", "k", "x", long), append(someArgs("SADD", "k"), risingItems(25)...), someArgs("SISMEMBER", "k", ""), someArgs("SISMEMBER", "k", long), someArgs("SREM", "k", ""), someArgs("SREM", "k", "x", long))
	for _, line := range someArgs("SADD k f", "SADD k a x", "SREM k a", "SREM k f x", "SISMEMBER k f", "SISMEMBER k x", "SCARD k", "SMEMBERS k") {
		commands = append(commands, words(line))
	}
	setLayer().mustFailOnOtherKinds(t, impl.KindSet, commands)
}

func TestOtherCommandsAreNotOnFields(t *testing.T) {
	fieldLayer().mustLeaveOthers(t, "f", someArgs("HSE", "HSETS", "HSET ", " HSET", "HSET\x00", "\x00HSET", "HMSET", "HMGET", "HSETNX", "HEXISTS", "HVALS", "HINCRBY", "HSTRLEN", "HGETAL", "HGETALLS", "HKEY", "HSCAN", "HLE", "H", "\u041dSET", "H\u017fET", "hset\r\n", "+HSET", "(SET", strings.Repeat("HSET", 5000)))
}

func TestOtherCommandsAreNotOnSets(t *testing.T) {
	setLayer().mustLeaveOthers(t, "s", someArgs("SAD", "SADDS", "SADD ", " SADD", "SADD\x00", "\x00SADD", "SPOP", "SMOVE", "SINTER", "SUNION", "SDIFF", "SRANDMEMBER", "SMISMEMBER", "SISMEMBERS", "SISMEMBE", "SMEMBER", "SCAR", "SRE", "S", "\u017fADD", "S\u0410DD", "sadd\r\n", "+SADD", "3ADD", strings.Repeat("SADD", 5000)))
}

func TestFieldCommandsWithOtherArguments(t *testing.T) {
	fieldLayer().mustTakeItsArguments(t, [][]impl.Entry{nil, oneEntry("7", fieldsVal("7", "x")), oneEntry("7", setVal("7")), someTable()}, "7")
}

func TestSetCommandsWithOtherArguments(t *testing.T) {
	setLayer().mustTakeItsArguments(t, [][]impl.Entry{nil, oneEntry("7", setVal("7")), oneEntry("7", fieldsVal("7", "x")), someTable()}, "7")
}

func TestFieldAndSetCommandsOverTablesThatAreNotRight(t *testing.T) {
	for _, c := range wrongTables() {
		for _, line := range someArgs("HSET a f 1", "HSET none f 1", "HGET a f", "HGET none f", "HDEL a f", "HDEL none f", "HLEN a", "HLEN none", "HGETALL a", "HGETALL none", "HKEYS a", "HKEYS none", "SCARD a", "GET a", "what") {
			fieldLayer().mustNotDo(t, c.why, c.table, words(line))
		}
		for _, line := range someArgs("SADD a x", "SADD none x", "SREM a x", "SREM none x", "SISMEMBER a x", "SISMEMBER none x", "SCARD a", "SCARD none", "SMEMBERS a", "SMEMBERS none", "HLEN a", "GET a", "what") {
			setLayer().mustNotDo(t, c.why, c.table, words(line))
		}
		fieldLayer().mustNotDo(t, c.why, c.table, nil)
		setLayer().mustNotDo(t, c.why, c.table, nil)
		fieldLayer().mustNotDo(t, c.why, c.table, someArgs("HSET", "", someText(61), ""))
		setLayer().mustNotDo(t, c.why, c.table, someArgs("SADD", "", someText(61)))
	}
}

// Of two faults the one that the document tells first is told.
func TestFaultsOfFieldAndSetCommandsInOrder(t *testing.T) {
	full, key21, long := manyEntries(20), someText(21), someText(61)
	fieldLayer().mustFail(t, "another kind, and too long", full, someArgs("HSET", "i003", long, long), wrongReply)
	fieldLayer().mustFail(t, "a key too many, and all too long", full, someArgs("HSET", key21, long, long), tooMuchReply)
	fieldLayer().mustFail(t, "no key, and too long", nil, someArgs("HSET", "", long, long), tooMuchReply)
	setLayer().mustFail(t, "another kind, and too long", full, someArgs("SADD", "i003", long), wrongReply)
	setLayer().mustFail(t, "another kind, and too many", full, append(words("SADD i003"), risingItems(25)...), wrongReply)
	setLayer().mustFail(t, "a key too many, and all too long", full, someArgs("SADD", key21, long), tooMuchReply)
	setLayer().mustFail(t, "too many, and too long", nil, append(someArgs("SADD", "a", long), risingItems(25)...), tooMuchReply)
}

// argsOf draws a command, mostly a right one of a layer, whose arguments hang together with the keys of tables.
func (w *drawer) argsOf(l layer) []string {
	if w.below(20) == 0 {
		return w.commandArgs()
	}
	name := l.names[w.below(len(l.names))]
	if w.below(2) == 0 {
		name = l.names[0]
	}
	args := someArgs(inAllCases(name)[w.below(5)], w.drawnKey())
	switch name {
	case "HSET":
		args = append(args, w.fieldName(), w.item())
	case "HGET", "SISMEMBER":
		args = append(args, w.fieldName())
	case "HDEL", "SADD", "SREM":
		for range 1 + w.below(4)*w.below(3) {
			args = append(args, w.fieldName())
		}
		if name != "SADD" && w.below(3) == 0 {
			args = slices.Concat(args, risingItems(30), someArgs("", "a", "b", "c", "aa", "a\x00", "\x00", "\xff", "x", "y", "10", "9"))
		}
	}
	if w.below(30) == 0 {
		args = append(args, w.item())
	}
	return args
}

// fieldName is one of few, most of the time, so that it is often there.
func (w *drawer) fieldName() string {
	if w.below(6) == 0 {
		return w.item()
	}
	return risingItems(30)[w.below(30)]
}

// kindTable draws a table that is right most of the time, with values of a kind under some of its keys; now and then it is full, or a value is.
func (w *drawer) kindTable(kind int) []impl.Entry {
	list := w.table()
	for !rightTableByHand(list) && w.below(5) > 0 {
		list = w.table()
	}
	if w.below(10) == 0 {
		list = sortedTable(append(list, manyEntries(20)...))[:20]
	}
	for _, key := range words("a b n") {
		if w.below(2) == 0 {
			count := 2 * (1 + w.below(4))
			if w.below(4) == 0 {
				count = 22 + w.below(3)
			}
			v := untilTime(ofKind(listVal(risingItems(count)...), kind), w.below(3))
			list = append(slices.DeleteFunc(list, func(e impl.Entry) bool { return e.Key == key }), entry(key, v))
			list = sortedTable(list)
		}
	}
	return list
}

func TestDrawnFieldCommands(t *testing.T) {
	w, told := &drawer{state: 16}, map[string]int{}
	for range 40000 {
		told[fieldLayer().mustDoPlainly(t, "drawn", w.kindTable(impl.KindFields), w.argsOf(fieldLayer()))]++
	}
	mustHaveTold(t, told, 700, "", ":", "$", "*", wrongReply, tooMuchReply)
}

func TestDrawnSetCommands(t *testing.T) {
	w, told := &drawer{state: 161}, map[string]int{}
	for range 40000 {
		told[setLayer().mustDoPlainly(t, "drawn", w.kindTable(impl.KindSet), w.argsOf(setLayer()))]++
	}
	mustHaveTold(t, told, 700, "", ":", "*", wrongReply, tooMuchReply)
}

// A drawn life: commands go one behind the other, and the engine that keeps what differs tells each table.
func TestFieldAndSetCommandsInDrawnLives(t *testing.T) {
	w := &drawer{state: 1616}
	layers := []layer{fieldLayer(), setLayer()}
	kept, gone, told := 0, 0, map[string]int{}
	for range 40 {
		var table []impl.Entry
		if w.below(2) == 0 {
			table = someTable()
		}
		e := holding(t, table)
		for range 150 {
			l := layers[w.below(2)]
			args := w.argsOf(l)
			behind, reply, ok := l.plain(table, args)
			told[l.mustDoPlainly(t, "in a life", table, args)]++
			next, _, _ := l.on(table, args)
			changes := impl.Differ(table, next)
			if !ok || isFault(reply) || len(changes) == 0 {
				continue
			}
			after, _, code := impl.PutBatch(e, changes)
			if code == 0 {
				kept++
				if len(next) < len(table) {
					gone++
				}
				mustTell(t, "kept", after, behind, true)
				e, table = after, next
			}
		}
	}
	mustHaveTold(t, told, 50, ":", "$", "*", wrongReply, tooMuchReply)
	if kept < 1000 || gone < 30 {
		t.Errorf("only %d are kept, %d keys gone: %v", kept, gone, told)
	}
}

func TestWhatOnlyLooksAtFieldsAndSetsDiffersInNothing(t *testing.T) {
	fieldLayer().mustDifferWhereItMay(t, casesOfFields())
	setLayer().mustDifferWhereItMay(t, casesOfSets())
}

func TestAnswersOnFieldsAndSetsShareNothing(t *testing.T) {
	for _, c := range casesOfFields() {
		fieldLayer().mustDoWithoutSharing(t, c.why, c.table, c.args)
	}
	for _, c := range casesOfSets() {
		setLayer().mustDoWithoutSharing(t, c.why, c.table, c.args)
	}
	tables := [][]impl.Entry{nil, entries(entry("1", textVal("1")), entry("a", fieldsVal("", "1", "1", "a", "a", "a")), entry("b", setVal("", "1", "a")), entry("c", listVal("1", "1")))}
	for _, table := range tables {
		for _, line := range someArgs("HSET a 1 1", "HSET a b b", "HSET d d d", "HSET a a a", "HGET a 1", "HDEL a 1 a", "HDEL a b", "HLEN a", "HGETALL a", "HKEYS a", "HSET b 1 1") {
			fieldLayer().mustDoWithoutSharing(t, "small texts", table, words(line))
		}
		for _, line := range someArgs("SADD b 1", "SADD b b b c", "SADD d d d", "SREM b 1 a", "SREM b x", "SISMEMBER b a", "SCARD b", "SMEMBERS b", "SADD a 1") {
			setLayer().mustDoWithoutSharing(t, "small texts", table, words(line))
		}
	}
}

// Lists that come in as one piece of memory go out with a list each, whatever becomes of the others.
func TestListsBehindFieldAndSetCommandsShareNothing(t *testing.T) {
	items := []string{"a", "b", "c", "d"}
	lines := someArgs("HSET x a 1", "HSET x b 1", "HSET w b 1", "HDEL x a", "HDEL x q", "HGET x a", "HGETALL x", "HKEYS w", "HLEN y", "SADD y a", "SADD y 1", "SADD w 1", "SREM y b", "SREM y q", "SMEMBERS y", "SCARD y", "SISMEMBER y a", "SADD new 1", "HSET new 1 1")
	for _, line := range lines {
		table := entries(entry("w", fieldsVal()), entry("x", fieldsVal(items...)), entry("y", setVal(items...)), entry("z", listVal(items...)))
		table[0].Val.Items = items[:2:4]
		on := impl.OnFields
		if line[0] == 'S' {
			on = impl.OnSets
		}
		behind, _, ok := on(table, words(line))
		want := copyTable(behind)
		for n := range behind {
			scribbleVal(behind[n].Val)
			behind[n] = want[n]
			if !sameTable(behind, want) {
				t.Errorf("%s: what is changed in %d is changed in others: %s", line, n, briefTable(behind))
			}
			behind[n] = copyTable(want[n : n+1])[0]
		}
		if !slices.Equal(items, []string{"a", "b", "c", "d"}) || !ok || len(behind) < 4 {
			t.Errorf("%s: %s %v", line, briefTable(behind), items)
		}
	}
}
