package tests

import (
	"fmt"
	"maps"
	"math"
	"slices"
	"strconv"
	"strings"
	"testing"

	"loop.example/g00124/impl"
)

func textVal(text string) impl.Val       { return impl.Val{Kind: impl.KindText, Text: text} }
func listVal(items ...string) impl.Val   { return impl.Val{Kind: impl.KindList, Items: items} }
func fieldsVal(items ...string) impl.Val { return impl.Val{Kind: impl.KindFields, Items: items} }
func setVal(items ...string) impl.Val    { return impl.Val{Kind: impl.KindSet, Items: items} }

func entry(key string, v impl.Val) impl.Entry        { return impl.Entry{Key: key, Val: v} }
func entries(list ...impl.Entry) []impl.Entry        { return list }
func oneEntry(key string, v impl.Val) []impl.Entry   { return entries(entry(key, v)) }
func untilTime(v impl.Val, time int) impl.Val        { v.Until = time; return v }
func ofKind(v impl.Val, kind int) impl.Val           { v.Kind = kind; return v }
func withText(v impl.Val, text string) impl.Val      { v.Text = text; return v }
func withItems(v impl.Val, items ...string) impl.Val { v.Items = items; return v }

// risingItems has items that ascend, as long as there are at most 1000.
func risingItems(count int) []string {
	var items []string
	for n := range count {
		items = append(items, fmt.Sprintf("i%03d", n))
	}
	return items
}

// longItems are as long as an item may be, and ascend.
func longItems(count int) []string {
	items := risingItems(count)
	for place, item := range items {
		items[place] = item + someText(impl.MaxItem-len(item))
	}
	return items
}

func manyEntries(count int) []impl.Entry {
	var list []impl.Entry
	for n, key := range risingItems(count) {
		list = append(list, entry(key, untilTime(textVal(strconv.Itoa(n)), n)))
	}
	return list
}

func shortByHand(text string) string { return varByHand(len(text)) + text }

// valByHand is there for values that ValText refuses, too (but for a Kind of more than a byte, and an Until below 0).
func valByHand(v impl.Val) string {
	text := string([]byte{byte(v.Kind)}) + varByHand(v.Until) + shortByHand(v.Text) + varByHand(len(v.Items))
	for _, item := range v.Items {
		text += shortByHand(item)
	}
	return text
}

// risingByHand sorts anew, and holds what comes against what there was.
func risingByHand(list []string) bool {
	return slices.Equal(list, slices.Compact(slices.Sorted(slices.Values(list))))
}

func rightValByHand(v impl.Val) bool {
	if v.Until < 0 || v.Until > 100000 || len(v.Text) > 60 {
		return false
	}
	var fields []string
	for place, item := range v.Items {
		if len(item) > 60 {
			return false
		}
		if place%2 == 0 {
			fields = append(fields, item)
		}
	}
	count := len(v.Items)
	if v.Kind == 1 {
		return count == 0
	}
	if v.Text != "" || count == 0 || count > 24 {
		return false
	}
	return v.Kind == 2 || v.Kind == 3 && 2*len(fields) == count && risingByHand(fields) || v.Kind == 4 && risingByHand(v.Items)
}

func rightTableByHand(table []impl.Entry) bool {
	var keys []string
	for _, e := range table {
		keys = append(keys, e.Key)
		if len(e.Key) == 0 || len(e.Key) > 20 || !rightValByHand(e.Val) {
			return false
		}
	}
	return len(keys) <= 20 && risingByHand(keys)
}

// plainReadVal guesses the value without a look at its rules; the guess counts when it is right and is written so.
func plainReadVal(text string) (impl.Val, bool) {
	if text == "" || len(text) > 2000 {
		return impl.Val{}, false
	}
	v := impl.Val{Kind: int(text[0])}
	rest, ok := "", false
	if v.Until, rest, ok = looseVar(text[1:]); !ok {
		return impl.Val{}, false
	}
	if v.Text, rest, ok = looseShort(rest); !ok {
		return impl.Val{}, false
	}
	if _, rest, ok = looseVar(rest); !ok {
		return impl.Val{}, false
	}
	for rest != "" {
		item := ""
		if item, rest, ok = looseShort(rest); !ok {
			return impl.Val{}, false
		}
		v.Items = append(v.Items, item)
	}
	if !rightValByHand(v) || valByHand(v) != text {
		return impl.Val{}, false
	}
	return v, true
}

func mapOf(table []impl.Entry) map[string]impl.Val {
	vals := map[string]impl.Val{}
	for _, e := range table {
		vals[e.Key] = e.Val
	}
	return vals
}

// plainDiffer is the rule again, by maps: what the program answers is held against it.
func plainDiffer(a, b []impl.Entry) []impl.Change {
	if !rightTableByHand(a) || !rightTableByHand(b) {
		return nil
	}
	from, to := mapOf(a), mapOf(b)
	changes := map[string]impl.Change{}
	for key := range from {
		if _, has := to[key]; !has {
			changes[key] = gone(key)
		}
	}
	for key, v := range to {
		if old, had := from[key]; !had || !sameVal(old, v) {
			changes[key] = put(key, valByHand(v))
		}
	}
	var list []impl.Change
	for _, key := range slices.Sorted(maps.Keys(changes)) {
		list = append(list, changes[key])
	}
	return list
}

func sameVal(a, b impl.Val) bool {
	return a.Kind == b.Kind && a.Until == b.Until && a.Text == b.Text && slices.Equal(a.Items, b.Items)
}

func sameTable(a, b []impl.Entry) bool {
	return slices.EqualFunc(a, b, func(x, y impl.Entry) bool { return x.Key == y.Key && sameVal(x.Val, y.Val) })
}

func copyVal(v impl.Val) impl.Val {
	own := impl.Val{Kind: v.Kind, Until: v.Until, Text: strings.Clone(v.Text)}
	for _, item := range v.Items {
		own.Items = append(own.Items, strings.Clone(item))
	}
	return own
}

func copyTable(table []impl.Entry) []impl.Entry {
	var own []impl.Entry
	for _, e := range table {
		own = append(own, entry(strings.Clone(e.Key), copyVal(e.Val)))
	}
	return own
}

// briefVal keeps long texts out of what a failed test tells.
func briefVal(v impl.Val) string {
	out := fmt.Sprintf("kind %d until %d %.10q of %d bytes, %d items", v.Kind, v.Until, v.Text, len(v.Text), len(v.Items))
	for _, item := range v.Items[:min(4, len(v.Items))] {
		out += fmt.Sprintf(" %.10q", item)
	}
	return "{" + out + "}"
}

func briefTable(table []impl.Entry) string {
	out := []string{strconv.Itoa(len(table)) + " entries"}
	for _, e := range table[:min(4, len(table))] {
		out = append(out, fmt.Sprintf("%.25q %s", e.Key, briefVal(e.Val)))
	}
	return "[" + strings.Join(out, "; ") + "]"
}

func briefChanges(list []impl.Change) string { return briefBatch(batchOf(0, list...)) }

func mustReadVal(t *testing.T, why, text string, want impl.Val, wantOk bool) {
	t.Helper()
	got, ok := impl.ReadVal(text)
	if ok != wantOk || !sameVal(got, want) {
		t.Errorf("%s: ReadVal(%.40q of %d bytes): %s %v, want %s %v", why, text, len(text), briefVal(got), ok, briefVal(want), wantOk)
	}
}

func mustNotReadVal(t *testing.T, why, text string) {
	t.Helper()
	mustReadVal(t, why, text, impl.Val{}, false)
}

func mustReadValPlainly(t *testing.T, why, text string) bool {
	t.Helper()
	want, ok := plainReadVal(text)
	mustReadVal(t, why, text, want, ok)
	return ok
}

func mustFind(t *testing.T, why string, table []impl.Entry, key string, want impl.Val, wantOk bool) {
	t.Helper()
	if got, ok := impl.Find(table, key); !sameVal(got, want) || ok != wantOk {
		t.Errorf("%s: Find(%.25q): %s %v, want %s %v", why, key, briefVal(got), ok, briefVal(want), wantOk)
	}
}

func mustNotFind(t *testing.T, why string, table []impl.Entry, key string) {
	t.Helper()
	mustFind(t, why, table, key, impl.Val{}, false)
}

func mustBeLive(t *testing.T, why string, table []impl.Entry, now int, want []impl.Entry) {
	t.Helper()
	if got := impl.Live(table, now); !sameTable(got, want) {
		t.Errorf("%s: Live at %d: %s, want %s", why, now, briefTable(got), briefTable(want))
	}
}

func mustDiffer(t *testing.T, why string, a, b []impl.Entry, want []impl.Change) {
	t.Helper()
	if got := impl.Differ(a, b); !slices.Equal(got, want) {
		t.Errorf("%s: Differ(%s, %s): %s, want %s", why, briefTable(a), briefTable(b), briefChanges(got), briefChanges(want))
	}
}

func mustTell(t *testing.T, why string, e impl.Engine, want []impl.Entry, wantOk bool) {
	t.Helper()
	if got, ok := impl.TableOf(e); !sameTable(got, want) || ok != wantOk {
		t.Errorf("%s: TableOf: %s %v, want %s %v", why, briefTable(got), ok, briefTable(want), wantOk)
	}
}

func mustNotTell(t *testing.T, why string, e impl.Engine) {
	t.Helper()
	mustTell(t, why, e, nil, false)
}

func TestValueConstants(t *testing.T) {
	got := []int{impl.MaxItem, impl.MaxItems, impl.MaxTime, impl.MaxEntries, impl.KindText, impl.KindList, impl.KindFields, impl.KindSet}
	if !slices.Equal(got, []int{60, 24, 100000, 20, 1, 2, 3, 4}) {
		t.Errorf("constants: %v", got)
	}
}

type namedVal struct {
	why string
	v   impl.Val
}

func rightVals() []namedVal {
	full := someText(impl.MaxItem)
	return []namedVal{
		{"a text", textVal("x")},
		{"an empty text", textVal("")},
		{"a text with an empty list of items", impl.Val{Kind: impl.KindText, Text: "x", Items: []string{}}},
		{"a text of MaxItem - 1 bytes", textVal(full[1:])},
		{"a text of MaxItem bytes", textVal(full)},
		{"a text of a byte 0", textVal("\x00")},
		{"a text of MaxItem bytes in twenty letters", textVal(strings.Repeat("\u20ac", 20))},
		{"a text till a time", untilTime(textVal("x"), 3)},
		{"a text till 1", untilTime(textVal("x"), 1)},
		{"a text till 127", untilTime(textVal("x"), 127)},
		{"a text till 128", untilTime(textVal("x"), 128)},
		{"a text till MaxTime - 1", untilTime(textVal("x"), impl.MaxTime-1)},
		{"a text till MaxTime", untilTime(textVal("x"), impl.MaxTime)},
		{"a list of one", listVal("x")},
		{"a list of one empty item", listVal("")},
		{"a list of two that ascend", listVal("a", "b")},
		{"a list of two that are the same", listVal("a", "a")},
		{"a list of two that fall", listVal("b", "a")},
		{"a list of three, till a time", untilTime(listVal("b", "", "b"), 500)},
		{"a list of empty items", listVal("", "", "")},
		{"a list of an item of MaxItem bytes", listVal("a", full)},
		{"a list of MaxItems - 1 items", listVal(risingItems(impl.MaxItems - 1)...)},
		{"a list of MaxItems items", listVal(risingItems(impl.MaxItems)...)},
		{"a list of MaxItems items of MaxItem bytes, till MaxTime", untilTime(listVal(longItems(impl.MaxItems)...), impl.MaxTime)},
		{"fields of one", fieldsVal("f", "x")},
		{"a field that has nothing", fieldsVal("f", "")},
		{"an empty field", fieldsVal("", "x")},
		{"an empty field that has nothing", fieldsVal("", "")},
		{"fields that have the same", fieldsVal("a", "x", "b", "x")},
		{"fields that have what falls", fieldsVal("a", "z", "b", "y", "c", "x")},
		{"fields that have what rises", fieldsVal("a", "x", "b", "y", "c", "z")},
		{"fields that have themselves", fieldsVal("a", "a", "b", "b")},
		{"a field that has the next one", fieldsVal("a", "b", "b", "a")},
		{"fields till a time", untilTime(fieldsVal("a", "x", "b", ""), 70000)},
		{"a field of MaxItem bytes", fieldsVal("", "x", full, full)},
		{"what a field has is of MaxItem bytes", fieldsVal("a", full)},
		{"fields of MaxItems - 2 items", fieldsVal(risingItems(impl.MaxItems - 2)...)},
		{"fields of MaxItems items", fieldsVal(risingItems(impl.MaxItems)...)},
		{"fields of MaxItems items of MaxItem bytes", fieldsVal(longItems(impl.MaxItems)...)},
		{"fields of which one is the beginning of another", fieldsVal("a", "3", "a\x00", "2", "aa", "1")},
		{"a set of one", setVal("x")},
		{"a set of nothing but an empty item", setVal("")},
		{"a set of an empty item and others", setVal("", "\x00", "a")},
		{"a set of three, till a time", untilTime(setVal("a", "b", "c"), impl.MaxTime)},
		{"a set of which one is the beginning of another", setVal("a", "a\x00", "aa", "b")},
		{"a set by bytes, not letters", setVal("10", "9", "B", "a", "\u00e9", "\xff", "\xff\xff")},
		{"a set of MaxItems - 1 items", setVal(risingItems(impl.MaxItems - 1)...)},
		{"a set of MaxItems items", setVal(risingItems(impl.MaxItems)...)},
		{"a set of MaxItems items of MaxItem bytes", setVal(longItems(impl.MaxItems)...)},
		{"a text that is a value", textVal(valByHand(setVal("a", "b")))},
	}
}

// wrongVals have a text by hand, which nothing reads.
func wrongVals() []namedVal {
	long := someText(impl.MaxItem + 1)
	return []namedVal{
		{"nothing", impl.Val{}},
		{"a kind of 0 with a text", ofKind(textVal("x"), 0)},
		{"a kind of 0 with items", ofKind(setVal("a", "b"), 0)},
		{"a kind of 5 with a text", ofKind(textVal("x"), 5)},
		{"a kind of 5 with items", ofKind(setVal("a", "b"), 5)},
		{"a kind of 255", ofKind(setVal("a", "b"), 255)},
		{"a kind of a figure", ofKind(textVal("x"), '1')},
		{"a text till MaxTime + 1", untilTime(textVal("x"), impl.MaxTime+1)},
		{"a list till MaxTime + 1", untilTime(listVal("x"), impl.MaxTime+1)},
		{"fields till MaxTime + 1", untilTime(fieldsVal("f", "x"), impl.MaxTime+1)},
		{"a set till MaxTime + 1", untilTime(setVal("x"), impl.MaxTime+1)},
		{"till MaxNumber", untilTime(textVal("x"), impl.MaxNumber)},
		{"till MaxNumber + 1", untilTime(textVal("x"), impl.MaxNumber+1)},
		{"till 3 and 2 to the 32", untilTime(textVal("x"), 1<<32+3)},
		{"greatest time", untilTime(textVal("x"), math.MaxInt)},
		{"a text of MaxItem + 1 bytes", textVal(long)},
		{"a text of 61 bytes in few letters", textVal(strings.Repeat("\u20ac", 20) + "x")},
		{"a text far too long", textVal(someText(5000))},
		{"a text with an item", withItems(textVal("x"), "a")},
		{"a text with an empty item", withItems(textVal("x"), "")},
		{"an empty text with items", withItems(textVal(""), "a", "b")},
		{"a list with a text", withText(listVal("a"), "x")},
		{"fields with a text", withText(fieldsVal("f", "x"), "x")},
		{"a set with a text", withText(setVal("a"), "\x00")},
		{"a list with a text and no items", withText(listVal(), "x")},
		{"fields with a text and no items", withText(fieldsVal(), "x")},
		{"a set with a text and no items", withText(setVal(), "x")},
		{"a list of none", listVal()},
		{"an empty list of items", impl.Val{Kind: impl.KindList, Items: []string{}}},
		{"fields of none", fieldsVal()},
		{"a set of none", setVal()},
		{"a list of MaxItems + 1 items", listVal(risingItems(impl.MaxItems + 1)...)},
		{"fields of MaxItems + 1 items", fieldsVal(risingItems(impl.MaxItems + 1)...)},
		{"fields of MaxItems + 2 items", fieldsVal(risingItems(impl.MaxItems + 2)...)},
		{"a set of MaxItems + 1 items", setVal(risingItems(impl.MaxItems + 1)...)},
		{"a list of 1000 items", listVal(risingItems(1000)...)},
		{"fields of 1000 items", fieldsVal(risingItems(1000)...)},
		{"a list of an item of MaxItem + 1 bytes", listVal(long)},
		{"a list of an item of MaxItem + 1 bytes at its end", listVal("a", "b", long)},
		{"a field of MaxItem + 1 bytes", fieldsVal(long, "x")},
		{"what a field has is of MaxItem + 1 bytes", fieldsVal("a", long)},
		{"a set of an item of MaxItem + 1 bytes", setVal("", long)},
		{"fields of one item", fieldsVal("f")},
		{"fields of three items", fieldsVal("a", "x", "b")},
		{"fields of MaxItems - 1 items", fieldsVal(risingItems(impl.MaxItems - 1)...)},
		{"fields that are the same", fieldsVal("a", "x", "a", "y")},
		{"fields that are the same and have the same", fieldsVal("a", "x", "a", "x")},
		{"fields that are the same at the end", fieldsVal("a", "x", "b", "y", "b", "z")},
		{"fields that are the same, not side by side", fieldsVal("a", "x", "b", "y", "a", "z")},
		{"empty fields that are the same", fieldsVal("", "x", "", "y")},
		{"fields that fall", fieldsVal("b", "x", "a", "y")},
		{"fields that fall at the end", fieldsVal("a", "x", "c", "y", "b", "z")},
		{"fields that fall, and what they have rises", fieldsVal("b", "1", "a", "2")},
		{"a beginning of a field behind it", fieldsVal("aa", "x", "a", "y")},
		{"fields behind what they have", fieldsVal("x", "a", "x", "b")},
		{"a set of items that are the same", setVal("a", "a")},
		{"a set of empty items", setVal("", "")},
		{"a set of items that are the same at the end", setVal("a", "b", "b")},
		{"a set of items that fall", setVal("b", "a")},
		{"a set of items that fall at the end", setVal("a", "c", "b")},
		{"a set with an empty item behind", setVal("a", "")},
		{"a set with a beginning behind", setVal("aa", "a")},
		{"a set by numbers", setVal("9", "10")},
		{"a set by letters", setVal("a", "B")},
	}
}

// untoldVals have a Kind or an Until that no text can tell.
func untoldVals() []namedVal {
	var list []namedVal
	for _, kind := range []int{-1, -2, -255, -252, 256, 257, 258, 259, 260, 1<<32 + 1, 1<<32 + 4, math.MinInt, math.MaxInt} {
		list = append(list, namedVal{"a text of kind " + strconv.Itoa(kind), ofKind(textVal("x"), kind)})
		list = append(list, namedVal{"a set of kind " + strconv.Itoa(kind), ofKind(setVal("a", "b"), kind)})
	}
	for _, time := range []int{-1, -2, -128, -100000, math.MinInt} {
		list = append(list, namedVal{"a text till " + strconv.Itoa(time), untilTime(textVal("x"), time)})
		list = append(list, namedVal{"a list till " + strconv.Itoa(time), untilTime(listVal("x"), time)})
	}
	return list
}

func TestValOk(t *testing.T) {
	for _, c := range rightVals() {
		if !impl.ValOk(c.v) || !rightValByHand(c.v) {
			t.Errorf("%s: not right", c.why)
		}
	}
	for _, c := range slices.Concat(wrongVals(), untoldVals()) {
		if impl.ValOk(c.v) || rightValByHand(c.v) {
			t.Errorf("%s: right", c.why)
		}
	}
}

// Each kind keeps to its own rule alone: the same items, asked of all of them.
func TestKindsAreToldApart(t *testing.T) {
	for _, c := range []struct {
		items []string
		kinds []int
	}{
		{nil, []int{1}},
		{[]string{"a"}, []int{2, 4}},
		{[]string{"a", "b"}, []int{2, 3, 4}},
		{[]string{"b", "a"}, []int{2, 3}},
		{[]string{"a", "a"}, []int{2, 3}},
		{[]string{"a", "b", "c"}, []int{2, 4}},
		{[]string{"a", "c", "b"}, []int{2}},
		{[]string{"a", "c", "b", "d"}, []int{2, 3}},
		{[]string{"a", "b", "c", "d"}, []int{2, 3, 4}},
		{[]string{"b", "c", "a", "d"}, []int{2}},
		{[]string{"a", "b", "a", "b"}, []int{2}},
		{[]string{"b", "a", "c", "a"}, []int{2, 3}},
	} {
		for kind := -1; kind < 7; kind++ {
			v := impl.Val{Kind: kind, Items: c.items}
			if got := impl.ValOk(v); got != slices.Contains(c.kinds, kind) {
				t.Errorf("%s: right %v", briefVal(v), got)
			}
		}
	}
}

func TestTimesOfValues(t *testing.T) {
	for _, v := range []impl.Val{textVal("x"), listVal("x"), fieldsVal("f", "x"), setVal("x")} {
		for _, time := range []int{0, 1, 2, 127, 128, 16383, 16384, impl.MaxTime - 1, impl.MaxTime} {
			if v := untilTime(v, time); !impl.ValOk(v) {
				t.Errorf("%s: not right", briefVal(v))
			} else {
				mustReadVal(t, "a time", valByHand(v), v, true)
			}
		}
		for _, time := range []int{math.MinInt, -impl.MaxTime, -1, impl.MaxTime + 1, impl.MaxTime + 2, 1 << 32, math.MaxInt} {
			if v := untilTime(v, time); impl.ValOk(v) {
				t.Errorf("%s: right", briefVal(v))
			}
		}
	}
}

type namedTable struct {
	why   string
	table []impl.Entry
}

func rightTables() []namedTable {
	k20 := strings.Repeat("k", impl.MaxKey)
	all := manyEntries(impl.MaxEntries)
	list := []namedTable{
		{"nothing", nil},
		{"an empty table", []impl.Entry{}},
		{"one entry", oneEntry("a", textVal("x"))},
		{"one of each kind", entries(entry("a", textVal("x")), entry("b", listVal("y", "x")), entry("c", fieldsVal("f", "x")), entry("d", setVal("x", "y")))},
		{"one of each kind, till a time", entries(entry("a", untilTime(textVal("x"), 1)), entry("b", untilTime(listVal("y", "x"), 2)), entry("c", untilTime(fieldsVal("f", "x"), 3)), entry("d", untilTime(setVal("x", "y"), 4)))},
		{"the same value under all keys", entries(entry("a", setVal("x")), entry("b", setVal("x")), entry("c", setVal("x")))},
		{"keys of 1 and MaxKey bytes", entries(entry("k", textVal("")), entry(k20, textVal("")))},
		{"a key of MaxKey - 1 bytes", oneEntry(k20[1:], textVal("x"))},
		{"keys of which one is the beginning of another", entries(entry("a", textVal("")), entry("a\x00", textVal("")), entry("aa", textVal("")), entry("b", textVal("")))},
		{"keys by bytes, not letters", entries(entry("\x00", textVal("")), entry("10", textVal("")), entry("9", textVal("")), entry("B", textVal("")), entry("a", textVal("")), entry("\xff", textVal("")))},
		{"MaxEntries - 1 entries", all[1:]},
		{"MaxEntries entries", all},
	}
	var long []impl.Entry
	for n, c := range rightVals() {
		list = append(list, namedTable{c.why, oneEntry("a", c.v)})
		if n < impl.MaxEntries {
			long = append(long, entry(fmt.Sprintf("k%02d", n), c.v))
		}
	}
	return append(list, namedTable{"values of many kinds", long})
}

func wrongTables() []namedTable {
	k21 := strings.Repeat("k", impl.MaxKey+1)
	x := textVal("x")
	list := []namedTable{
		{"MaxEntries + 1 entries", manyEntries(impl.MaxEntries + 1)},
		{"far more entries", manyEntries(500)},
		{"no key", oneEntry("", x)},
		{"no key ahead of others", entries(entry("", x), entry("a", x))},
		{"a key of MaxKey + 1 bytes", oneEntry(k21, x)},
		{"a key of MaxKey + 1 bytes behind others", entries(entry("a", x), entry(k21, x))},
		{"a key of 21 bytes in seven letters", oneEntry(strings.Repeat("\u20ac", 7), x)},
		{"the same key twice", entries(entry("a", x), entry("a", textVal("y")))},
		{"the same entry twice", entries(entry("a", x), entry("a", x))},
		{"the same key twice at the end", entries(entry("a", x), entry("b", x), entry("b", x))},
		{"the same key twice, not side by side", entries(entry("a", x), entry("b", x), entry("a", x))},
		{"the same key of MaxKey bytes twice", entries(entry(k21[1:], x), entry(k21[1:], x))},
		{"keys that fall", entries(entry("b", x), entry("a", x))},
		{"keys that fall at the end", entries(entry("a", x), entry("c", x), entry("b", x))},
		{"a beginning behind", entries(entry("aa", x), entry("a", x))},
		{"keys by numbers", entries(entry("9", x), entry("10", x))},
		{"small letters ahead", entries(entry("a", x), entry("B", x))},
	}
	for _, c := range slices.Concat(wrongVals(), untoldVals()) {
		list = append(list,
			namedTable{c.why + ", alone", oneEntry("a", c.v)},
			namedTable{c.why + ", ahead", entries(entry("a", c.v), entry("b", x))},
			namedTable{c.why + ", behind", entries(entry("a", x), entry("b", x), entry("c", c.v))},
		)
	}
	return list
}

func TestTableOk(t *testing.T) {
	for _, c := range rightTables() {
		if !impl.TableOk(c.table) || !rightTableByHand(c.table) {
			t.Errorf("%s: not right", c.why)
		}
	}
	for _, c := range wrongTables() {
		if impl.TableOk(c.table) || rightTableByHand(c.table) {
			t.Errorf("%s: right", c.why)
		}
	}
	for count := range impl.MaxEntries + 5 {
		if got := impl.TableOk(manyEntries(count)); got != (count <= 20) {
			t.Errorf("%d entries: right %v", count, got)
		}
	}
}

func TestValText(t *testing.T) {
	for _, c := range []struct {
		v    impl.Val
		text string
	}{
		{textVal(""), "\x01\x00\x00\x00"},
		{untilTime(textVal("x"), 3), "\x01\x03\x01x\x00"},
		{untilTime(textVal("text"), 300), "\x01\xac\x02\x04text\x00"},
		{untilTime(textVal(""), impl.MaxTime), "\x01\xa0\x8d\x06\x00\x00"},
		{listVal("b", "", "ab"), "\x02\x00\x00\x03\x01b\x00\x02ab"},
		{untilTime(listVal(""), 127), "\x02\x7f\x00\x01\x00"},
		{fieldsVal("f", "x", "g", ""), "\x03\x00\x00\x04\x01f\x01x\x01g\x00"},
		{untilTime(setVal("", "a", "b"), 128), "\x04\x80\x01\x00\x03\x00\x01a\x01b"},
		{setVal("\x00", "\x04"), "\x04\x00\x00\x02\x01\x00\x01\x04"},
	} {
		if text, ok := impl.ValText(c.v); text != c.text || !ok {
			t.Errorf("ValText(%s): %q %v, want %q", briefVal(c.v), text, ok, c.text)
		}
		mustReadVal(t, "written out", c.text, c.v, true)
	}
}

func TestValuesComeBack(t *testing.T) {
	longest := 0
	for _, c := range rightVals() {
		text, ok := impl.ValText(c.v)
		if text != valByHand(c.v) || !ok {
			t.Errorf("%s: ValText: %.40q of %d bytes, %v", c.why, text, len(text), ok)
		}
		longest = max(longest, len(text))
		mustReadVal(t, c.why, valByHand(c.v), c.v, true)
		mustReadValPlainly(t, c.why, valByHand(c.v))
	}
	if longest > impl.MaxValue {
		t.Errorf("a value of %d bytes stands under no key", longest)
	}
	for length := range impl.MaxItem + 1 {
		for _, v := range []impl.Val{textVal(someText(length)), listVal(someText(length), "x"), fieldsVal("f", someText(length)), setVal(someText(length))} {
			text, ok := impl.ValText(v)
			if !ok {
				t.Errorf("ValText(%s) is refused", briefVal(v))
			}
			mustReadVal(t, "lengths", text, v, true)
		}
	}
	for count := 1; count <= impl.MaxItems; count++ {
		for _, v := range []impl.Val{listVal(risingItems(count)...), fieldsVal(risingItems(count)...), setVal(risingItems(count)...)} {
			text, ok := impl.ValText(v)
			if wantOk := v.Kind != impl.KindFields || count%2 == 0; ok != wantOk {
				t.Errorf("ValText(%s): %v", briefVal(v), ok)
			}
			if ok {
				mustReadVal(t, "counts", text, v, true)
			}
		}
	}
}

func TestValuesThatAreNotRight(t *testing.T) {
	for _, c := range slices.Concat(wrongVals(), untoldVals()) {
		if text, ok := impl.ValText(c.v); text != "" || ok {
			t.Errorf("%s: ValText: %.40q of %d bytes, %v", c.why, text, len(text), ok)
		}
	}
	for _, c := range wrongVals() {
		mustNotReadVal(t, c.why, valByHand(c.v))
	}
}

func TestReadValOfWrongTexts(t *testing.T) {
	for _, c := range []struct{ why, text string }{
		{"nothing", ""},
		{"a kind alone", "\x01"},
		{"no text", "\x01\x00"},
		{"no count", "\x01\x00\x00"},
		{"a kind in figures", "1\x00\x00\x00"},
		{"no kind", "\x00\x01x\x00"},
		{"a kind in two bytes", "\x81\x00\x00\x01x\x00"},
		{"a kind twice", "\x01\x01\x03\x01x\x00"},
		{"the time behind the text", "\x01\x01x\x03\x00"},
		{"the count ahead of the text", "\x01\x03\x00\x01x"},
		{"no count behind a text", "\x01\x03\x01x"},
		{"no text ahead of the items", "\x02\x00\x02\x01a\x01b"},
		{"a count of 0 of a list", "\x02\x00\x00\x00"},
		{"a count of 0 of a list, an item behind it", "\x02\x00\x00\x00\x01a"},
		{"one item more than are counted", "\x02\x00\x00\x01\x01a\x01b"},
		{"one item less than are counted", "\x02\x00\x00\x03\x01a\x01b"},
		{"an empty item less than are counted", "\x02\x00\x00\x02\x01a"},
		{"a count of 127", "\x02\x00\x00\x7f\x01a\x01b"},
		{"a count of MaxNumber", "\x02\x00\x00" + varByHand(impl.MaxNumber) + "\x01a\x01b"},
		{"a count of MaxNumber + 1", "\x02\x00\x00" + varByHand(impl.MaxNumber+1) + "\x01a\x01b"},
		{"a count of 2 and 2 to the 32", "\x02\x00\x00" + varByHand(1<<32+2) + "\x01a\x01b"},
		{"a count that wraps round to 2", "\x02\x00\x00\x82\x80\x80\x80\x80\x80\x80\x80\x80\x02\x01a\x01b"},
		{"a time that wraps round to 3", "\x01\x83\x80\x80\x80\x80\x80\x80\x80\x80\x02\x01x\x00"},
		{"a length of a text that is one more", "\x01\x00\x02x\x00"},
		{"a length of a text that is one less", "\x01\x00\x00x\x00"},
		{"a length of a text of MaxNumber", "\x01\x00" + varByHand(impl.MaxNumber) + "x\x00"},
		{"a length of a text that wraps round", "\x01\x00\x81\x80\x80\x80\x80\x80\x80\x80\x80\x02x\x00"},
		{"a length of an item that is one more", "\x02\x00\x00\x01\x02a"},
		{"a length of an item of MaxNumber + 1", "\x02\x00\x00\x01" + varByHand(impl.MaxNumber+1) + "a"},
		{"an item behind a text", "\x01\x00\x01x\x01\x01a"},
		{"a text ahead of items", "\x02\x00\x01x\x01\x01a"},
		{"two values", "\x01\x00\x01x\x00\x01\x00\x01y\x00"},
		{"in a frame", frameByHand("\x01\x00\x01x\x00")},
		{"sealed", sealedByHand("\x01\x00\x01x\x00")},
		{"as a short text", shortByHand("\x01\x00\x01x\x00")},
		{"a batch", batchByHand(batchOf(3, put("a", "x")))},
		{"words", "SET a x"},
		{"far too long", "\x01\x00" + shortByHand(someText(impl.MaxText)) + "\x00"},
		{"longer than a text may be", "\x01\x00" + shortByHand(someText(impl.MaxText+1)) + "\x00"},
		{"a count of all", "\x02\x00\x00" + varByHand(30000) + strings.Repeat("\x00", 30000)},
		{"noughts", strings.Repeat("\x00", 50000)},
		{"ones", strings.Repeat("\x01", 50000)},
	} {
		mustNotReadVal(t, c.why, c.text)
	}
	mustReadVal(t, "two items that are counted", "\x02\x00\x00\x02\x01a\x01b", listVal("a", "b"), true)
}

func TestFirstBytesOfValues(t *testing.T) {
	for b := range 256 {
		kind := string([]byte{byte(b)})
		if b == impl.KindText {
			mustReadVal(t, "the byte of a text", kind+"\x03\x01x\x00", untilTime(textVal("x"), 3), true)
		} else {
			mustNotReadVal(t, "another kind with a text", kind+"\x03\x01x\x00")
		}
		if b >= 2 && b <= 4 {
			mustReadVal(t, "a byte of items", kind+"\x03\x00\x02\x01a\x01b", untilTime(ofKind(setVal("a", "b"), b), 3), true)
		} else {
			mustNotReadVal(t, "another kind with items", kind+"\x03\x00\x02\x01a\x01b")
		}
	}
}

func TestCountsOfItems(t *testing.T) {
	for count := range impl.MaxItems + 3 {
		items := ""
		for _, item := range risingItems(count) {
			items += shortByHand(item)
		}
		for told := range impl.MaxItems + 5 {
			text := "\x04\x00\x00" + varByHand(told) + items
			if told == count && count >= 1 && count <= impl.MaxItems {
				mustReadVal(t, "as many as are counted", text, setVal(risingItems(count)...), true)
				continue
			}
			mustNotReadVal(t, strconv.Itoa(count)+" items, of which "+strconv.Itoa(told)+" are counted", text)
		}
	}
}

func TestNumbersOfValuesInLongerForms(t *testing.T) {
	mustReadVal(t, "short forms of a text", "\x01\x03\x01x\x00", untilTime(textVal("x"), 3), true)
	mustReadVal(t, "short forms of a list", "\x02\x03\x00\x01\x01x", untilTime(listVal("x"), 3), true)
	for place := range 9 {
		mustNotReadVal(t, "a longer time", "\x01"+longerForms(3)[place]+"\x01x\x00")
		mustNotReadVal(t, "a longer time of 0", "\x01"+longerForms(0)[place]+"\x01x\x00")
		mustNotReadVal(t, "a longer time of 128", "\x01"+longerForms(128)[place]+"\x01x\x00")
		mustNotReadVal(t, "a longer time of MaxTime", "\x01"+longerForms(impl.MaxTime)[place]+"\x01x\x00")
		mustNotReadVal(t, "a longer length of a text", "\x01\x03"+longerForms(1)[place]+"x\x00")
		mustNotReadVal(t, "a longer length of no text", "\x01\x03"+longerForms(0)[place]+"\x00")
		mustNotReadVal(t, "a longer count of none", "\x01\x03\x01x"+longerForms(0)[place])
		mustNotReadVal(t, "a longer length of no text ahead of items", "\x02\x03"+longerForms(0)[place]+"\x01\x01x")
		mustNotReadVal(t, "a longer count", "\x02\x03\x00"+longerForms(1)[place]+"\x01x")
		mustNotReadVal(t, "a longer length of an item", "\x02\x03\x00\x01"+longerForms(1)[place]+"x")
		mustNotReadVal(t, "a longer length of an empty item", "\x02\x03\x00\x01"+longerForms(0)[place])
	}
}

func TestValuesThatAreCut(t *testing.T) {
	for _, c := range slices.Concat(rightVals(), wrongVals()) {
		text := valByHand(c.v)
		for cut := range len(text) {
			mustNotReadVal(t, c.why+", cut", text[:cut])
		}
	}
}

func TestBytesBehindAValue(t *testing.T) {
	for _, c := range rightVals() {
		text := valByHand(c.v)
		for b := range 256 {
			mustNotReadVal(t, c.why+", a byte behind", text+string([]byte{byte(b)}))
			mustReadValPlainly(t, c.why+", a byte ahead", string([]byte{byte(b)})+text)
		}
		for _, more := range []string{"\x00\x00", "\r\n", text, "\x01\xff", someText(300), someText(30000)} {
			mustNotReadVal(t, c.why+", bytes behind", text+more)
		}
	}
}

// Where one byte is another, one more or one less, there is just the value that the document's words find.
func TestOneByteOfAValueThatIsAnother(t *testing.T) {
	read := 0
	for _, c := range rightVals() {
		text := valByHand(c.v)
		for at := range len(text) {
			if at > 80 && at < len(text)-20 && at%61 > 1 {
				continue
			}
			mustReadValPlainly(t, c.why+", one byte less", text[:at]+text[at+1:])
			for turn := 1; turn < 256; turn++ {
				if mustReadValPlainly(t, c.why+", one byte turned", turnByte(text, at, byte(turn))) {
					read++
				}
			}
			for b := range 6 {
				mustReadValPlainly(t, c.why+", one byte more", text[:at]+string([]byte{byte(b * 51)})+text[at:])
			}
		}
	}
	if read < 1000 {
		t.Errorf("only %d of these are values", read)
	}
}

// Of all texts of these few bytes just those are read that a right value has.
func TestAllShortValues(t *testing.T) {
	const bytes = "\x00\x01\x02\x03\x04\x80a"
	read := map[int]int{}
	var goOn func(text string, more int)
	goOn = func(text string, more int) {
		want, ok := plainReadVal(text)
		mustReadVal(t, "a short text", text, want, ok)
		if ok {
			read[want.Kind]++
		}
		for at := range len(bytes) {
			if more > 0 {
				goOn(text+bytes[at:at+1], more-1)
			}
		}
	}
	goOn("", 7)
	if len(read) != 4 || min(read[1], read[2], read[3], read[4]) < 50 {
		t.Errorf("only so many of each kind are values: %v", read)
	}
}

func TestFind(t *testing.T) {
	for _, c := range rightTables() {
		for _, e := range c.table {
			mustFind(t, c.why, c.table, e.Key, e.Val, true)
		}
		for _, key := range []string{"", "none", "A", "a ", "\x00\x00", "k0", someText(300)} {
			mustNotFind(t, c.why, c.table, key)
		}
	}
}

// Find asks for no right table: what stands under a key is told as it stands there, of several the first one.
func TestFindInTablesThatAreNotRight(t *testing.T) {
	for _, c := range wrongTables() {
		for _, e := range c.table {
			first := slices.IndexFunc(c.table, func(other impl.Entry) bool { return other.Key == e.Key })
			mustFind(t, c.why, c.table, e.Key, c.table[first].Val, true)
		}
		mustNotFind(t, c.why, c.table, "none")
	}
	odd := impl.Val{Kind: 9, Until: -3, Text: "x", Items: []string{"b", "a", "a"}}
	mustFind(t, "a value that is not right", entries(entry("a", odd), entry("a", textVal("x"))), "a", odd, true)
	mustFind(t, "behind one that falls", entries(entry("b", textVal("x")), entry("a", odd)), "a", odd, true)
	mustFind(t, "no key", oneEntry("", odd), "", odd, true)
	mustFind(t, "behind MaxEntries", manyEntries(100), "i099", untilTime(textVal("99"), 99), true)
}

func TestLive(t *testing.T) {
	good, five, most := entry("a", textVal("x")), entry("b", untilTime(listVal("y", "x"), 5)), entry("c", untilTime(setVal("x"), impl.MaxTime))
	table := entries(good, five, most)
	for _, c := range []struct {
		now  int
		want []impl.Entry
	}{
		{math.MinInt, table},
		{-impl.MaxTime, table},
		{-5, table},
		{-1, table},
		{0, table},
		{1, table},
		{4, table},
		{5, entries(good, most)},
		{6, entries(good, most)},
		{impl.MaxTime - 1, entries(good, most)},
		{impl.MaxTime, entries(good)},
		{impl.MaxTime + 1, entries(good)},
		{math.MaxInt, entries(good)},
	} {
		mustBeLive(t, "three times", table, c.now, c.want)
		mustBeLive(t, "nothing", nil, c.now, nil)
		mustBeLive(t, "one for good", entries(good), c.now, entries(good))
	}
	for _, c := range rightVals() {
		if c.v.Until == 0 {
			mustBeLive(t, c.why, oneEntry("a", c.v), math.MaxInt, oneEntry("a", c.v))
			continue
		}
		mustBeLive(t, c.why, oneEntry("a", c.v), c.v.Until-1, oneEntry("a", c.v))
		mustBeLive(t, c.why, oneEntry("a", c.v), c.v.Until, nil)
		mustBeLive(t, c.why, oneEntry("a", c.v), c.v.Until+1, nil)
	}
	all := manyEntries(impl.MaxEntries)
	for now := range impl.MaxEntries + 2 {
		mustBeLive(t, "one time behind the other", all, now, slices.Concat(all[:1], all[min(now+1, len(all)):]))
	}
}

// Live asks for no right table: it tells by Until alone, in the order in which the entries stand.
func TestLiveInTablesThatAreNotRight(t *testing.T) {
	for _, c := range slices.Concat(rightTables(), wrongTables()) {
		for _, now := range []int{math.MinInt, -129, -128, -3, -1, 0, 1, 2, 3, 4, 126, 127, 128, 99999, 100000, 100001, math.MaxInt} {
			var want []impl.Entry
			for _, e := range c.table {
				if e.Val.Until == 0 || now < e.Val.Until {
					want = append(want, e)
				}
			}
			mustBeLive(t, c.why, c.table, now, want)
		}
	}
	low := oneEntry("a", untilTime(textVal("x"), -5))
	mustBeLive(t, "till -5", low, -6, low)
	mustBeLive(t, "till -5", low, -5, nil)
	mustBeLive(t, "till -5", low, 0, nil)
}

func TestDiffer(t *testing.T) {
	x, y := textVal("x"), textVal("y")
	xText, yText := "\x01\x00\x01x\x00", "\x01\x00\x01y\x00"
	for _, c := range []struct {
		why  string
		a, b []impl.Entry
		want []impl.Change
	}{
		{"nothing in both", nil, nil, nil},
		{"nothing in both, once as an empty list", nil, []impl.Entry{}, nil},
		{"the same in both", oneEntry("a", x), oneEntry("a", x), nil},
		{"a key that b alone has", nil, oneEntry("a", x), []impl.Change{put("a", xText)}},
		{"a key that a alone has", oneEntry("a", x), nil, []impl.Change{gone("a")}},
		{"another value", oneEntry("a", x), oneEntry("a", y), []impl.Change{put("a", yText)}},
		{"another key", oneEntry("a", x), oneEntry("b", x), []impl.Change{gone("a"), put("b", xText)}},
		{"another key ahead", oneEntry("b", x), oneEntry("a", x), []impl.Change{put("a", xText), gone("b")}},
		{"another time", oneEntry("a", x), oneEntry("a", untilTime(x, 3)), []impl.Change{put("a", "\x01\x03\x01x\x00")}},
		{"for good", oneEntry("a", untilTime(x, 3)), oneEntry("a", x), []impl.Change{put("a", xText)}},
		{"another kind", oneEntry("a", listVal("x", "y")), oneEntry("a", setVal("x", "y")), []impl.Change{put("a", "\x04\x00\x00\x02\x01x\x01y")}},
		{"another kind, back", oneEntry("a", setVal("x", "y")), oneEntry("a", fieldsVal("x", "y")), []impl.Change{put("a", "\x03\x00\x00\x02\x01x\x01y")}},
		{"a text, and a list of it", oneEntry("a", x), oneEntry("a", listVal("x")), []impl.Change{put("a", "\x02\x00\x00\x01\x01x")}},
		{"an empty text", oneEntry("a", x), oneEntry("a", textVal("")), []impl.Change{put("a", "\x01\x00\x00\x00")}},
		{"an item more", oneEntry("a", listVal("x")), oneEntry("a", listVal("x", "y")), []impl.Change{put("a", "\x02\x00\x00\x02\x01x\x01y")}},
		{"an empty item more", oneEntry("a", listVal("x")), oneEntry("a", listVal("x", "")), []impl.Change{put("a", "\x02\x00\x00\x02\x01x\x00")}},
		{"an item less", oneEntry("a", listVal("x", "y")), oneEntry("a", listVal("x")), []impl.Change{put("a", "\x02\x00\x00\x01\x01x")}},
		{"items in another order", oneEntry("a", listVal("x", "y")), oneEntry("a", listVal("y", "x")), []impl.Change{put("a", "\x02\x00\x00\x02\x01y\x01x")}},
		{"items cut at other places", oneEntry("a", listVal("xy", "z")), oneEntry("a", listVal("x", "yz")), []impl.Change{put("a", "\x02\x00\x00\x02\x01x\x02yz")}},
		{"a field that has something else", oneEntry("a", fieldsVal("f", "x")), oneEntry("a", fieldsVal("f", "y")), []impl.Change{put("a", "\x03\x00\x00\x02\x01f\x01y")}},
		{"one of three", entries(entry("a", x), entry("b", x), entry("c", x)), entries(entry("a", x), entry("b", y), entry("c", x)), []impl.Change{put("b", yText)}},
		{"one less of three", entries(entry("a", x), entry("b", x), entry("c", x)), entries(entry("a", x), entry("c", x)), []impl.Change{gone("b")}},
		{"one more, between", entries(entry("a", x), entry("c", x)), entries(entry("a", x), entry("b", y), entry("c", x)), []impl.Change{put("b", yText)}},
		{"values that change their places", entries(entry("a", x), entry("b", y)), entries(entry("a", y), entry("b", x)), []impl.Change{put("a", yText), put("b", xText)}},
		{"all at once", entries(entry("a", x), entry("b", x), entry("d", x), entry("e", x)), entries(entry("b", y), entry("c", x), entry("d", x), entry("f", y)),
			[]impl.Change{gone("a"), put("b", yText), put("c", xText), gone("e"), put("f", yText)}},
		{"a beginning is less", oneEntry("aa", x), entries(entry("a", x), entry("a\x00", x), entry("b", y)), []impl.Change{put("a", xText), put("a\x00", xText), gone("aa"), put("b", yText)}},
	} {
		mustDiffer(t, c.why, c.a, c.b, c.want)
		if want := plainDiffer(c.a, c.b); !slices.Equal(want, c.want) {
			t.Errorf("%s: by the words %s", c.why, briefChanges(want))
		}
	}
}

func TestDifferOfTables(t *testing.T) {
	for _, a := range rightTables() {
		mustDiffer(t, a.why+", and itself", a.table, a.table, nil)
		mustDiffer(t, a.why+", and a copy", a.table, copyTable(a.table), nil)
		for _, b := range rightTables() {
			mustDiffer(t, a.why+", and "+b.why, a.table, b.table, plainDiffer(a.table, b.table))
		}
	}
}

func TestDifferOfTablesThatAreNotRight(t *testing.T) {
	right := entries(entry("a", textVal("y")), entry("z", setVal("a")))
	for _, c := range wrongTables() {
		mustDiffer(t, c.why+", first", c.table, right, nil)
		mustDiffer(t, c.why+", first, and nothing", c.table, nil, nil)
		mustDiffer(t, c.why+", second", right, c.table, nil)
		mustDiffer(t, c.why+", behind nothing", nil, c.table, nil)
		mustDiffer(t, c.why+", twice", c.table, c.table, nil)
	}
}

// holding is an engine into which a table was put, entry by entry, so that no batch is too long.
func holding(t *testing.T, table []impl.Entry) impl.Engine {
	t.Helper()
	e := formatted(t, impl.MaxRoom)
	for _, own := range table {
		next, _, code := impl.PutBatch(e, []impl.Change{put(own.Key, valByHand(own.Val))})
		if code != 0 {
			t.Fatalf("%s is not put: code %d", briefTable(entries(own)), code)
		}
		e = next
	}
	return e
}

// mustMakeTheOther puts what differs into an engine that has the one table, and asks it for the other one; the power that goes within the acts leaves one of both, and a merge changes nothing.
func mustMakeTheOther(t *testing.T, why string, e impl.Engine, a, b []impl.Entry) impl.Engine {
	t.Helper()
	mustTell(t, why+", ahead", e, a, true)
	changes := impl.Differ(a, b)
	if len(changes) == 0 {
		if !sameTable(a, b) {
			t.Errorf("%s: nothing differs in %s and %s", why, briefTable(a), briefTable(b))
		}
		return e
	}
	next, acts, code := impl.PutBatch(e, changes)
	if code != 0 {
		t.Fatalf("%s: %s is not put: code %d", why, briefChanges(changes), code)
	}
	mustTell(t, why+", behind", next, b, true)
	for whole := range len(acts) + 1 {
		for _, left := range [][]int{nil, slices.Repeat([]int{100}, impl.MaxFiles), slices.Repeat([]int{math.MaxInt}, impl.MaxFiles)} {
			back, ok := impl.Behind(e, acts, whole, left)
			if !ok {
				t.Fatalf("%s: nothing is left behind %d acts", why, whole)
			}
			if got, ok := impl.TableOf(back); !ok || !sameTable(got, a) && !sameTable(got, b) || whole == len(acts) && !sameTable(got, b) {
				t.Errorf("%s: behind %d acts, left %v: %s %v", why, whole, left, briefTable(got), ok)
			}
		}
	}
	if merged, _, ok := impl.Merge(next); ok {
		mustTell(t, why+", merged", merged, b, true)
	}
	return next
}

func TestWhatDiffersMakesOneTableOfTheOther(t *testing.T) {
	tables := rightTables()
	for _, a := range tables {
		e := holding(t, a.table)
		for _, b := range tables[:12] {
			mustMakeTheOther(t, a.why+", and "+b.why, e, a.table, b.table)
			mustMakeTheOther(t, b.why+", and "+a.why, holding(t, b.table), b.table, a.table)
		}
	}
}

// Two tables of MaxEntries entries that have no key in common differ in just as many changes as a batch may have.
func TestTablesThatDifferInAllKeys(t *testing.T) {
	var a, b []impl.Entry
	for n := range impl.MaxEntries {
		a = append(a, entry(fmt.Sprintf("k%02d", 2*n), textVal("x")))
		b = append(b, entry(fmt.Sprintf("k%02d", 2*n+1), listVal("y", "x")))
	}
	changes := impl.Differ(a, b)
	if len(changes) != impl.MaxChanges || !slices.Equal(changes, plainDiffer(a, b)) {
		t.Errorf("%s", briefChanges(changes))
	}
	mustMakeTheOther(t, "all keys", holding(t, a), a, b)
	mustMakeTheOther(t, "all keys, back", holding(t, b), b, a)
}

// Differ has no look at how long a batch may be: what it tells of the longest tables is right, change by change, and is put so.
func TestTablesThatAreTooLongForOneBatch(t *testing.T) {
	var long []impl.Entry
	for n := range impl.MaxEntries {
		long = append(long, entry(fmt.Sprintf("k%02d", n), listVal(longItems(impl.MaxItems)...)))
	}
	changes := impl.Differ(nil, long)
	if !impl.TableOk(long) || !slices.Equal(changes, plainDiffer(nil, long)) || !impl.BatchOk(batchOf(1, changes...)) {
		t.Errorf("%s", briefChanges(changes))
	}
	mustNotPut(t, "longer than MaxRecord", formatted(t, impl.MaxRoom), changes, 1)
	e := formatted(t, impl.MaxRoom)
	for n, change := range changes[:12] {
		next, _, code := impl.PutBatch(e, []impl.Change{change})
		if code != 0 {
			t.Fatalf("entry %d: code %d", n, code)
		}
		e = next
		mustTell(t, "one behind the other", e, long[:n+1], true)
	}
}

func TestTableOf(t *testing.T) {
	mustTell(t, "formatted", formatted(t, 100), nil, true)
	for _, c := range rightTables() {
		mustTell(t, c.why, holding(t, c.table), c.table, true)
	}
	text := valByHand(untilTime(setVal("a", "b"), 7))
	d := sortedDisk(
		segWith(2, 2, batchOf(3, put("a", "no value"), put("b", text)), batchOf(5, gone("a"), put("c", "\x01\x00\x01x\x00"))),
		segWith(3, 2, batchOf(7, put("d", "\x02\x00\x00\x01\x00"), put("e", "")), batchOf(8, gone("e"))),
		file("z", "other"),
	)
	want := entries(entry("b", untilTime(setVal("a", "b"), 7)), entry("c", textVal("x")), entry("d", listVal("")))
	mustTell(t, "what is no value counts no more", opened(t, d, 500), want, true)
	gones := opened(t, sortedDisk(segWith(0, 0, batchOf(1, put("a", "no value")), batchOf(2, gone("a")))), 500)
	mustTell(t, "all are gone", gones, nil, true)
}

func TestTableOfEnginesThatAreNotRight(t *testing.T) {
	e := holding(t, manyEntries(3))
	e, _, code := impl.PutBatch(e, []impl.Change{gone("i000"), put("x", valByHand(setVal("a")))})
	if code != 0 {
		t.Fatalf("code %d", code)
	}
	mustTell(t, "as it is", e, append(manyEntries(3)[1:], entry("x", setVal("a"))), true)
	for why, other := range changedEngines(e) {
		if plainEngineOk(other) {
			continue
		}
		mustNotTell(t, why, other)
	}
	mustNotTell(t, "nothing", impl.Engine{})
	mustNotTell(t, "a room alone", impl.Engine{Room: 500})
	torn := sortedDisk(file("b0", segWith(0, 0, batchOf(1, put("a", valByHand(textVal("x"))))).Text+"torn"))
	mustNotTell(t, "torn bytes", impl.Engine{Disk: torn, Room: 500, Seq: 1, Dir: []impl.Spot{spot("a", 0, 8, 1)}})
	mustTell(t, "torn bytes that are mended", opened(t, torn, 500), oneEntry("a", textVal("x")), true)
}

func TestTableOfEnginesWithoutValues(t *testing.T) {
	good := put("b", valByHand(textVal("x")))
	for _, c := range []struct{ why, text string }{
		{"an empty text", ""},
		{"a text as it is", "x"},
		{"words", "one two"},
		{"a value that is cut", "\x01\x03\x01x"},
		{"a value with a byte more", "\x01\x03\x01x\x00\x00"},
		{"a value in a longer form", "\x01\x83\x00\x01x\x00"},
		{"a text of MaxValue bytes", someText(impl.MaxValue)},
	} {
		mustNotTell(t, c.why, opened(t, sortedDisk(segWith(0, 0, batchOf(1, put("a", c.text)))), impl.MaxRoom))
		mustNotTell(t, c.why+", ahead of a value", opened(t, sortedDisk(segWith(0, 0, batchOf(1, put("a", c.text), good))), impl.MaxRoom))
		mustNotTell(t, c.why+", behind a value", opened(t, sortedDisk(segWith(0, 0, batchOf(1, good)), segWith(1, 0, batchOf(2, put("c", c.text)))), impl.MaxRoom))
		mustTell(t, c.why+", put again", opened(t, sortedDisk(segWith(0, 0, batchOf(1, put("b", c.text)), batchOf(2, good))), impl.MaxRoom), oneEntry("b", textVal("x")), true)
	}
	for _, c := range wrongVals() {
		text := valByHand(c.v)
		if len(text) > impl.MaxValue {
			continue
		}
		mustNotTell(t, c.why, opened(t, sortedDisk(segWith(0, 0, batchOf(1, put("a", text), good))), impl.MaxRoom))
	}
}

func TestTableOfEnginesWithManyKeys(t *testing.T) {
	for count := range impl.MaxEntries + 4 {
		table := manyEntries(count)
		e := holding(t, table)
		if count > impl.MaxEntries {
			mustNotTell(t, strconv.Itoa(count)+" keys", e)
		} else {
			mustTell(t, strconv.Itoa(count)+" keys", e, table, true)
		}
	}
	table := manyEntries(impl.MaxEntries + 1)
	e, _, _ := impl.PutBatch(holding(t, table), []impl.Change{gone("i007")})
	mustTell(t, "one of MaxEntries + 1 is gone", e, slices.Delete(table, 7, 8), true)
	mustNotTell(t, "250 keys", holding(t, manyEntries(250)))
}

func (w *drawer) item() string {
	items := []string{"", "a", "b", "c", "aa", "a\x00", "\x00", "\xff", "x", "y", "10", "9"}
	if w.below(6) > 0 {
		return items[w.below(len(items))]
	}
	if w.below(12) == 0 {
		return someText(impl.MaxItem + w.below(2))
	}
	return someText(w.below(impl.MaxItem + 1))
}

// rising has each item once, in order.
func (w *drawer) rising(count int) []string {
	var items []string
	for range count {
		items = append(items, w.item())
	}
	return slices.Compact(slices.Sorted(slices.Values(items)))
}

// val draws one that is right, most of the time.
func (w *drawer) val() impl.Val {
	v := impl.Val{Kind: 1 + w.below(4)}
	if w.below(2) == 0 {
		v.Until = w.below(300)
	}
	count := 1 + w.below(6)
	switch v.Kind {
	case impl.KindText:
		v.Text = w.item()
	case impl.KindList:
		for range count {
			v.Items = append(v.Items, w.item())
		}
	case impl.KindFields:
		for _, field := range w.rising(count) {
			v.Items = append(v.Items, field, w.item())
		}
	case impl.KindSet:
		v.Items = w.rising(count)
	}
	switch w.below(40) {
	case 0:
		v.Kind = w.below(7)
	case 1:
		v.Items = append(v.Items, w.item())
	case 2:
		v.Text = w.item()
	case 3:
		v.Until = w.below(3) - 1 + w.below(2)*impl.MaxTime
	case 4:
		slices.Reverse(v.Items)
	}
	return v
}

func (w *drawer) rightVal() impl.Val {
	for {
		if v := w.val(); rightValByHand(v) {
			return v
		}
	}
}

// table draws one that is right, unless its entries are left as they were drawn.
func (w *drawer) table() []impl.Entry {
	var list []impl.Entry
	for range w.below(8) {
		list = append(list, entry(w.key(), w.val()))
	}
	if w.below(6) > 0 {
		return sortedTable(list)
	}
	return list
}

func sortedTable(list []impl.Entry) []impl.Entry {
	slices.SortStableFunc(list, func(x, y impl.Entry) int { return strings.Compare(x.Key, y.Key) })
	return slices.CompactFunc(list, func(x, y impl.Entry) bool { return x.Key == y.Key })
}

func TestDrawnValues(t *testing.T) {
	draw := &drawer{state: 31}
	right, wrong, damaged := 0, 0, 0
	for range 6000 {
		v := draw.val()
		wantOk := rightValByHand(v)
		if impl.ValOk(v) != wantOk {
			t.Errorf("ValOk(%s): %v", briefVal(v), !wantOk)
		}
		text, ok := impl.ValText(v)
		if ok != wantOk || ok && text != valByHand(v) || !ok && text != "" {
			t.Errorf("ValText(%s): %.40q of %d bytes, %v", briefVal(v), text, len(text), ok)
		}
		if !ok {
			wrong++
			if v.Until >= 0 {
				mustNotReadVal(t, "a drawn value that is not right", valByHand(v))
			}
			continue
		}
		right++
		mustReadVal(t, "a drawn value", text, v, true)
		torn := draw.damaged(text)
		mustReadValPlainly(t, "a damaged value", torn)
		if torn != text {
			damaged++
		}
	}
	if right < 3000 || wrong < 300 || damaged < 2000 {
		t.Errorf("only %d right values, %d wrong ones, %d damaged ones", right, wrong, damaged)
	}
}

func TestDrawnTables(t *testing.T) {
	draw := &drawer{state: 32}
	right, wrong, differs := 0, 0, 0
	for range 4000 {
		a, b := draw.table(), draw.table()
		if draw.below(2) == 0 {
			b = sortedTable(append(b, copyTable(a)...))
		}
		if got := impl.TableOk(a); got != rightTableByHand(a) {
			t.Errorf("TableOk(%s): %v", briefTable(a), got)
		}
		want := plainDiffer(a, b)
		mustDiffer(t, "drawn tables", a, b, want)
		if rightTableByHand(a) && rightTableByHand(b) {
			right++
		} else {
			wrong++
		}
		if len(want) > 0 {
			differs++
		}
		key, now := draw.key(), draw.below(320)-10
		var live []impl.Entry
		var found []impl.Val
		for _, e := range a {
			if e.Val.Until == 0 || e.Val.Until > now {
				live = append(live, e)
			}
			if e.Key == key {
				found = append(found, e.Val)
			}
		}
		mustBeLive(t, "a drawn table", a, now, live)
		mustFind(t, "a drawn table", a, key, slices.Concat(found, []impl.Val{{}})[0], len(found) > 0)
	}
	if right < 1000 || wrong < 1000 || differs < 800 {
		t.Errorf("only %d right pairs, %d wrong ones, %d that differ", right, wrong, differs)
	}
}

// A drawn life: the table changes, what differs is put, and the engine tells the table, whatever the power leaves and however often it is merged.
func TestTablesInDrawnLives(t *testing.T) {
	draw := &drawer{state: 33}
	puts, merges, fulls := 0, 0, 0
	for range 12 {
		e := formatted(t, 1200+draw.below(4000))
		var table []impl.Entry
		for range 60 {
			next := copyTable(table)
			for range 1 + draw.below(4) {
				if len(next) > 0 && draw.below(3) == 0 || len(next) > impl.MaxEntries-5 {
					at := draw.below(len(next))
					next = slices.Delete(next, at, at+1)
				} else {
					next = sortedTable(append(entries(entry(draw.key(), draw.rightVal())), next...))
				}
			}
			if draw.below(5) == 0 {
				next = impl.Live(next, draw.below(300))
			}
			changes := impl.Differ(table, next)
			if len(changes) > 0 {
				if _, _, code := impl.PutBatch(e, changes); code != 0 {
					fulls++
					mustTell(t, "a full engine", e, table, true)
					continue
				}
				puts++
			}
			if merged, _, ok := impl.Merge(e); ok && draw.below(6) == 0 {
				merges++
				e = merged
			}
			e = mustMakeTheOther(t, "a drawn life", e, table, next)
			table = next
		}
	}
	if puts < 300 || merges < 30 || fulls < 5 {
		t.Errorf("only %d puts, %d merges, %d full", puts, merges, fulls)
	}
}

// roomyTable stands in lists with room behind them, so that writing there is told, too.
func roomyTable(table []impl.Entry) (came, room []impl.Entry) {
	room = make([]impl.Entry, 0, len(table)+8)
	for _, e := range table {
		v, _ := roomyVal(e.Val)
		room = append(room, entry(strings.Clone(e.Key), v))
	}
	for n := range 8 {
		room = append(room, entry("room"+strconv.Itoa(n), setVal("room", strconv.Itoa(n))))
	}
	return room[:len(table)], room
}

func roomyVal(v impl.Val) (came impl.Val, room []string) {
	came = copyVal(v)
	room = make([]string, 0, len(v.Items)+5)
	room = append(room, came.Items...)
	for n := range 5 {
		room = append(room, "room"+strconv.Itoa(n))
	}
	came.Items = room[:len(v.Items)]
	return came, room
}

// wholeTable has the room behind each list of items, too.
func wholeTable(room []impl.Entry) []impl.Entry {
	var all []impl.Entry
	for _, e := range room {
		whole := e.Val
		whole.Items = e.Val.Items[:cap(e.Val.Items)]
		all = append(all, entry(e.Key, whole))
	}
	return all
}

func textsOfVal(v impl.Val) []string { return append([]string{v.Text}, v.Items...) }

func textsOfTable(table []impl.Entry) []string {
	var texts []string
	for _, e := range table {
		texts = append(append(texts, e.Key), textsOfVal(e.Val)...)
	}
	return texts
}

func textsOfChanges(list []impl.Change) []string {
	var texts []string
	for _, change := range list {
		texts = append(texts, change.Key, change.Value)
	}
	return texts
}

func scribbleVal(v impl.Val) {
	for place := range v.Items[:cap(v.Items)] {
		v.Items[:cap(v.Items)][place] = "gone"
	}
}

func scribbleTable(table []impl.Entry) {
	for place := range table[:cap(table)] {
		scribbleVal(table[:cap(table)][place].Val)
		table[:cap(table)][place] = entry("gone", textVal("gone"))
	}
}

func TestValuesShareNothing(t *testing.T) {
	for _, c := range slices.Concat(rightVals(), wrongVals(), untoldVals()) {
		v, room := roomyVal(c.v)
		before, roomBefore := copyVal(v), slices.Clone(room)
		right := impl.ValOk(v)
		text, _ := impl.ValText(v)
		again, _ := impl.ValText(v)
		mustShareNoText(t, c.why+": ValText", []string{text, again}, textsOfVal(v))
		first, ok := impl.ReadVal(text)
		second, _ := impl.ReadVal(text)
		mustShareNoText(t, c.why+": ReadVal", slices.Concat(textsOfVal(first), textsOfVal(second)), append(textsOfVal(v), text, again))
		scribbleVal(first)
		if right {
			mustReadVal(t, c.why+", once more", text, c.v, true)
		}
		if ok != right || ok && !sameVal(second, c.v) || text != again || !sameVal(v, before) || !slices.Equal(room, roomBefore) || impl.ValOk(v) != right {
			t.Errorf("%s: what came in, or what was told, is changed", c.why)
		}
	}
}

func TestTablesShareNothing(t *testing.T) {
	for _, c := range slices.Concat(rightTables(), wrongTables()[:30]) {
		table, room := roomyTable(c.table)
		before := copyTable(wholeTable(room))
		right, given := impl.TableOk(table), textsOfTable(table)
		for _, e := range table {
			first, _ := impl.Find(table, e.Key)
			second, _ := impl.Find(table, e.Key)
			mustShareNoText(t, c.why+": Find", slices.Concat(textsOfVal(first), textsOfVal(second)), given)
			scribbleVal(first)
			mustFind(t, c.why+", once more", table, e.Key, second, true)
		}
		for _, now := range []int{-1, 0, 3} {
			first, second := impl.Live(table, now), impl.Live(table, now)
			mustShareNoText(t, c.why+": Live", slices.Concat(textsOfTable(first), textsOfTable(second)), given)
			scribbleTable(first)
			mustBeLive(t, c.why+", once more", table, now, second)
		}
		if impl.TableOk(table) != right || !sameTable(wholeTable(room), before) || !sameTable(table, c.table) {
			t.Errorf("%s: what came in is changed", c.why)
		}
	}
}

// Entries that come in with the same list go out with a list each.
func TestListsOfOneAnswerShareNothing(t *testing.T) {
	items := []string{"a", "b"}
	table := entries(entry("x", listVal(items...)), entry("y", setVal(items...)), entry("z", fieldsVal(items...)))
	live := impl.Live(table, 0)
	mustShareNoText(t, "Live", textsOfTable(live), textsOfTable(table))
	scribbleVal(live[0].Val)
	scribbleVal(live[2].Val)
	if !sameVal(live[1].Val, setVal("a", "b")) || !slices.Equal(items, []string{"a", "b"}) {
		t.Errorf("another list is changed: %s %v", briefTable(live), items)
	}
	told, _ := impl.TableOf(holding(t, table))
	scribbleVal(told[0].Val)
	scribbleVal(told[2].Val)
	if !sameVal(told[1].Val, setVal("a", "b")) {
		t.Errorf("another list is changed: %s", briefTable(told))
	}
}

func TestDifferSharesNothing(t *testing.T) {
	tables := slices.Concat(rightTables()[:14], wrongTables()[:12])
	for _, one := range tables {
		for _, other := range tables {
			why := one.why + ", and " + other.why
			a, roomA := roomyTable(one.table)
			b, roomB := roomyTable(other.table)
			beforeA, beforeB := copyTable(wholeTable(roomA)), copyTable(wholeTable(roomB))
			first, second := impl.Differ(a, b), impl.Differ(a, b)
			mustShareNoText(t, why, slices.Concat(textsOfChanges(first), textsOfChanges(second)), slices.Concat(textsOfTable(a), textsOfTable(b)))
			scribble(impl.Engine{}, nil, first)
			mustDiffer(t, why+", once more", a, b, second)
			if !sameTable(wholeTable(roomA), beforeA) || !sameTable(wholeTable(roomB), beforeB) {
				t.Errorf("%s: what came in is changed", why)
			}
		}
	}
}

func TestTableOfSharesNothing(t *testing.T) {
	engines := []impl.Engine{formatted(t, 100), someEngine(t), {}}
	for _, c := range slices.Concat(rightTables(), wrongTables()[:1]) {
		engines = append(engines, holding(t, c.table))
	}
	for place, e := range engines {
		why := "engine " + strconv.Itoa(place)
		came, files, dir := roomyEngine(e)
		filesBefore, dirBefore := copyDisk(diskOf(files...)), slices.Clone(dir)
		first, ok := impl.TableOf(came)
		second, _ := impl.TableOf(came)
		mustShareNoText(t, why, slices.Concat(textsOfTable(first), textsOfTable(second)), textsOfEngine(came))
		scribbleTable(first)
		mustTell(t, why+", once more", came, second, ok)
		if !sameDisk(diskOf(files...), filesBefore) || !slices.Equal(dir, dirBefore) {
			t.Errorf("%s: what came in is changed", why)
		}
	}
}
