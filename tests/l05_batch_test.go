package tests

import (
	"fmt"
	"math"
	"slices"
	"strconv"
	"strings"
	"testing"

	"loop.example/g00124/impl"
)

func put(key, value string) impl.Change { return impl.Change{Key: key, Value: value} }
func gone(key string) impl.Change       { return impl.Change{Key: key, Gone: true} }

func batchOf(seq int, changes ...impl.Change) impl.Batch {
	return impl.Batch{Seq: seq, Changes: changes}
}

// manyChanges has keys that ascend, as long as there are at most 1000.
func manyChanges(count int) []impl.Change {
	var changes []impl.Change
	for n := range count {
		change := put(fmt.Sprintf("k%03d", n), someText(n%5))
		if n%4 == 3 {
			change = gone(change.Key)
		}
		changes = append(changes, change)
	}
	return changes
}

// changeByHand is there for changes that are not right, too.
func changeByHand(change impl.Change) string {
	mark := "\x00"
	if change.Gone {
		mark = "\x01"
	}
	return varByHand(len(change.Key)) + change.Key + mark + varByHand(len(change.Value)) + change.Value
}

func changesByHand(changes []impl.Change) string {
	text := ""
	for _, change := range changes {
		text += changeByHand(change)
	}
	return text
}

// batchByHand is there for batches that BatchText refuses, too (but for a Seq below 0).
func batchByHand(b impl.Batch) string {
	return "B" + varByHand(b.Seq) + varByHand(len(b.Changes)) + changesByHand(b.Changes)
}

// rightByHand sorts the keys anew, and holds them against what comes.
func rightByHand(b impl.Batch) bool {
	var keys []string
	for _, change := range b.Changes {
		keys = append(keys, change.Key)
		if len(change.Key) < 1 || len(change.Key) > 20 || len(change.Value) > 2000 {
			return false
		}
		if change.Gone && len(change.Value) > 0 {
			return false
		}
	}
	sorted := slices.Compact(slices.Sorted(slices.Values(keys)))
	return b.Seq >= 0 && b.Seq <= 1000000000 && len(keys) >= 1 && len(keys) <= 40 && slices.Equal(keys, sorted)
}

// looseVar takes longer forms of a number, too.
func looseVar(text string) (int, string, bool) {
	n := 0
	for place := range min(len(text), 8) {
		n += int(text[place]&127) << (7 * place)
		if text[place] < 128 {
			return n, text[place+1:], true
		}
	}
	return 0, "", false
}

func looseShort(text string) (string, string, bool) {
	length, rest, ok := looseVar(text)
	if !ok || length > len(rest) {
		return "", "", false
	}
	return rest[:length], rest[length:], true
}

// plainReadBatch guesses the batch without a look at its rules; the guess counts when it is right and is written so.
func plainReadBatch(text string) (impl.Batch, bool) {
	if text == "" || len(text) > 9000 {
		return impl.Batch{}, false
	}
	var b impl.Batch
	seq, rest, ok := looseVar(text[1:])
	if !ok {
		return impl.Batch{}, false
	}
	b.Seq = seq
	if _, rest, ok = looseVar(rest); !ok {
		return impl.Batch{}, false
	}
	for rest != "" && len(b.Changes) < 3000 {
		var change impl.Change
		if change.Key, rest, ok = looseShort(rest); !ok || rest == "" {
			return impl.Batch{}, false
		}
		change.Gone = rest[0] != 0
		if change.Value, rest, ok = looseShort(rest[1:]); !ok {
			return impl.Batch{}, false
		}
		b.Changes = append(b.Changes, change)
	}
	if !rightByHand(b) || batchByHand(b) != text {
		return impl.Batch{}, false
	}
	return b, true
}

func sameBatch(a, b impl.Batch) bool { return a.Seq == b.Seq && slices.Equal(a.Changes, b.Changes) }

func copyBatch(b impl.Batch) impl.Batch {
	own := impl.Batch{Seq: b.Seq}
	for _, change := range b.Changes {
		own.Changes = append(own.Changes, impl.Change{Key: strings.Clone(change.Key), Value: strings.Clone(change.Value), Gone: change.Gone})
	}
	return own
}

// briefBatch keeps long texts out of what a failed test tells.
func briefBatch(b impl.Batch) string {
	out := []string{"seq " + strconv.Itoa(b.Seq), strconv.Itoa(len(b.Changes)) + " changes"}
	for _, change := range b.Changes[:min(3, len(b.Changes))] {
		out = append(out, fmt.Sprintf("%.25q %.10q of %d bytes %v", change.Key, change.Value, len(change.Value), change.Gone))
	}
	return "[" + strings.Join(out, "; ") + "]"
}

func mustRead(t *testing.T, why, text string, want impl.Batch, wantOk bool) {
	t.Helper()
	got, ok := impl.ReadBatch(text)
	if ok != wantOk || !sameBatch(got, want) {
		t.Errorf("%s: ReadBatch(%.40q of %d bytes): %s %v, want %s %v", why, text, len(text), briefBatch(got), ok, briefBatch(want), wantOk)
	}
}

func mustNotRead(t *testing.T, why, text string) {
	t.Helper()
	mustRead(t, why, text, impl.Batch{}, false)
}

// mustReadPlainly asks for just what the document's words find in a text, whatever it is.
func mustReadPlainly(t *testing.T, why, text string) {
	t.Helper()
	want, ok := plainReadBatch(text)
	mustRead(t, why, text, want, ok)
}

func TestBatchConstants(t *testing.T) {
	got := []int{impl.MaxKey, impl.MaxValue, impl.MaxChanges}
	if !slices.Equal(got, []int{20, 2000, 40}) {
		t.Errorf("constants: %v", got)
	}
}

type namedBatch struct {
	why string
	b   impl.Batch
}

func rightBatches() []namedBatch {
	k20 := strings.Repeat("k", impl.MaxKey)
	return []namedBatch{
		{"one change", batchOf(3, put("a", "x"))},
		{"one that is gone", batchOf(3, gone("a"))},
		{"an empty value", batchOf(3, put("a", ""))},
		{"two, one gone", batchOf(3, put("a", "x"), gone("b"))},
		{"two, both gone", batchOf(3, gone("a"), gone("b"))},
		{"three", batchOf(3, gone("a"), put("b", "y"), put("c", ""))},
		{"seq of 0", batchOf(0, put("a", "x"))},
		{"seq of 127", batchOf(127, put("a", "x"))},
		{"seq of 128", batchOf(128, put("a", "x"))},
		{"seq of MaxNumber - 1", batchOf(impl.MaxNumber-1, put("a", "x"))},
		{"seq of MaxNumber", batchOf(impl.MaxNumber, put("a", "x"))},
		{"MaxChanges - 1 changes", batchOf(5, manyChanges(impl.MaxChanges-1)...)},
		{"MaxChanges changes", batchOf(5, manyChanges(impl.MaxChanges)...)},
		{"a key of MaxKey - 1 bytes", batchOf(5, put(k20[1:], "x"))},
		{"a key of MaxKey bytes", batchOf(5, put(k20, "x"))},
		{"a key of MaxKey bytes, gone", batchOf(5, gone(k20))},
		{"keys of all lengths", batchOf(5, keysOfAllLengths()...)},
		{"a beginning is less", batchOf(5, put("a", "1"), put("a\x00", "2"), put("aa", "3"), put("b", "4"))},
		{"bytes, not letters", batchOf(5, put("\x00", "1"), put("B", "2"), put("a", "3"), put("\u00e9", "4"), put("\xff", "5"), put("\xff\xff", "6"))},
		{"figures by their bytes", batchOf(5, put("10", "1"), put("9", "2"))},
		{"values alike", batchOf(5, put("a", "x"), put("b", "x"))},
		{"a value of its key", batchOf(5, put("a", "a"), put("b", "b"))},
		{"a value of 127 bytes", batchOf(5, put("a", someText(127)))},
		{"a value of 128 bytes", batchOf(5, put("a", someText(128)))},
		{"a value of MaxValue - 1 bytes", batchOf(5, put("a", someText(impl.MaxValue-1)))},
		{"a value of MaxValue bytes", batchOf(5, put("a", someText(impl.MaxValue)))},
		{"a value of MaxValue bytes between others", batchOf(5, put("a", "x"), put("b", someText(impl.MaxValue)), gone("c"))},
		{"a value that is a batch", batchOf(5, put("a", batchByHand(batchOf(6, put("b", "x")))))},
		{"values of noughts", batchOf(5, put("a", strings.Repeat("\x00", 300)), put("b", "\x00"))},
	}
}

func keysOfAllLengths() []impl.Change {
	var changes []impl.Change
	for length := 1; length <= impl.MaxKey; length++ {
		changes = append(changes, put(strings.Repeat("k", length), someText(length)))
	}
	return changes
}

func wrongBatches() []namedBatch {
	k21 := strings.Repeat("k", impl.MaxKey+1)
	long := someText(impl.MaxValue + 1)
	return []namedBatch{
		{"nothing", impl.Batch{}},
		{"no changes", batchOf(3)},
		{"an empty list of changes", impl.Batch{Seq: 3, Changes: []impl.Change{}}},
		{"seq of MaxNumber + 1", batchOf(impl.MaxNumber+1, put("a", "x"))},
		{"seq of 2 to the 32", batchOf(1<<32, put("a", "x"))},
		{"greatest seq", batchOf(math.MaxInt, put("a", "x"))},
		{"MaxChanges + 1 changes", batchOf(5, manyChanges(impl.MaxChanges+1)...)},
		{"far more changes", batchOf(5, manyChanges(10*impl.MaxChanges)...)},
		{"no key", batchOf(5, put("", "x"))},
		{"no key, gone", batchOf(5, gone(""))},
		{"no key ahead of others", batchOf(5, put("", "x"), put("a", "y"))},
		{"a key of MaxKey + 1 bytes", batchOf(5, put(k21, "x"))},
		{"a key of MaxKey + 1 bytes, gone", batchOf(5, gone(k21))},
		{"a key of MaxKey + 1 bytes behind others", batchOf(5, put("a", "x"), put(k21, "x"))},
		{"a key of 21 bytes in seven letters", batchOf(5, put(strings.Repeat("\u20ac", 7), "x"))},
		{"a key of 128 bytes", batchOf(5, put(someText(128), "x"))},
		{"a value of MaxValue + 1 bytes", batchOf(5, put("a", long))},
		{"a value of MaxValue + 1 bytes behind others", batchOf(5, put("a", "x"), put("b", long))},
		{"a value with gone", batchOf(5, impl.Change{Key: "a", Value: "x", Gone: true})},
		{"a value with gone behind others", batchOf(5, put("a", "x"), impl.Change{Key: "b", Value: "\x00", Gone: true})},
		{"a value of MaxValue bytes with gone", batchOf(5, impl.Change{Key: "a", Value: long[1:], Gone: true})},
		{"two keys that are the same", batchOf(5, put("a", "x"), put("a", "y"))},
		{"two changes that are the same", batchOf(5, put("a", "x"), put("a", "x"))},
		{"a key that is put, and gone", batchOf(5, put("a", "x"), gone("a"))},
		{"a key that is gone, and put", batchOf(5, gone("a"), put("a", "x"))},
		{"a key that is gone twice", batchOf(5, gone("a"), gone("a"))},
		{"the same keys at the end", batchOf(5, put("a", "x"), put("b", "y"), put("b", "z"))},
		{"the same keys, not side by side", batchOf(5, put("a", "x"), put("b", "y"), put("a", "z"))},
		{"the same keys of MaxKey bytes", batchOf(5, put(k21[1:], "x"), put(k21[1:], "y"))},
		{"keys not ascending", batchOf(5, put("b", "x"), put("a", "y"))},
		{"keys not ascending at the end", batchOf(5, put("a", "x"), put("c", "y"), put("b", "z"))},
		{"a beginning behind", batchOf(5, put("aa", "x"), put("a", "y"))},
		{"figures by their numbers", batchOf(5, put("9", "x"), put("10", "y"))},
		{"small letters ahead", batchOf(5, put("a", "x"), put("B", "y"))},
		{"a high byte ahead", batchOf(5, put("\xff", "x"), put("a", "y"))},
	}
}

// lowBatches have a Seq that no text can tell.
func lowBatches() []namedBatch {
	return []namedBatch{
		{"seq of -1", batchOf(-1, put("a", "x"))},
		{"seq of -128", batchOf(-128, put("a", "x"))},
		{"least seq", batchOf(math.MinInt, put("a", "x"))},
	}
}

func TestBatchOk(t *testing.T) {
	for _, c := range rightBatches() {
		if !impl.BatchOk(c.b) || !rightByHand(c.b) {
			t.Errorf("%s: not right", c.why)
		}
	}
	for _, c := range slices.Concat(wrongBatches(), lowBatches()) {
		if impl.BatchOk(c.b) || rightByHand(c.b) {
			t.Errorf("%s: right", c.why)
		}
	}
}

// A batch is right, however long its text would be.
func TestBatchOkHasNoLookAtTheText(t *testing.T) {
	var changes []impl.Change
	for n := range impl.MaxChanges {
		changes = append(changes, put(fmt.Sprintf("k%02d", n), someText(impl.MaxValue)))
	}
	b := batchOf(1, changes...)
	if !impl.BatchOk(b) {
		t.Error("MaxChanges values of MaxValue bytes: not right")
	}
	if text, ok := impl.BatchText(b); text != "" || ok {
		t.Errorf("MaxChanges values of MaxValue bytes: a text of %d bytes, %v", len(text), ok)
	}
	mustNotRead(t, "MaxChanges values of MaxValue bytes", batchByHand(b))
}

func TestBatchText(t *testing.T) {
	for _, c := range []struct {
		b    impl.Batch
		text string
	}{
		{batchOf(3, put("a", "x"), gone("b")), "B\x03\x02\x01a\x00\x01x\x01b\x01\x00"},
		{batchOf(0, put("a", "")), "B\x00\x01\x01a\x00\x00"},
		{batchOf(0, gone("a")), "B\x00\x01\x01a\x01\x00"},
		{batchOf(300, put("key", "value")), "B\xac\x02\x01\x03key\x00\x05value"},
		{batchOf(127, put("\x00", "\x00")), "B\x7f\x01\x01\x00\x00\x01\x00"},
		{batchOf(128, put("B", "B")), "B\x80\x01\x01\x01B\x00\x01B"},
		{batchOf(impl.MaxNumber, gone("a"), put("b", "xy"), gone("c")), "B\x80\x94\xeb\xdc\x03\x03\x01a\x01\x00\x01b\x00\x02xy\x01c\x01\x00"},
	} {
		if text, ok := impl.BatchText(c.b); text != c.text || !ok {
			t.Errorf("BatchText(%s): %q %v, want %q", briefBatch(c.b), text, ok, c.text)
		}
		mustRead(t, "written out", c.text, c.b, true)
	}
}

func TestBatchesComeBack(t *testing.T) {
	for _, c := range rightBatches() {
		text, ok := impl.BatchText(c.b)
		if text != batchByHand(c.b) || !ok {
			t.Errorf("%s: BatchText: %.40q of %d bytes, %v", c.why, text, len(text), ok)
		}
		mustRead(t, c.why, batchByHand(c.b), c.b, true)
		mustReadPlainly(t, c.why, batchByHand(c.b))
	}
	for _, seq := range numbersToTry() {
		b := batchOf(seq, put("a", "x"))
		text, ok := impl.BatchText(b)
		if !ok {
			t.Errorf("BatchText with a seq of %d is refused", seq)
		}
		mustRead(t, "numbers", text, b, true)
	}
	for count := 1; count <= impl.MaxChanges; count++ {
		b := batchOf(count, manyChanges(count)...)
		text, ok := impl.BatchText(b)
		if !ok {
			t.Errorf("BatchText of %d changes is refused", count)
		}
		mustRead(t, "counts", text, b, true)
	}
	for length := range 300 {
		b := batchOf(length, put("a", someText(length)))
		text, ok := impl.BatchText(b)
		if !ok {
			t.Errorf("BatchText of a value of %d bytes is refused", length)
		}
		mustRead(t, "values", text, b, true)
	}
}

func TestBatchesThatAreNotRight(t *testing.T) {
	for _, c := range slices.Concat(wrongBatches(), lowBatches()) {
		if text, ok := impl.BatchText(c.b); text != "" || ok {
			t.Errorf("%s: BatchText: %.40q of %d bytes, %v", c.why, text, len(text), ok)
		}
	}
	for _, c := range wrongBatches() {
		mustNotRead(t, c.why, batchByHand(c.b))
	}
}

// batchOfLength has a text of just so many bytes; its values are in the limits up to some 10000.
func batchOfLength(length int) impl.Batch {
	b := batchOf(7)
	for n := range 4 {
		b.Changes = append(b.Changes, put("k"+strconv.Itoa(n), someText(impl.MaxValue)))
	}
	last := length - len(batchByHand(b)) - len(changeByHand(put("last", ""))) - 1
	b.Changes = append(b.Changes, put("last", someText(last)))
	return b
}

func TestBatchesAtTheLimitOfARecord(t *testing.T) {
	for _, length := range []int{impl.MaxRecord - 1, impl.MaxRecord, impl.MaxRecord + 1, impl.MaxRecord + 2} {
		b := batchOfLength(length)
		whole := batchByHand(b)
		if len(whole) != length || !impl.BatchOk(b) {
			t.Fatalf("a text of %d bytes, not %d; right: %v", len(whole), length, impl.BatchOk(b))
		}
		text, ok := impl.BatchText(b)
		if length > impl.MaxRecord {
			if text != "" || ok {
				t.Errorf("BatchText of %d bytes: %d bytes, %v", length, len(text), ok)
			}
			mustNotRead(t, "longer than MaxRecord", whole)
			continue
		}
		if text != whole || !ok {
			t.Errorf("BatchText of %d bytes: %d bytes, %v", length, len(text), ok)
		}
		mustRead(t, "up to MaxRecord", whole, b, true)
		if _, ok := impl.Frame(text); !ok {
			t.Errorf("Frame of a batch of %d bytes is refused", length)
		}
	}
	full := batchByHand(batchOfLength(impl.MaxRecord))
	mustNotRead(t, "MaxRecord bytes, and one more", full+"\x00")
	mustNotRead(t, "MaxRecord bytes but the last", full[:len(full)-1])
	mustNotRead(t, "MaxRecord bytes, the first another", "C"+full[1:])
}

// Texts far longer than a record are refused, too, whatever they hold.
func TestTextsThatAreFarTooLong(t *testing.T) {
	small := batchByHand(batchOf(3, put("a", "x")))
	for _, length := range []int{impl.MaxRecord + 1, impl.MaxText, 50 * impl.MaxText} {
		mustNotRead(t, "noughts behind a batch", small+strings.Repeat("\x00", length-len(small)))
		mustNotRead(t, "one byte again and again", strings.Repeat("B", length))
		mustNotRead(t, "a count of all", "B\x00"+varByHand(length/3)+strings.Repeat("\x01a\x01\x00", length/4))
	}
}

func TestReadBatchOfWrongTexts(t *testing.T) {
	x, y := changeByHand(put("a", "x")), changeByHand(put("b", "y"))
	for _, c := range []struct{ why, text string }{
		{"nothing", ""},
		{"a first byte alone", "B"},
		{"no count", "B\x03"},
		{"another first byte", "b\x03\x01" + x},
		{"the first byte of a head", "H\x03\x01" + x},
		{"no first byte", "\x03\x01" + x},
		{"a first byte twice", "BB\x03\x01" + x},
		{"a blank ahead", " B\x03\x01" + x},
		{"a count of 0", "B\x03\x00"},
		{"a count of 0, a change behind it", "B\x03\x00" + x},
		{"a count of 0 in two bytes", "B\x03\x80\x00"},
		{"one change more than are counted", "B\x03\x01" + x + y},
		{"one change less than are counted", "B\x03\x03" + x + y},
		{"a count of 127", "B\x03\x7f" + x + y},
		{"a count of MaxNumber", "B\x03" + varByHand(impl.MaxNumber) + x + y},
		{"a count of MaxNumber + 1", "B\x03" + varByHand(impl.MaxNumber+1) + x + y},
		{"a count of 2 and 2 to the 32", "B\x03" + varByHand(1<<32+2) + x + y},
		{"a count that wraps round to 2", "B\x03\x82\x80\x80\x80\x80\x80\x80\x80\x80\x02" + x + y},
		{"seq of MaxNumber + 1", "B" + varByHand(impl.MaxNumber+1) + "\x01" + x},
		{"seq of 3 and 2 to the 32", "B" + varByHand(1<<32+3) + "\x01" + x},
		{"seq that wraps round to 3", "B\x83\x80\x80\x80\x80\x80\x80\x80\x80\x02\x01" + x},
		{"seq in four bytes, the highest first", "B\x00\x00\x00\x03\x01" + x},
		{"seq in figures", "B3\x31" + x},
		{"no seq", "B\x01" + x},
		{"seq and count in the other order", "B\x01\x03" + x},
		{"a length of a key that is one more", "B\x03\x01\x02a\x00\x01x"},
		{"a length of a value that is one more", "B\x03\x01\x01a\x00\x02x"},
		{"a length of a value that is one less", "B\x03\x01\x01a\x00\x00x"},
		{"a length of a value of MaxNumber", "B\x03\x01\x01a\x00" + varByHand(impl.MaxNumber) + "x"},
		{"a length of a value of MaxNumber + 1", "B\x03\x01\x01a\x00" + varByHand(impl.MaxNumber+1) + "x"},
		{"a length of a value that wraps round", "B\x03\x01\x01a\x00\xff\xff\xff\xff\xff\xff\xff\xff\xff\x01x"},
		{"no byte for gone", "B\x03\x01\x01a\x01x"},
		{"the byte for gone behind the value", "B\x03\x01\x01a\x01x\x00"},
		{"no value behind gone at all", "B\x03\x01\x01a\x01"},
		{"a value behind gone", "B\x03\x01\x01a\x01\x01x"},
		{"a value of a byte 0 behind gone", "B\x03\x01\x01a\x01\x01\x00"},
		{"the value ahead of the key", "B\x03\x01\x01x\x00\x00a"},
		{"in a frame", frameByHand("B\x03\x01" + x)},
		{"sealed", sealedByHand("B\x03\x01" + x)},
		{"two batches", "B\x03\x01" + x + "B\x04\x01" + y},
	} {
		mustNotRead(t, c.why, c.text)
	}
	mustRead(t, "two changes that are counted", "B\x03\x02"+x+y, batchOf(3, put("a", "x"), put("b", "y")), true)
}

func TestFirstBytes(t *testing.T) {
	want := batchOf(3, put("a", "x"), gone("b"))
	rest := batchByHand(want)[1:]
	for b := range 256 {
		text := string([]byte{byte(b)}) + rest
		if b == 'B' {
			mustRead(t, "the first byte", text, want, true)
			continue
		}
		mustNotRead(t, "another first byte", text)
	}
}

func TestBytesForGone(t *testing.T) {
	for b := range 256 {
		mark := string([]byte{byte(b)})
		first := "B\x03\x02\x01a" + mark + "\x00\x01b\x00\x01y"
		last := "B\x03\x02\x01a\x00\x01x\x01b" + mark + "\x00"
		switch b {
		case 0:
			mustRead(t, "a byte 0", first, batchOf(3, put("a", ""), put("b", "y")), true)
			mustRead(t, "a byte 0", last, batchOf(3, put("a", "x"), put("b", "")), true)
		case 1:
			mustRead(t, "a byte 1", first, batchOf(3, gone("a"), put("b", "y")), true)
			mustRead(t, "a byte 1", last, batchOf(3, put("a", "x"), gone("b")), true)
		default:
			mustNotRead(t, "neither 0 nor 1", first)
			mustNotRead(t, "neither 0 nor 1, at the end", last)
		}
	}
}

func TestCounts(t *testing.T) {
	for count := 1; count <= impl.MaxChanges+2; count++ {
		changes := manyChanges(count)
		for told := range impl.MaxChanges + 4 {
			text := "B\x05" + varByHand(told) + changesByHand(changes)
			if told == count && count <= impl.MaxChanges {
				mustRead(t, "as many as are counted", text, batchOf(5, changes...), true)
				continue
			}
			mustNotRead(t, strconv.Itoa(count)+" changes, of which "+strconv.Itoa(told)+" are counted", text)
		}
	}
	for _, told := range []int{128, 1000, 2250, impl.MaxRecord} {
		mustNotRead(t, "a count far above MaxChanges", "B\x05"+varByHand(told)+changesByHand(manyChanges(min(told, 1000))))
	}
}

// longerForms has forms of a number that VarText does not write.
func longerForms(n int) []string {
	short := varByHand(n)
	last := len(short) - 1
	form := short[:last] + string([]byte{short[last] | 128})
	var forms []string
	for more := range 9 {
		forms = append(forms, form+strings.Repeat("\x80", more)+"\x00")
	}
	return forms
}

func TestNumbersInLongerForms(t *testing.T) {
	seq, count, key, value := "\x03", "\x01", "\x01a", "\x01x"
	mustRead(t, "short forms", "B"+seq+count+key+"\x00"+value, batchOf(3, put("a", "x")), true)
	for place := range 9 {
		mustNotRead(t, "a longer seq", "B"+longerForms(3)[place]+count+key+"\x00"+value)
		mustNotRead(t, "a longer seq of 0", "B"+longerForms(0)[place]+count+key+"\x00"+value)
		mustNotRead(t, "a longer seq of 128", "B"+longerForms(128)[place]+count+key+"\x00"+value)
		mustNotRead(t, "a longer count", "B"+seq+longerForms(1)[place]+key+"\x00"+value)
		mustNotRead(t, "a longer length of a key", "B"+seq+count+longerForms(1)[place]+"a\x00"+value)
		mustNotRead(t, "a longer length of a value", "B"+seq+count+key+"\x00"+longerForms(1)[place]+"x")
		mustNotRead(t, "a longer length of no value", "B"+seq+count+key+"\x00"+longerForms(0)[place])
		mustNotRead(t, "a longer length of no value, gone", "B"+seq+count+key+"\x01"+longerForms(0)[place])
		mustNotRead(t, "a longer length of 128", "B"+seq+count+key+"\x00"+longerForms(128)[place]+someText(128))
	}
}

func TestBatchesThatAreCut(t *testing.T) {
	for _, c := range rightBatches() {
		text := batchByHand(c.b)
		for cut := range len(text) {
			mustNotRead(t, c.why+", cut", text[:cut])
		}
	}
	for _, c := range wrongBatches() {
		text := batchByHand(c.b)
		for cut := range len(text) {
			mustNotRead(t, c.why+", cut", text[:cut])
		}
	}
}

func TestBytesBehindABatch(t *testing.T) {
	for _, c := range rightBatches() {
		text := batchByHand(c.b)
		for b := range 256 {
			mustNotRead(t, c.why+", a byte behind", text+string([]byte{byte(b)}))
		}
		for _, more := range []string{"\x00\x00", "\r\n", text, changeByHand(put("\xff\xff\xff", "x")), someText(300)} {
			mustNotRead(t, c.why+", bytes behind", text+more)
		}
	}
}

// Where one byte is another, one more or one less, there is just the batch that the document's words find.
func TestOneByteOfABatchThatIsAnother(t *testing.T) {
	for _, c := range rightBatches() {
		text := batchByHand(c.b)
		for at := range len(text) {
			if at > 60 && at < len(text)-20 && at%97 != 0 {
				continue
			}
			mustReadPlainly(t, c.why+", one byte less", text[:at]+text[at+1:])
			for turn := 1; turn < 256; turn++ {
				mustReadPlainly(t, c.why+", one byte turned", turnByte(text, at, byte(turn)))
			}
			for b := range 6 {
				mustReadPlainly(t, c.why+", one byte more", text[:at]+string([]byte{byte(b * 51)})+text[at:])
			}
		}
	}
}

// Of all texts of these few bytes just those are read that a right batch has.
func TestAllShortTexts(t *testing.T) {
	const bytes = "\x00\x01\x02\x80a"
	read := 0
	var goOn func(text string, more int)
	goOn = func(text string, more int) {
		want, ok := plainReadBatch(text)
		mustRead(t, "a short text", text, want, ok)
		if ok {
			read++
		}
		for at := range len(bytes) {
			if more > 0 {
				goOn(text+bytes[at:at+1], more-1)
			}
		}
	}
	goOn("B", 7)
	if read < 300 {
		t.Errorf("only %d texts are batches", read)
	}
}

func (w *drawer) key() string {
	keys := []string{"a", "b", "c", "d", "aa", "a\x00", "\x00", "\xff", "key", strings.Repeat("k", impl.MaxKey)}
	if w.below(2) == 0 {
		return keys[w.below(len(keys))]
	}
	return someText(1 + w.below(impl.MaxKey))
}

func (w *drawer) change() impl.Change {
	key := w.key()
	if w.below(3) == 0 {
		return gone(key)
	}
	if w.below(15) == 0 {
		return put(key, someText(w.below(impl.MaxValue+1)))
	}
	return put(key, someText(w.below(6)))
}

// batch draws one that is right, unless its keys are left as they were drawn.
func (w *drawer) batch() impl.Batch {
	b := impl.Batch{Seq: w.below(400)}
	for range 1 + w.below(8) {
		b.Changes = append(b.Changes, w.change())
	}
	if w.below(5) > 0 {
		slices.SortFunc(b.Changes, func(x, y impl.Change) int { return strings.Compare(x.Key, y.Key) })
		b.Changes = slices.CompactFunc(b.Changes, func(x, y impl.Change) bool { return x.Key == y.Key })
	}
	return b
}

func TestDrawnBatches(t *testing.T) {
	draw := &drawer{state: 5}
	right, damaged := 0, 0
	for range 3000 {
		b := draw.batch()
		whole := batchByHand(b)
		wantOk := rightByHand(b)
		if impl.BatchOk(b) != wantOk {
			t.Errorf("BatchOk(%s): %v", briefBatch(b), !wantOk)
		}
		text, ok := impl.BatchText(b)
		if ok != (wantOk && len(whole) <= impl.MaxRecord) || ok && text != whole || !ok && text != "" {
			t.Errorf("BatchText(%s): %.40q of %d bytes, %v", briefBatch(b), text, len(text), ok)
		}
		if ok {
			right++
			mustRead(t, "a drawn batch", text, b, true)
		}
		mustReadPlainly(t, "a drawn batch", whole)
		torn := draw.damaged(whole)
		mustReadPlainly(t, "a damaged batch", torn)
		if torn != whole {
			damaged++
		}
	}
	if right < 1000 || damaged < 1000 {
		t.Errorf("only %d right batches, %d damaged ones", right, damaged)
	}
}

// Batches that were kept in frames come back, one behind the other.
func TestBatchesInFrames(t *testing.T) {
	file := ""
	var want []impl.Batch
	for _, c := range rightBatches() {
		text, _ := impl.BatchText(c.b)
		frame, ok := impl.Frame(text)
		if !ok {
			t.Fatalf("%s: Frame is refused", c.why)
		}
		if len(file)+len(frame) > impl.MaxText {
			break
		}
		file += frame
		want = append(want, c.b)
	}
	records, end := impl.Unframe(file)
	if len(records) != len(want) || end != len(file) {
		t.Fatalf("%d records of %d, up to %d of %d", len(records), len(want), end, len(file))
	}
	for place, record := range records {
		mustRead(t, "out of a frame", record, want[place], true)
	}
}

// A batch stands in a list with room behind it, so that writing there is told, too.
func roomyBatch(b impl.Batch) (impl.Batch, []impl.Change) {
	room := make([]impl.Change, 0, len(b.Changes)+8)
	room = append(room, copyBatch(b).Changes...)
	for n := range 8 {
		room = append(room, impl.Change{Key: "room" + strconv.Itoa(n), Value: "room", Gone: n%2 == 0})
	}
	return impl.Batch{Seq: b.Seq, Changes: room[:len(b.Changes)]}, room
}

func TestBatchesLeaveTheirArgumentsAlone(t *testing.T) {
	for _, c := range slices.Concat(rightBatches(), wrongBatches(), lowBatches()) {
		b, room := roomyBatch(c.b)
		before := slices.Clone(room)
		impl.BatchOk(b)
		text, _ := impl.BatchText(b)
		again, _ := impl.BatchText(b)
		if b.Seq != c.b.Seq || !slices.Equal(room, before) {
			t.Errorf("%s: what came in is changed", c.why)
		}
		for _, change := range b.Changes {
			if sharesBytes(text, change.Key) || sharesBytes(text, change.Value) {
				t.Errorf("%s: the text shares memory with the batch", c.why)
			}
		}
		if sharesBytes(text, again) {
			t.Errorf("%s: two texts share memory", c.why)
		}
	}
}

func TestReadBatchSharesNothing(t *testing.T) {
	for _, c := range rightBatches() {
		text := batchByHand(c.b)
		before := strings.Clone(text)
		first, _ := impl.ReadBatch(text)
		second, _ := impl.ReadBatch(text)
		var told []string
		for _, change := range slices.Concat(first.Changes, second.Changes) {
			told = append(told, change.Key, change.Value)
		}
		for place, s := range told {
			if sharesBytes(s, text) {
				t.Errorf("%s: a text of %d bytes shares what came in", c.why, len(s))
			}
			for _, other := range told[:place] {
				if sharesBytes(s, other) {
					t.Errorf("%s: texts of %d and %d bytes share memory", c.why, len(s), len(other))
				}
			}
		}
		for place := range first.Changes {
			first.Changes[place] = gone("gone")
		}
		if !sameBatch(second, c.b) || text != before {
			t.Errorf("%s: what was told is changed by another answer", c.why)
		}
		mustRead(t, c.why+", once more", text, c.b, true)
	}
}
