package tests

import (
	"math"
	"slices"
	"strconv"
	"strings"
	"testing"

	"loop.example/g00124/impl"
)

// headByHand is there for numbers that HeadText refuses, too (but for ones below 0).
func headByHand(n, from int) string { return frameByHand("H" + varByHand(n) + varByHand(from)) }

func batchFrame(b impl.Batch) string { return frameByHand(batchByHand(b)) }

func batchFrames(batches []impl.Batch) string {
	text := ""
	for _, b := range batches {
		text += batchFrame(b)
	}
	return text
}

// seqBatches has small batches with these Seqs.
func seqBatches(seqs ...int) []impl.Batch {
	var batches []impl.Batch
	for place, seq := range seqs {
		batches = append(batches, batchOf(seq, put("k"+strconv.Itoa(place), someText(place))))
	}
	return batches
}

func segmentByHand(n, from int, seqs ...int) string {
	return headByHand(n, from) + batchFrames(seqBatches(seqs...))
}

func seqsOf(batches []impl.Batch) []int {
	var seqs []int
	for _, b := range batches {
		seqs = append(seqs, b.Seq)
	}
	return seqs
}

// plainReadSegment tries all heads that the number may have, and goes on with the records that a plain search finds.
func plainReadSegment(n int, text string) (int, []impl.Batch, int, bool) {
	if n < 0 || n > 99 || len(text) > 20000 {
		return 0, nil, 0, false
	}
	for from := 0; from <= n; from++ {
		head := headByHand(n, from)
		if !strings.HasPrefix(text, head) {
			continue
		}
		var batches []impl.Batch
		end := len(head)
		records, _ := plainUnframe(text[end:])
		for _, record := range records {
			b, ok := plainReadBatch(record)
			if !ok || len(batches) > 0 && batches[len(batches)-1].Seq >= b.Seq {
				break
			}
			batches = append(batches, b)
			end += len(frameByHand(record))
		}
		return from, batches, end, true
	}
	return 0, nil, 0, false
}

// plainSegments tells the Seqs of all batches, too.
func plainSegments(d impl.Disk) ([]int, []int, bool) {
	if !impl.DiskOk(d) {
		return nil, nil, false
	}
	texts := map[int]string{}
	greatest := 0
	for _, f := range d.Files {
		for n := range 100 {
			if f.Name == "b"+strconv.Itoa(n) {
				texts[n] = f.Text
				from, _, _, _ := plainReadSegment(n, f.Text)
				greatest = max(greatest, from)
			}
		}
	}
	var numbers, seqs []int
	for n := greatest; n < 100; n++ {
		text, there := texts[n]
		if !there {
			continue
		}
		_, batches, _, ok := plainReadSegment(n, text)
		if !ok {
			return nil, nil, false
		}
		numbers = append(numbers, n)
		seqs = append(seqs, seqsOf(batches)...)
	}
	return numbers, seqs, len(numbers) > 0
}

func rising(seqs []int) bool {
	return slices.Equal(seqs, slices.Compact(slices.Sorted(slices.Values(seqs))))
}

func mustSegment(t *testing.T, why string, n int, text string, from int, batches []impl.Batch, end int, wantOk bool) {
	t.Helper()
	gotFrom, got, gotEnd, ok := impl.ReadSegment(n, text)
	if gotFrom != from || !slices.EqualFunc(got, batches, sameBatch) || gotEnd != end || ok != wantOk {
		t.Errorf("%s: ReadSegment(%d, %.40q of %d bytes): from %d, seqs %v, end %d, %v; want from %d, seqs %v, end %d, %v",
			why, n, text, len(text), gotFrom, seqsOf(got), gotEnd, ok, from, seqsOf(batches), end, wantOk)
	}
}

func mustNotSegment(t *testing.T, why string, n int, text string) {
	t.Helper()
	mustSegment(t, why, n, text, 0, nil, 0, false)
}

// mustSegmentPlainly asks for just what the document's words find in a text, whatever it is.
func mustSegmentPlainly(t *testing.T, why string, n int, text string) bool {
	t.Helper()
	from, batches, end, ok := plainReadSegment(n, text)
	mustSegment(t, why, n, text, from, batches, end, ok)
	return ok
}

func TestSegmentConstants(t *testing.T) {
	if impl.MaxSegment != 99 || impl.SegBytes != 300 || impl.NameNew != "m+" {
		t.Errorf("constants: %d %d %q", impl.MaxSegment, impl.SegBytes, impl.NameNew)
	}
}

func TestSegName(t *testing.T) {
	for n, want := range map[int]string{
		math.MinInt: "", -100: "", -2: "", -1: "", 0: "b0", 1: "b1", 9: "b9", 10: "b10", 11: "b11", 42: "b42",
		98: "b98", 99: "b99", 100: "", 101: "", 256: "", 1 << 32: "", math.MaxInt: "",
	} {
		if got := impl.SegName(n); got != want {
			t.Errorf("SegName(%d): %q, want %q", n, got, want)
		}
	}
	for n := range 100 {
		if got := impl.SegName(n); got != "b"+strconv.Itoa(n) {
			t.Errorf("SegName(%d): %q", n, got)
		}
	}
}

func TestHeadText(t *testing.T) {
	if text, ok := impl.HeadText(2, 1); text != "\x03"+sumByHand("H\x02\x01")+"H\x02\x01" || len(text) != 8 || !ok {
		t.Errorf("HeadText(2, 1): %q %v", text, ok)
	}
	for n := -1; n <= impl.MaxSegment+1; n++ {
		for from := -1; from <= n+1; from++ {
			want, wantOk := "", false
			if n >= 0 && n <= 99 && from >= 0 && from <= n {
				want, wantOk = headByHand(n, from), true
			}
			if text, ok := impl.HeadText(n, from); text != want || ok != wantOk {
				t.Errorf("HeadText(%d, %d): %q %v, want %q %v", n, from, text, ok, want, wantOk)
			}
		}
	}
	far := []int{math.MinInt, -128, -1, 0, 1, 99, 100, 128, 1 << 32, math.MaxInt}
	for _, n := range far {
		for _, from := range far {
			_, ok := impl.HeadText(n, from)
			if want := n >= 0 && n <= 99 && from >= 0 && from <= n; ok != want {
				t.Errorf("HeadText(%d, %d): %v, want %v", n, from, ok, want)
			}
		}
	}
}

func TestHeadsComeBack(t *testing.T) {
	for n := range impl.MaxSegment + 1 {
		for from := range n + 1 {
			head, ok := impl.HeadText(n, from)
			if !ok {
				t.Fatalf("HeadText(%d, %d) is refused", n, from)
			}
			mustSegment(t, "a head", n, head, from, nil, len(head), true)
			for _, other := range []int{-1, n - 1, n + 1, n + 128, from + n + 1, impl.MaxSegment + 1} {
				mustNotSegment(t, "a head of another number", other, head)
			}
		}
	}
}

func TestBatchesOfASegmentComeBack(t *testing.T) {
	var batches []impl.Batch
	text := headByHand(4, 2)
	mustSegment(t, "a head and no batch", 4, text, 2, nil, len(text), true)
	for place, c := range rightBatches() {
		b := copyBatch(c.b)
		b.Seq = place
		frame := batchFrame(b)
		alone := headByHand(4, 2) + batchFrame(c.b)
		mustSegment(t, "one batch: "+c.why, 4, alone, 2, []impl.Batch{c.b}, len(alone), true)
		if len(text)+len(frame) > impl.MaxText {
			continue
		}
		text += frame
		batches = append(batches, b)
		mustSegment(t, "several batches, then "+c.why, 4, text, 2, batches, len(text), true)
	}
	if len(batches) < 20 {
		t.Errorf("only %d batches", len(batches))
	}
}

// The text is made by the program's own writers alone.
func TestWhatWasPutIntoASegmentIsRead(t *testing.T) {
	want := seqBatches(1, 2, 3, 7, 1000, impl.MaxNumber)
	text, _ := impl.HeadText(99, 98)
	for _, b := range want {
		record, _ := impl.BatchText(b)
		frame, ok := impl.Frame(record)
		if !ok {
			t.Fatalf("no frame of a batch with a seq of %d", b.Seq)
		}
		text += frame
	}
	mustSegment(t, "what was put", 99, text, 98, want, len(text), true)
}

func TestSeqsOfASegment(t *testing.T) {
	for _, c := range []struct {
		seqs  []int
		taken int
	}{
		{[]int{0}, 1},
		{[]int{5}, 1},
		{[]int{impl.MaxNumber}, 1},
		{[]int{0, 1, 2, 3}, 4},
		{[]int{7, 8, 9}, 3},
		{[]int{1, 3, 100, 128, 129, 20000}, 6},
		{[]int{0, impl.MaxNumber}, 2},
		{[]int{impl.MaxNumber - 1, impl.MaxNumber}, 2},
		{[]int{0, 0}, 1},
		{[]int{1, 1}, 1},
		{[]int{1, 2, 2, 3}, 2},
		{[]int{1, 2, 3, 3}, 3},
		{[]int{impl.MaxNumber, impl.MaxNumber}, 1},
		{[]int{1, 0}, 1},
		{[]int{2, 1, 3}, 1},
		{[]int{1, 3, 2, 4, 5}, 2},
		{[]int{1, 2, 0, 3}, 2},
		{[]int{impl.MaxNumber, 0}, 1},
		{[]int{128, 127}, 1},
		{[]int{255, 256, 128, 300}, 2},
	} {
		batches := seqBatches(c.seqs...)
		text := segmentByHand(9, 9, c.seqs...)
		taken := batches[:c.taken]
		end := len(headByHand(9, 9)) + len(batchFrames(taken))
		mustSegment(t, "seqs", 9, text, 9, taken, end, true)
		mustSegmentPlainly(t, "seqs", 9, text)
	}
}

// A batch that stands there twice is told once, and is the last one.
func TestABatchTwiceInASegment(t *testing.T) {
	b := batchOf(1, put("a", "x"))
	other := batchOf(1, put("a", "y"))
	text := headByHand(2, 0) + batchFrame(b)
	mustSegment(t, "the same batch", 2, text+batchFrame(b), 0, []impl.Batch{b}, len(text), true)
	mustSegment(t, "another one with its seq", 2, text+batchFrame(other), 0, []impl.Batch{b}, len(text), true)
}

func wrongHeads() map[string]string {
	batch := batchByHand(batchOf(1, put("a", "x")))
	return map[string]string{
		"nothing":                        "",
		"a byte":                         "\x00",
		"bytes that are no frame":        "H\x05\x03",
		"a batch's frame":                frameByHand(batch),
		"a batch ahead of the head":      frameByHand(batch) + headByHand(5, 3),
		"bytes ahead of the head":        "\x00" + headByHand(5, 3),
		"a head of the number below":     headByHand(4, 3),
		"a head of the number above":     headByHand(6, 3),
		"a head of its from":             headByHand(3, 3),
		"both numbers the other way":     headByHand(3, 5),
		"a head of 0":                    headByHand(0, 0),
		"a head of another, then its":    headByHand(6, 3) + headByHand(5, 3),
		"from of n + 1":                  headByHand(5, 6),
		"from of MaxSegment":             headByHand(5, impl.MaxSegment),
		"from of 128":                    headByHand(5, 128),
		"from of MaxNumber":              headByHand(5, impl.MaxNumber),
		"from of MaxNumber + 1":          headByHand(5, impl.MaxNumber+1),
		"a mark alone":                   frameByHand("H"),
		"a number alone":                 frameByHand("H\x05"),
		"numbers alone":                  frameByHand("\x05\x03"),
		"a byte behind its numbers":      frameByHand("H\x05\x03\x00"),
		"a third number":                 frameByHand("H\x05\x03\x01"),
		"much behind its numbers":        frameByHand("H\x05\x03" + someText(300)),
		"a batch behind its numbers":     frameByHand("H\x05\x03" + batch),
		"a small mark":                   frameByHand("h\x05\x03"),
		"a batch's mark":                 frameByHand("B\x05\x03"),
		"the mark twice":                 frameByHand("HH\x05\x03"),
		"a cut from":                     frameByHand("H\x05\x83"),
		"a cut number":                   frameByHand("H\x85"),
		"a longer form of its number":    frameByHand("H\x85\x00\x03"),
		"a longer form of its from":      frameByHand("H\x05\x83\x00"),
		"numbers in figures":             frameByHand("H53"),
		"a longer form of its length":    "\x83\x00" + sumByHand("H\x05\x03") + "H\x05\x03",
		"the sum of another head":        "\x03" + sumByHand("H\x05\x04") + "H\x05\x03",
		"the sum the other way round":    "\x03" + turnedRound(sumByHand("H\x05\x03")) + "H\x05\x03",
		"no sum":                         "\x03H\x05\x03",
		"a length of 0 ahead":            "\x00" + sumByHand("") + headByHand(5, 3),
		"a frame of a head in a frame":   frameByHand(headByHand(5, 3)),
		"a length that is more":          "\x04" + sumByHand("H\x05\x03") + "H\x05\x03",
		"a length that is less":          "\x02" + sumByHand("H\x05\x03") + "H\x05\x03",
		"sealed, not in a frame":         sealedByHand("H\x05\x03"),
		"a name, not a number":           frameByHand("Hb5\x03"),
		"a number that is 5 more by 128": headByHand(133, 3),
	}
}

func turnedRound(text string) string {
	out := []byte(text)
	slices.Reverse(out)
	return string(out)
}

func TestHeadsThatAreWrong(t *testing.T) {
	good := segmentByHand(5, 3, 1, 2)
	mustSegment(t, "a right one", 5, good, 3, seqBatches(1, 2), len(good), true)
	for why, head := range wrongHeads() {
		mustNotSegment(t, why, 5, head)
		mustNotSegment(t, why+", then batches", 5, head+batchFrames(seqBatches(1, 2)))
		if head != "" {
			mustNotSegment(t, why+", then a segment", 5, head+good)
		}
		mustSegmentPlainly(t, why, 5, head)
	}
}

func TestOneByteOfAHeadThatIsAnother(t *testing.T) {
	for _, numbers := range [][2]int{{0, 0}, {5, 3}, {99, 98}} {
		n, from := numbers[0], numbers[1]
		text := segmentByHand(n, from, 1)
		for at := range len(headByHand(n, from)) {
			for turn := 1; turn < 256; turn++ {
				mustNotSegment(t, "a byte of the head is another", n, turnByte(text, at, byte(turn)))
			}
		}
	}
}

// Each record of up to four bytes that begins as a head does is one just when HeadText writes it.
func TestShortHeads(t *testing.T) {
	heads := 0
	for number := range 256 {
		for _, from := range []int{0, 1, 5, 98, 99, 100, 127, 128, 255} {
			text := frameByHand(string([]byte{'H', byte(number), byte(from)}))
			if mustSegmentPlainly(t, "three bytes", number, text) {
				heads++
			}
			mustSegmentPlainly(t, "three bytes, another number", 5, text)
			mustSegmentPlainly(t, "four bytes", number, frameByHand(string([]byte{'H', byte(number), byte(from), 0})))
			mustSegmentPlainly(t, "four bytes, numbers of two", number-128, frameByHand(string([]byte{'H', byte(number), 1, byte(from)})))
		}
	}
	if heads < 100 {
		t.Errorf("only %d heads", heads)
	}
}

func TestReadSegmentOfNumbersThatAreNotRight(t *testing.T) {
	for _, n := range []int{math.MinInt, -128, -1, impl.MaxSegment + 1, 127, 128, 256, impl.MaxNumber, math.MaxInt} {
		mustNotSegment(t, "nothing", n, "")
		mustNotSegment(t, "a segment of 0", n, segmentByHand(0, 0, 1))
		mustNotSegment(t, "a segment of 99", n, segmentByHand(99, 0, 1))
		if n >= 0 {
			mustNotSegment(t, "a head of this number", n, segmentByHand(n, 0, 1))
			mustNotSegment(t, "a head of this number, from it", n, segmentByHand(n, min(n, 1000000), 1))
		}
	}
	for _, n := range []int{0, 1, impl.MaxSegment - 1, impl.MaxSegment} {
		for _, from := range []int{0, n / 2, n} {
			text := segmentByHand(n, from, 1)
			mustSegment(t, "a right number", n, text, from, seqBatches(1), len(text), true)
		}
		mustNotSegment(t, "from of n + 1", n, segmentByHand(n, n+1, 1))
	}
}

func TestASegmentThatIsCut(t *testing.T) {
	batches := seqBatches(3, 4, 9, 200)
	batches[2].Changes[0].Value = someText(150)
	whole := headByHand(7, 2) + batchFrames(batches)
	for cut := range len(whole) + 1 {
		if cut < len(headByHand(7, 2)) {
			mustNotSegment(t, "cut in its head", 7, whole[:cut])
			continue
		}
		end := len(headByHand(7, 2))
		count := 0
		for _, b := range batches {
			if end+len(batchFrame(b)) > cut {
				break
			}
			end += len(batchFrame(b))
			count++
		}
		mustSegment(t, "cut", 7, whole[:cut], 2, batches[:count], end, true)
	}
}

// Each of these is no whole frame, or is the frame of what is no batch that goes on behind the Seqs 3 and 4.
func bytesThatDoNotGoOn() map[string]string {
	next := batchFrame(batchOf(5, put("z", "next")))
	b := batchByHand(batchOf(5, put("a", "x")))
	wrong := map[string]string{
		"a byte":                             "\x00",
		"a high byte":                        "\xff",
		"noughts":                            strings.Repeat("\x00", 40),
		"many bytes":                         someText(300),
		"a frame of other bytes":             frameByHand("other"),
		"a frame of the byte B":              frameByHand("B"),
		"a frame of a byte":                  frameByHand("\x00"),
		"a frame of MaxRecord bytes":         frameByHand(someText(impl.MaxRecord)),
		"its head once more":                 headByHand(6, 4),
		"another head":                       headByHand(7, 4),
		"a frame of a batch's frame":         frameByHand(next),
		"a batch without a frame":            b,
		"a batch with a byte behind":         frameByHand(b + "\x00"),
		"two batches in one frame":           frameByHand(b + batchByHand(batchOf(6, put("a", "x")))),
		"a batch without its end":            frameByHand(b[:len(b)-1]),
		"a batch without its mark":           frameByHand(b[1:]),
		"a batch with another mark":          frameByHand("C" + b[1:]),
		"a batch without changes":            batchFrame(batchOf(5)),
		"a seq of MaxNumber + 1":             batchFrame(batchOf(impl.MaxNumber+1, put("a", "x"))),
		"a key that is too long":             batchFrame(batchOf(5, put(someText(impl.MaxKey+1), "x"))),
		"keys that do not ascend":            batchFrame(batchOf(5, put("b", "x"), put("a", "x"))),
		"a longer form of a seq":             frameByHand("B\x85\x00" + b[2:]),
		"a longer form of a frame's length":  longerForms(len(b))[0] + sumByHand(b) + b,
		"a frame with a wrong sum":           turnByte(next, 2, 1),
		"a frame with a turned byte":         turnByte(next, len(next)-1, 128),
		"a frame that tells one byte more":   varByHand(len(b)+1) + sumByHand(b) + b,
		"a seq that stays":                   batchFrame(batchOf(4, put("b", "y"))),
		"a seq that falls by one":            batchFrame(batchOf(3, put("b", "y"))),
		"a seq that falls to 0":              batchFrame(batchOf(0, put("b", "y"))),
		"a length of 0, and a sum of it":     frameByHand(""),
		"a record longer than MaxRecord":     frameByHand(someText(impl.MaxRecord + 1)),
		"a batch of more than MaxRecord":     batchFrame(batchOfLength(impl.MaxRecord + 1)),
		"a batch whose gone key has a value": batchFrame(batchOf(5, impl.Change{Key: "a", Value: "x", Gone: true})),
	}
	for cut := range len(next) {
		wrong["the next batch, cut at "+strconv.Itoa(cut)] = next[:cut]
	}
	return wrong
}

// Whatever stands behind the batches, and whatever stands behind that, the batches are read as they were put.
func TestBytesBehindTheBatchesChangeNothing(t *testing.T) {
	batches := seqBatches(3, 4)
	text := headByHand(6, 4) + batchFrames(batches)
	next := batchFrame(batchOf(5, put("z", "next")))
	mustSegment(t, "the next batch", 6, text+next, 4, append(slices.Clone(batches), batchOf(5, put("z", "next"))), len(text+next), true)
	for why, behind := range bytesThatDoNotGoOn() {
		mustSegment(t, why, 6, text+behind, 4, batches, len(text), true)
		if !strings.Contains(why, "cut at 0") {
			mustSegment(t, why+", then a batch", 6, text+behind+next, 4, batches, len(text), true)
			mustSegment(t, why+", then batches", 6, text+behind+next+batchFrames(seqBatches(6, 7)), 4, batches, len(text), true)
		}
	}
}

// Behind a head without batches any Seq rises, and all else is refused as it is behind batches.
func TestBytesBehindAHead(t *testing.T) {
	head := headByHand(6, 4)
	next := batchFrame(batchOf(5, put("z", "next")))
	for why, behind := range bytesThatDoNotGoOn() {
		if strings.HasPrefix(why, "a seq that") || strings.Contains(why, "cut at 0") {
			continue
		}
		mustSegment(t, why, 6, head+behind, 4, nil, len(head), true)
		mustSegment(t, why+", then a batch", 6, head+behind+next, 4, nil, len(head), true)
	}
	for _, seq := range []int{0, 1, 3, 4, impl.MaxNumber} {
		b := batchOf(seq, put("b", "y"))
		text := head + batchFrame(b)
		mustSegment(t, "any seq", 6, text, 4, []impl.Batch{b}, len(text), true)
	}
}

func TestReadSegmentAtTheLimitsOfAFile(t *testing.T) {
	b1, b2 := batchOfLength(impl.MaxRecord), batchOfLength(impl.MaxRecord-1)
	b1.Seq, b2.Seq = 1, 2
	text := headByHand(1, 1) + batchFrame(b1) + batchFrame(b2)
	rest := impl.MaxText - len(text)
	b3 := batchOf(3, put("a", someText(rest-len(batchFrame(batchOf(3, put("a", someText(200)))))+200)))
	full := text + batchFrame(b3)
	if len(full) != impl.MaxText {
		t.Fatalf("a segment of %d bytes", len(full))
	}
	mustSegment(t, "MaxText bytes", 1, full, 1, []impl.Batch{b1, b2, b3}, impl.MaxText, true)
	mustSegment(t, "MaxText bytes but the last", 1, full[:len(full)-1], 1, []impl.Batch{b1, b2}, len(text), true)
	mustSegment(t, "MaxText bytes, the last ones torn", 1, text+strings.Repeat("\xff", rest), 1, []impl.Batch{b1, b2}, len(text), true)
	mustNotSegment(t, "MaxText bytes, and one more", 1, full+"\x00")
	mustNotSegment(t, "MaxText + 1 bytes, most of them torn", 1, text+strings.Repeat("\xff", rest+1))
	mustNotSegment(t, "a head, and MaxText bytes", 1, headByHand(1, 1)+someText(impl.MaxText))
	mustNotSegment(t, "far longer than MaxText", 1, strings.Repeat(full, 50))
	b4 := batchOf(3, put("a", b3.Changes[0].Value+"x"))
	mustNotSegment(t, "batches of MaxText + 1 bytes", 1, text+batchFrame(b4))
}

func file(name, text string) impl.File { return impl.File{Name: name, Text: text, Kept: len(text)} }

// segFile has a segment with these Seqs.
func segFile(n, from int, seqs ...int) impl.File {
	return file("b"+strconv.Itoa(n), segmentByHand(n, from, seqs...))
}

// sortedDisk has its files in the order of their names, in which b10 is ahead of b2.
func sortedDisk(files ...impl.File) impl.Disk {
	own := slices.Clone(files)
	slices.SortFunc(own, func(x, y impl.File) int { return strings.Compare(x.Name, y.Name) })
	return impl.Disk{Files: own}
}

func mustSegments(t *testing.T, why string, d impl.Disk, want []int, wantOk bool) {
	t.Helper()
	got, ok := impl.Segments(d)
	if !slices.Equal(got, want) || ok != wantOk {
		t.Errorf("%s: Segments: %v %v, want %v %v", why, got, ok, want, wantOk)
	}
}

func mustNotSegments(t *testing.T, why string, d impl.Disk) {
	t.Helper()
	mustSegments(t, why, d, nil, false)
	if impl.SeqsRise(d) {
		t.Errorf("%s: SeqsRise, but Segments is false", why)
	}
}

func TestSegmentsOfADisk(t *testing.T) {
	for _, c := range []struct {
		why  string
		d    impl.Disk
		want []int
	}{
		{"segment 0", sortedDisk(segFile(0, 0)), []int{0}},
		{"segment 0 with batches", sortedDisk(segFile(0, 0, 1, 2)), []int{0}},
		{"segment 99", sortedDisk(segFile(99, 0, 1)), []int{99}},
		{"segment 99, from it", sortedDisk(segFile(99, 99, 1)), []int{99}},
		{"several", sortedDisk(segFile(0, 0, 1), segFile(1, 0, 2), segFile(2, 0, 3)), []int{0, 1, 2}},
		{"by numbers, not by names", sortedDisk(segFile(2, 0, 1), segFile(9, 0, 2), segFile(10, 0, 3), segFile(11, 0, 4), segFile(99, 0, 5)), []int{2, 9, 10, 11, 99}},
		{"numbers that are missing", sortedDisk(segFile(3, 0, 1), segFile(50, 0, 2)), []int{3, 50}},
		{"from of the first", sortedDisk(segFile(1, 1, 1), segFile(2, 1, 2)), []int{1, 2}},
		{"from of the second", sortedDisk(segFile(0, 0, 1), segFile(1, 1, 2), segFile(2, 1, 3)), []int{1, 2}},
		{"from of the last", sortedDisk(segFile(0, 0, 1), segFile(1, 0, 2), segFile(2, 2, 3)), []int{2}},
		{"from in the middle", sortedDisk(segFile(0, 0, 1), segFile(5, 4, 2), segFile(7, 0, 3)), []int{5, 7}},
		{"from that is no segment", sortedDisk(segFile(1, 0, 1), segFile(3, 0, 2), segFile(5, 2, 3)), []int{3, 5}},
		{"from just above a segment", sortedDisk(segFile(1, 0, 1), segFile(5, 2, 3)), []int{5}},
		{"from just at a segment", sortedDisk(segFile(2, 0, 1), segFile(5, 2, 3)), []int{2, 5}},
		{"from just below a segment", sortedDisk(segFile(3, 0, 1), segFile(5, 2, 3)), []int{3, 5}},
		{"different froms, the greatest first", sortedDisk(segFile(4, 4, 1), segFile(5, 2, 2), segFile(6, 0, 3)), []int{4, 5, 6}},
		{"different froms, the greatest last", sortedDisk(segFile(4, 1, 1), segFile(5, 2, 2), segFile(6, 5, 3)), []int{5, 6}},
		{"different froms, the greatest in the middle", sortedDisk(segFile(4, 1, 1), segFile(5, 5, 2), segFile(6, 2, 3)), []int{5, 6}},
		{"the greatest from of one that does not count", sortedDisk(segFile(1, 0, 1), segFile(5, 5, 2), segFile(10, 10, 3)), []int{10}},
		{"a merge that was cut", sortedDisk(segFile(0, 0, 1), segFile(1, 0, 2), segFile(2, 2, 2), segFile(3, 0, 3), file("m+", "torn")), []int{2, 3}},
		{"torn bytes behind all", sortedDisk(file("b0", segmentByHand(0, 0, 1)+"torn"), file("b1", segmentByHand(1, 0, 2)+"\x09")), []int{0, 1}},
		{"seqs that fall", sortedDisk(segFile(0, 0, 5, 4), segFile(1, 0, 1)), []int{0, 1}},
		{"a head and no kept byte", diskOf(impl.File{Name: "b7", Text: headByHand(7, 1)}), []int{7}},
	} {
		mustSegments(t, c.why, c.d, c.want, true)
	}
	var all []impl.File
	var numbers []int
	for n := 70; n < 100; n++ {
		all = append(all, segFile(n, n/2, n))
		numbers = append(numbers, n)
	}
	mustSegments(t, "MaxFiles segments", sortedDisk(all...), numbers, true)
	mustNotSegments(t, "MaxFiles + 1 files", sortedDisk(append(all, file("a", ""))...))
}

// otherNames are of files that are no segments.
func otherNames() []string {
	return []string{
		"b", "b00", "b01", "b010", "b09", "b099", "b100", "b101", "b256", "b999", "B1", "B", "b-1", "b-0", "b+1", "b1x", "bx1", "b1 ", "b 1", " b1", "b1.0", "b1\x00", "b\x001", "b\x01",
		"1", "0", "01", "a1", "c1", "bb1", "1b", "b1b1", "m+", "m", "m+1", "b0x1", "b1e1", "b1_0", "b_1", "b4294", "b\u0661", "12345678", "b1234567", "\xff",
	}
}

func TestOtherFilesBesideTheSegments(t *testing.T) {
	for _, name := range otherNames() {
		if !impl.DiskOk(sortedDisk(file(name, ""))) {
			t.Fatalf("%q is no name", name)
		}
		for why, text := range map[string]string{
			"nothing":            "",
			"other bytes":        "other",
			"a segment of 1":     segmentByHand(1, 1, 7),
			"a segment of 99":    segmentByHand(99, 99, 7),
			"a segment of 0":     segmentByHand(0, 0, 7),
			"a head of 10":       headByHand(10, 10),
			"a head of 100":      headByHand(100, 100),
			"seqs that are less": segmentByHand(1, 0, 0),
		} {
			why = strconv.Quote(name) + " with " + why
			mustNotSegments(t, why+" alone", sortedDisk(file(name, text)))
			d := sortedDisk(file(name, text), segFile(2, 1, 3), segFile(10, 2, 4))
			mustSegments(t, why, d, []int{2, 10}, true)
			if !impl.SeqsRise(d) {
				t.Errorf("%s: the seqs do not rise", why)
			}
		}
	}
	files := []impl.File{segFile(0, 0, 1), segFile(10, 0, 2)}
	for _, name := range otherNames()[:25] {
		files = append(files, file(name, segmentByHand(99, 99, 0)))
	}
	mustSegments(t, "many other files", sortedDisk(files...), []int{0, 10}, true)
}

func TestDisksWithoutSegments(t *testing.T) {
	mustNotSegments(t, "no files", impl.Disk{})
	mustNotSegments(t, "an empty list of files", impl.Disk{Files: []impl.File{}})
	mustNotSegments(t, "another file", sortedDisk(file("a", headByHand(0, 0))))
	mustNotSegments(t, "a new file", sortedDisk(file(impl.NameNew, headByHand(0, 0))))
	for _, c := range rightDisks() {
		mustNotSegments(t, c.why, c.d)
	}
}

func TestSegmentsOfDisksThatAreNotRight(t *testing.T) {
	for _, c := range wrongDisks() {
		mustNotSegments(t, c.why, c.d)
	}
	b0, b1 := segFile(0, 0, 1), segFile(1, 0, 2)
	low, high, half := b1, b1, b1
	low.Kept, high.Kept, half.Kept = -1, len(b1.Text)+1, 3
	mustSegments(t, "not all kept", diskOf(b0, half), []int{0, 1}, true)
	for _, c := range []namedDisk{
		{"names not ascending", diskOf(b1, b0)},
		{"by numbers, not by names", diskOf(segFile(2, 0, 1), segFile(10, 0, 2))},
		{"the same name twice", diskOf(b0, b0)},
		{"kept below 0", diskOf(b0, low)},
		{"kept above its length", diskOf(b0, high)},
		{"another file is not right", diskOf(b0, b1, impl.File{Name: "c", Kept: 1})},
		{"another name is too long", diskOf(b0, b1, file("c12345678", ""))},
		{"no name", diskOf(file("", ""), b0)},
		{"a segment of more than MaxText bytes", diskOf(file("b0", b0.Text+someText(impl.MaxText)), b1)},
		{"a dropped segment is not right", diskOf(impl.File{Name: "b0", Text: b0.Text, Kept: -1}, segFile(1, 1, 2))},
	} {
		mustNotSegments(t, c.why, c.d)
	}
}

func TestSegmentsWithWrongHeads(t *testing.T) {
	for why, head := range wrongHeads() {
		wrong := file("b5", head)
		mustNotSegments(t, why+" alone", sortedDisk(wrong))
		mustNotSegments(t, why+", first", sortedDisk(wrong, segFile(6, 5, 1), segFile(7, 0, 2)))
		mustNotSegments(t, why+", last", sortedDisk(segFile(3, 0, 1), segFile(4, 4, 2), wrong))
		mustNotSegments(t, why+", between others", sortedDisk(segFile(3, 0, 1), wrong, segFile(10, 5, 2)))
		mustNotSegments(t, why+", and no from", sortedDisk(segFile(0, 0, 1), wrong, segFile(10, 0, 2)))
		mustSegments(t, why+", just below from", sortedDisk(wrong, segFile(6, 6, 1), segFile(10, 0, 2)), []int{6, 10}, true)
		mustSegments(t, why+", far below from", sortedDisk(segFile(1, 1, 9), wrong, segFile(10, 10, 1), segFile(20, 0, 2)), []int{10, 20}, true)
	}
}

// A head in the file of another number tells no from, however great that is.
func TestHeadsOfOtherNumbersTellNoFrom(t *testing.T) {
	mustNotSegments(t, "a head of 9 in b1", sortedDisk(file("b1", headByHand(9, 9)), segFile(9, 0, 1)))
	mustNotSegments(t, "a head of 9 in b1, from 2", sortedDisk(file("b1", headByHand(9, 2)), segFile(2, 0, 1), segFile(9, 0, 2)))
	mustNotSegments(t, "heads that are each other's", sortedDisk(file("b1", headByHand(2, 2)), file("b2", headByHand(1, 1))))
	mustNotSegments(t, "the last one has the head of the first", sortedDisk(segFile(1, 1, 1), file("b2", headByHand(1, 1))))
	mustNotSegments(t, "a from above its number", sortedDisk(file("b1", headByHand(1, 2)), segFile(2, 0, 1)))
	d := sortedDisk(file("b1", headByHand(9, 9)), segFile(2, 2, 1), segFile(9, 0, 2))
	mustSegments(t, "a head of 9 in b1, which does not count", d, []int{2, 9}, true)
	d = sortedDisk(file("b1", headByHand(1, 0)+headByHand(1, 1)), segFile(0, 0, 1), file("b2", segmentByHand(2, 0, 2)+headByHand(2, 2)))
	mustSegments(t, "a second head tells no from", d, []int{0, 1, 2}, true)
}

func TestSeqsRise(t *testing.T) {
	for _, c := range []struct {
		why  string
		d    impl.Disk
		want bool
	}{
		{"no batches", sortedDisk(segFile(0, 0)), true},
		{"no batches in several", sortedDisk(segFile(0, 0), segFile(1, 0), segFile(2, 0)), true},
		{"one batch", sortedDisk(segFile(0, 0, 1)), true},
		{"one batch of seq 0", sortedDisk(segFile(0, 0, 0)), true},
		{"rising by one", sortedDisk(segFile(0, 0, 1, 2), segFile(1, 0, 3, 4), segFile(2, 0, 5)), true},
		{"rising by more", sortedDisk(segFile(0, 0, 1, 7), segFile(1, 0, 300), segFile(2, 0, impl.MaxNumber)), true},
		{"from 0 on", sortedDisk(segFile(0, 0, 0), segFile(1, 0, 1)), true},
		{"an empty one between", sortedDisk(segFile(0, 0, 1), segFile(1, 0), segFile(2, 0, 2)), true},
		{"an empty one first", sortedDisk(segFile(0, 0), segFile(1, 0, 0)), true},
		{"by numbers, not by names", sortedDisk(segFile(2, 0, 1), segFile(10, 0, 2), segFile(11, 0, 3)), true},
		{"by names, not by numbers", sortedDisk(segFile(2, 0, 2), segFile(10, 0, 1)), false},
		{"staying from one to the next", sortedDisk(segFile(0, 0, 1, 2), segFile(1, 0, 2, 3)), false},
		{"staying at 0", sortedDisk(segFile(0, 0, 0), segFile(1, 0, 0)), false},
		{"staying at MaxNumber", sortedDisk(segFile(0, 0, impl.MaxNumber), segFile(1, 0, impl.MaxNumber)), false},
		{"falling from one to the next", sortedDisk(segFile(0, 0, 5, 6), segFile(1, 0, 1, 2)), false},
		{"falling to 0", sortedDisk(segFile(0, 0, 1), segFile(1, 0, 0)), false},
		{"falling from MaxNumber", sortedDisk(segFile(0, 0, impl.MaxNumber), segFile(1, 0, 0)), false},
		{"falling by one at the end", sortedDisk(segFile(0, 0, 1, 2), segFile(1, 0, 3, 9), segFile(2, 0, 8)), false},
		{"falling within those of the one ahead", sortedDisk(segFile(0, 0, 1, 5), segFile(1, 0, 3, 9)), false},
		{"falling over an empty one", sortedDisk(segFile(0, 0, 4), segFile(1, 0), segFile(2, 0, 3)), false},
		{"staying over an empty one", sortedDisk(segFile(0, 0, 4), segFile(1, 0), segFile(2, 0, 4)), false},
		{"the last is above the first alone", sortedDisk(segFile(0, 0, 1), segFile(1, 0, 9), segFile(2, 0, 5)), false},
		{"a segment that does not count", sortedDisk(segFile(0, 0, 9), segFile(1, 1, 1), segFile(2, 0, 2)), true},
		{"a segment that does not count, with the same seqs", sortedDisk(segFile(0, 0, 1), segFile(1, 1, 1, 2), segFile(2, 0, 3)), true},
		{"the same segment counts", sortedDisk(segFile(0, 0, 9), segFile(1, 0, 1), segFile(2, 0, 2)), false},
		{"a batch within a segment that is not taken", sortedDisk(segFile(0, 0, 5, 4), segFile(1, 0, 6)), true},
		{"a batch that is not taken is no limit", sortedDisk(segFile(0, 0, 5, 5, 9), segFile(1, 0, 6)), true},
		{"a torn batch is no limit", sortedDisk(file("b0", segmentByHand(0, 0, 5)+turnByte(batchFrame(batchOf(9, put("a", "x"))), 3, 1)), segFile(1, 0, 6)), true},
		{"torn bytes", sortedDisk(file("b0", segmentByHand(0, 0, 5)+"torn"), file("b1", segmentByHand(1, 0, 6)+"torn")), true},
		{"other files", sortedDisk(segFile(0, 0, 5), segFile(1, 0, 6), file("b01", segmentByHand(1, 0, 1)), file("m+", segmentByHand(1, 1, 1))), true},
		{"a wrong head", sortedDisk(segFile(0, 0, 5), file("b1", segmentByHand(2, 0, 6))), false},
		{"a wrong head that does not count", sortedDisk(file("b0", segmentByHand(2, 0, 6)), segFile(1, 1, 5)), true},
	} {
		if got := impl.SeqsRise(c.d); got != c.want {
			t.Errorf("%s: %v, want %v", c.why, got, c.want)
		}
	}
}

// segmentText draws a segment whose Seqs mostly rise, behind a head that is mostly its own.
func (w *drawer) segmentText(n, seq int) string {
	from := w.below(n + 1)
	if w.below(3) > 0 {
		from = w.below(n/8 + 1)
	}
	text := headByHand(n, from)
	if w.below(30) == 0 {
		text = headByHand(w.below(101), from)
	}
	for range w.below(4) {
		b := w.batch()
		for len(batchByHand(b)) > 300 {
			b = w.batch()
		}
		b.Seq = seq
		text += batchFrame(b)
		seq += w.below(8)
	}
	for range w.below(3) / 2 {
		text = w.damaged(text)
	}
	return text
}

func TestDrawnSegments(t *testing.T) {
	draw := &drawer{state: 6}
	right, wrong := 0, 0
	for range 1500 {
		n := draw.below(100)
		text := draw.segmentText(n, draw.below(300))
		if mustSegmentPlainly(t, "a drawn segment", n, text) {
			right++
		} else {
			wrong++
		}
	}
	if right < 500 || wrong < 100 {
		t.Errorf("only %d right segments, %d wrong ones", right, wrong)
	}
}

func (w *drawer) segmentDisk() impl.Disk {
	names := otherNames()
	texts := map[string]string{}
	seq := 0
	n := w.below(20)
	for range w.below(6) {
		texts["b"+strconv.Itoa(n)] = w.segmentText(n, seq)
		seq += w.below(20)
		if n += 1 + w.below(4); n > 99 {
			break
		}
	}
	for range w.below(4) {
		texts[names[w.below(len(names))]] = w.segmentText(w.below(100), w.below(100))
	}
	var files []impl.File
	for name, text := range texts {
		files = append(files, file(name, text))
	}
	d := sortedDisk(files...)
	if len(d.Files) > 1 && w.below(30) == 0 {
		slices.Reverse(d.Files)
	}
	return d
}

func TestDrawnDisksOfSegments(t *testing.T) {
	draw := &drawer{state: 7}
	right, wrong, rise := 0, 0, 0
	for range 1500 {
		d := draw.segmentDisk()
		want, seqs, ok := plainSegments(d)
		mustSegments(t, "a drawn disk: "+brief(d), d, want, ok)
		if !ok {
			wrong++
		} else {
			right++
		}
		wantRise := ok && rising(seqs)
		if wantRise {
			rise++
		}
		if got := impl.SeqsRise(d); got != wantRise {
			t.Errorf("a drawn disk: SeqsRise %v of %v: %s", got, seqs, brief(d))
		}
	}
	if right < 300 || wrong < 100 || rise < 100 || rise > right-50 {
		t.Errorf("only %d right disks (%d that rise), %d wrong ones", right, rise, wrong)
	}
}

// What was kept of a segment is read whatever the power leaves; of a batch that was not kept all or nothing is.
func TestASegmentOnADiskThatLosesItsPower(t *testing.T) {
	batches := seqBatches(1, 2)
	kept := headByHand(3, 1) + batchFrames(batches)
	last := batchOf(3, put("last", someText(20)), gone("lost"))
	name := impl.SegName(3)
	list := []impl.Act{add(name, kept), keep(name), add(name, batchFrame(last))}
	whole := len(kept) + len(batchFrame(last))
	for left := range whole + 2 {
		d, ok := impl.CutActs(impl.Disk{}, list, 3, []int{left})
		text, there := impl.FileAt(d, name)
		if !ok || !there {
			t.Fatalf("no file is left of %d bytes", left)
		}
		if left >= whole {
			mustSegment(t, "all is left", 3, text, 1, append(slices.Clone(batches), last), whole, true)
		} else {
			mustSegment(t, "some is left", 3, text, 1, batches, len(kept), true)
		}
		mustSegments(t, "what is left", d, []int{3}, true)
		if !impl.SeqsRise(d) {
			t.Errorf("of %d bytes the seqs do not rise", left)
		}
	}
}

func TestReadSegmentSharesNothing(t *testing.T) {
	batches := []impl.Batch{
		batchOf(1, put("a", "x"), gone("b"), put("c", someText(40))),
		batchOf(2, put("a", "x"), gone("b"), put("c", someText(40))),
		batchOf(3, manyChanges(8)...),
	}
	for _, behind := range []string{"", "torn", batchFrame(batches[0])} {
		text := headByHand(8, 5) + batchFrames(batches) + behind
		before := strings.Clone(text)
		_, first, _, _ := impl.ReadSegment(8, text)
		_, second, _, _ := impl.ReadSegment(8, text)
		told := toldTexts(slices.Concat(first, second))
		for place, s := range told {
			if sharesBytes(s, text) {
				t.Errorf("a text of %d bytes shares what came in", len(s))
			}
			for _, other := range told[:place] {
				if sharesBytes(s, other) {
					t.Errorf("texts of %d and %d bytes share memory", len(s), len(other))
				}
			}
		}
		for place := range first {
			own := first[place].Changes
			_ = append(own, gone("behind"))
			for n := range own[:cap(own)] {
				own[:cap(own)][n] = gone("gone")
			}
			for _, other := range first[place+1:] {
				if slices.Contains(other.Changes, gone("gone")) {
					t.Error("two lists of one answer share memory")
				}
			}
		}
		if !slices.EqualFunc(second, batches, sameBatch) || text != before {
			t.Error("what was told is changed by another answer")
		}
		mustSegment(t, "once more", 8, text, 5, batches, len(text)-len(behind), true)
	}
}

func toldTexts(batches []impl.Batch) []string {
	var told []string
	for _, b := range batches {
		for _, change := range b.Changes {
			told = append(told, change.Key, change.Value)
		}
	}
	return told
}

func TestNamesAndHeadsShareNothing(t *testing.T) {
	if sharesBytes(impl.SegName(12), impl.SegName(12)) {
		t.Error("two names share memory")
	}
	head, _ := impl.HeadText(12, 3)
	anew, _ := impl.HeadText(12, 3)
	if sharesBytes(head, anew) {
		t.Error("two heads share memory")
	}
}

// The files stand in a list with room behind them, so that writing there is told, too.
func TestSegmentsLeaveTheirArgumentsAlone(t *testing.T) {
	for _, d := range []impl.Disk{
		sortedDisk(segFile(0, 0, 1), segFile(2, 1, 3), segFile(10, 2, 4, 5), file("m+", "torn")),
		sortedDisk(segFile(0, 0, 9), segFile(1, 0, 3)),
		sortedDisk(file("b0", "torn"), segFile(1, 0, 3)),
		diskOf(segFile(1, 0, 3), segFile(0, 0, 3)),
		{},
	} {
		room := make([]impl.File, 0, len(d.Files)+8)
		room = append(room, copyDisk(d).Files...)
		for n := range 8 {
			room = append(room, impl.File{Name: "room" + strconv.Itoa(n), Text: "room", Kept: n})
		}
		before := copyDisk(impl.Disk{Files: room})
		came := impl.Disk{Files: room[:len(d.Files)]}
		first, ok := impl.Segments(came)
		second, _ := impl.Segments(came)
		rise := impl.SeqsRise(came)
		want := slices.Clone(first)
		for place := range first[:cap(first)] {
			first[:cap(first)][place] = -1
		}
		if !slices.Equal(second, want) {
			t.Errorf("two answers of %s share memory", brief(d))
		}
		mustSegments(t, "once more", came, want, ok)
		if impl.SeqsRise(came) != rise {
			t.Errorf("SeqsRise of %s answers otherwise the second time", brief(d))
		}
		if !sameDisk(impl.Disk{Files: room}, before) {
			t.Errorf("what came in is changed: %s", brief(impl.Disk{Files: room}))
		}
	}
}
