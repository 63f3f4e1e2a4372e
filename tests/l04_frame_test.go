package tests

import (
	"slices"
	"strings"
	"testing"

	"loop.example/g00124/impl"
)

// varByHand is there for numbers that VarText refuses, too.
func varByHand(n int) string {
	var out []byte
	for n > 127 {
		out = append(out, byte(n%128)|128)
		n /= 128
	}
	return string(append(out, byte(n)))
}

func sumByHand(text string) string { return sealedByHand(text)[len(text):] }

// frameByHand is there for texts that Frame refuses, too.
func frameByHand(text string) string { return varByHand(len(text)) + sumByHand(text) + text }

func framesByHand(records []string) string {
	file := ""
	for _, record := range records {
		file += frameByHand(record)
	}
	return file
}

// plainUnframe tries every length that a record may have, at every place, as the document's words ask.
func plainUnframe(file string) ([]string, int) {
	if len(file) > impl.MaxText {
		return nil, 0
	}
	var records []string
	at := 0
frames:
	for {
		for length := 1; length <= impl.MaxRecord && at+length < len(file); length++ {
			from := at + len(varByHand(length)) + 4
			if from+length > len(file) || !strings.HasPrefix(file[at:], varByHand(length)) {
				continue
			}
			record := file[from : from+length]
			if frameByHand(record) == file[at:from+length] {
				records = append(records, record)
				at = from + length
				continue frames
			}
		}
		return records, at
	}
}

func lengths(records []string) []int {
	var out []int
	for _, record := range records {
		out = append(out, len(record))
	}
	return out
}

func mustUnframe(t *testing.T, why, file string, want []string, wantEnd int) {
	t.Helper()
	got, end := impl.Unframe(file)
	if !slices.Equal(got, want) || end != wantEnd {
		t.Errorf("%s: Unframe(%.20q of %d bytes): records of %v bytes, %d; want records of %v bytes, %d", why, file, len(file), lengths(got), end, lengths(want), wantEnd)
	}
}

func TestFrameConstants(t *testing.T) {
	if impl.MaxRecord != 9000 {
		t.Errorf("MaxRecord: %d", impl.MaxRecord)
	}
}

func TestFrame(t *testing.T) {
	for _, c := range []struct {
		text, frame string
	}{
		{"\x00", "\x01\x81\xa5\xc7\xdc\x00"},
		{"\x7f", "\x01\xd4\xe6\x33\xea\x7f"},
		{"\x80", "\x01\x55\xbc\x0b\xc9\x80"},
		{"\xff", "\x01\x00\xff\xff\xff\xff"},
		{"abc", "\x03\xa7\xcd\x0a\x81abc"},
		{"\xff\xff\xff\xff", "\x04\x00\x00\x00\x00\xff\xff\xff\xff"},
		{"123456789", "\x09\x78\xce\xaa\x89123456789"},
	} {
		frame, ok := impl.Frame(c.text)
		if frame != c.frame || !ok {
			t.Errorf("Frame(%q): %q %v, want %q", c.text, frame, ok, c.frame)
		}
		mustUnframe(t, "one frame", c.frame, []string{c.text}, len(c.frame))
	}
	for _, length := range []int{1, 2, 126, 127, 128, 129, 255, 256, impl.MaxRecord - 1, impl.MaxRecord} {
		text := someText(length)
		head := 2
		if length <= 127 {
			head = 1
		}
		frame, ok := impl.Frame(text)
		if frame != frameByHand(text) || len(frame) != head+4+length || !ok {
			t.Errorf("Frame of %d bytes: %.20q of %d bytes, %v", length, frame, len(frame), ok)
		}
		if sharesBytes(frame, text) {
			t.Errorf("Frame of %d bytes shares its argument's bytes", length)
		}
	}
	for _, length := range []int{0, impl.MaxRecord + 1, 16384, impl.MaxText - 5, impl.MaxText, impl.MaxText + 1, 3 * impl.MaxText} {
		if frame, ok := impl.Frame(someText(length)); frame != "" || ok {
			t.Errorf("Frame of %d bytes: %d bytes, %v", length, len(frame), ok)
		}
	}
}

// recordLists has lists of records, all frames of which fit into one file.
func recordLists() [][]string {
	return [][]string{
		nil,
		{"one"},
		{"\x00"},
		{"one", "two"},
		{"one", "one", "one"},
		{"\x00", "\x01", "\x00\x00", "\xff\xff\xff\xff", "\xff"},
		{someText(127), someText(128), "x"},
		{someText(128), someText(127)},
		{frameByHand("a frame in a frame"), "behind it"},
		{someText(impl.MaxRecord)},
		{"ahead", someText(impl.MaxRecord), "behind"},
		{someText(impl.MaxRecord), strings.Repeat("\xff", impl.MaxRecord), someText(1900)},
		{strings.Repeat("\x00", 300), "\u00e9\u20ac", "\r\n"},
	}
}

func TestRecordsComeBack(t *testing.T) {
	for _, records := range recordLists() {
		file := ""
		for _, record := range records {
			frame, ok := impl.Frame(record)
			if !ok {
				t.Fatalf("Frame of %d bytes is refused", len(record))
			}
			file += frame
		}
		mustUnframe(t, "whole frames", file, records, len(file))
	}
	for length := 1; length <= 300; length++ {
		frame, _ := impl.Frame(someText(length))
		mustUnframe(t, "one frame", frame, []string{someText(length)}, len(frame))
	}
	most := make([]string, 0, impl.MaxText/6)
	for n := range cap(most) {
		most = append(most, string([]byte{byte(n)}))
	}
	file := framesByHand(most)
	mustUnframe(t, "as many frames as a file has room for", file, most, len(file))
}

// firstWhole tells which of the records have their frames wholly in the first cut bytes, and where these end.
func firstWhole(records []string, cut int) ([]string, int) {
	end := 0
	for count, record := range records {
		behind := end + len(frameByHand(record))
		if behind > cut {
			return records[:count], end
		}
		end = behind
	}
	return records, end
}

func TestOfAFileThatIsCutJustTheWholeRecordsComeBack(t *testing.T) {
	for _, records := range recordLists() {
		file := framesByHand(records)
		for cut := range len(file) + 1 {
			// A long text is cut at every place of its first frames, of its last bytes, and at some places between.
			if cut > 600 && cut < len(file)-600 && cut%97 != 0 {
				continue
			}
			want, end := firstWhole(records, cut)
			mustUnframe(t, "cut", file[:cut], want, end)
		}
	}
}

// aheads has the whole frames behind which each wrong frame is tried, too.
func aheads() [][]string {
	return [][]string{nil, {"one"}, {"\x00", someText(127), someText(128)}, {someText(impl.MaxRecord)}}
}

// mustStop tries bytes that are no frame alone and behind whole ones, which must be told; and with whole ones behind the bytes, which must not.
func mustStop(t *testing.T, why, wrong string) {
	t.Helper()
	for _, records := range aheads() {
		ahead := framesByHand(records)
		mustUnframe(t, why, ahead+wrong, records, len(ahead))
		behind := ahead + wrong + framesByHand([]string{"behind", "further"})
		mustUnframe(t, why+", frames behind it", behind, records, len(ahead))
	}
}

func TestFramesThatAreTorn(t *testing.T) {
	for _, length := range []int{1, 3, 127, 128, 300} {
		frame := frameByHand(someText(length))
		for cut := range len(frame) {
			for _, records := range aheads() {
				ahead := framesByHand(records)
				mustUnframe(t, "cut", ahead+frame[:cut], records, len(ahead))
			}
			if cut > 0 {
				mustStop(t, "cut, and others go on", frame[:cut])
			}
			mustStop(t, "a byte is missing", frame[:cut]+frame[cut+1:])
		}
	}
	frame := frameByHand(someText(impl.MaxRecord))
	for cut := range len(frame) {
		mustUnframe(t, "cut", frame[:cut], nil, 0)
	}
}

func TestBytesThatAreNoFrame(t *testing.T) {
	for _, wrong := range []string{
		"\x01", "\x01\x81\xa5\xc7\xdc", "\x80", "\xff", "\x80\x80", "\xff\xff\xff\xff\xff\xff\xff\xff\xff\xff",
		"one", "H\x00\x00", " ", "\n", "\x00", "\x00\x00\x00\x00\x00\x00", strings.Repeat("\x00", 40), strings.Repeat("\xff", 40),
	} {
		mustStop(t, "no frame", wrong)
	}
	for b := range 256 {
		mustUnframe(t, "one byte", string([]byte{byte(b)}), nil, 0)
		mustStop(t, "six bytes alike", strings.Repeat(string([]byte{byte(b)}), 6))
	}
}

func TestLengthsThatAreWrong(t *testing.T) {
	sum := sumByHand("one")
	for _, c := range []struct{ why, wrong string }{
		{"a length of 0", "\x00" + sumByHand("")},
		{"a length of 0, a text behind it", "\x00" + sum + "one"},
		{"a length of 0 in two bytes", "\x80\x00" + sumByHand("")},
		{"a length in a longer form", "\x83\x00" + sum + "one"},
		{"a length in a form of three bytes", "\x83\x80\x00" + sum + "one"},
		{"a length in a form of five bytes", "\x83\x80\x80\x80\x00" + sum + "one"},
		{"a length of 127 in two bytes", "\xff\x00" + sumByHand(someText(127)) + someText(127)},
		{"a length of 128 in three bytes", "\x80\x81\x00" + sumByHand(someText(128)) + someText(128)},
		{"a length that is one more", "\x04" + sum + "one"},
		{"a length that is one less", "\x02" + sum + "one"},
		{"a length of all that is there", "\x08" + sum + "one"},
		{"a length in four bytes, the highest first", "\x00\x00\x00\x03" + sum + "one"},
		{"a length that counts the sum", "\x07" + sum + "one"},
		{"a length of MaxText", varByHand(impl.MaxText) + sum + "one"},
		{"a length of MaxNumber", varByHand(impl.MaxNumber) + sum + "one"},
		{"a length of MaxNumber + 1", varByHand(impl.MaxNumber+1) + sum + "one"},
		{"a length that wraps round", "\xff\xff\xff\xff\xff\xff\xff\xff\xff\x01" + sum + "one"},
		{"a length that wraps round to 3", "\x83\x80\x80\x80\x80\x80\x80\x80\x80\x02" + sum + "one"},
		{"a length of 3 and 2 to the 32", varByHand(1<<32+3) + sum + "one"},
		{"no length", sum + "one"},
	} {
		mustStop(t, c.why, c.wrong)
	}
	for _, length := range []int{impl.MaxRecord + 1, impl.MaxRecord + 2, 10000} {
		mustStop(t, "a length above MaxRecord", frameByHand(someText(length)))
	}
	mustUnframe(t, "a length above MaxRecord, up to the end of the file", frameByHand(someText(impl.MaxText-7)), nil, 0)
}

// The length is turned to what the file has room for, and to one more: only the room tells these apart.
func TestALengthThatIsMoreThanTheFileHas(t *testing.T) {
	for _, length := range []int{1, 2, 126, 127, 128, 129, 1000, impl.MaxRecord} {
		text := someText(length)
		for _, records := range aheads() {
			ahead := framesByHand(records)
			whole := ahead + frameByHand(text)
			mustUnframe(t, "just as long as the file", whole, append(slices.Clone(records), text), len(whole))
			missing := ahead + varByHand(length) + sumByHand(text) + text[:length-1]
			mustUnframe(t, "one byte more than the file has", missing, records, len(ahead))
			short := ahead + varByHand(length) + sumByHand(text[:length-1]) + text[:length-1]
			mustUnframe(t, "one byte more than the file has, with the sum of these", short, records, len(ahead))
			bare := ahead + varByHand(length)
			mustUnframe(t, "a length alone", bare, records, len(ahead))
		}
	}
}

func TestSumsThatAreWrong(t *testing.T) {
	for _, text := range []string{"a", "one", "\x00", "\xff", someText(127), someText(128)} {
		head, sum := varByHand(len(text)), sumByHand(text)
		otherWay := string([]byte{sum[3], sum[2], sum[1], sum[0]})
		if otherWay != sum {
			mustStop(t, "its sum in the other order", head+otherWay+text)
		}
		mustStop(t, "no sum", head+text)
		mustStop(t, "its sum behind it", head+text+sum)
		mustStop(t, "its sum ahead of its length", sum+head+text)
		mustStop(t, "the sum of its length, too", head+sumByHand(head+text)+text)
		mustStop(t, "the sum of nothing", head+sumByHand("")+text)
		mustStop(t, "the sum of another text", head+sumByHand(text+"x")+text)
		mustStop(t, "a sum of 0", head+"\x00\x00\x00\x00"+text)
		from0 := plainSum(0, text)
		mustStop(t, "a sum that begins with 0", head+string([]byte{byte(from0 >> 24), byte(from0 >> 16), byte(from0 >> 8), byte(from0)})+text)
	}
}

func TestOneByteOfAFrameThatIsAnother(t *testing.T) {
	for _, text := range []string{"\x00", "one", strings.Repeat("\x00", 20), someText(127), someText(128)} {
		frame := frameByHand(text)
		for at := range len(frame) {
			for turn := 1; turn < 256; turn++ {
				if len(frame) > 40 && at > 8 && turn&(turn-1) != 0 {
					continue
				}
				wrong := turnByte(frame, at, byte(turn))
				mustUnframe(t, "one byte turned", wrong, nil, 0)
				ahead := framesByHand([]string{"one", someText(128)})
				behind := framesByHand([]string{"behind"})
				mustUnframe(t, "one byte turned, between others", ahead+wrong+behind, []string{"one", someText(128)}, len(ahead))
			}
		}
	}
	long := frameByHand(someText(impl.MaxRecord))
	ahead := framesByHand([]string{"one"})
	for _, at := range []int{0, 1, 2, 3, 4, 5, 6, 7, len(long) / 2, len(long) - 2, len(long) - 1} {
		for turn := 1; turn < 256; turn *= 2 {
			mustUnframe(t, "one byte turned", ahead+turnByte(long, at, byte(turn)), []string{"one"}, len(ahead))
		}
	}
}

// A sum of 0 stays 0 behind bytes 0, and it is of the text alone: a length that is another may make another whole frame, and what is one is told as one.
func TestALengthThatIsAnotherMayMakeAnotherFrame(t *testing.T) {
	ones := "\xff\xff\xff\xff"
	frame, ok := impl.Frame(ones + "\x00")
	if frame != "\x05\x00\x00\x00\x00"+ones+"\x00" || !ok {
		t.Errorf("Frame of a text whose sum is 0: %q %v", frame, ok)
	}
	mustUnframe(t, "the length told", frame, []string{ones + "\x00"}, 10)
	mustUnframe(t, "a length one less", turnByte(frame, 0, 4^5), []string{ones}, 9)
	mustUnframe(t, "a length one more, and a byte 0 behind", turnByte(frame, 0, 6^5)+"\x00", []string{ones + "\x00\x00"}, 11)
	mustUnframe(t, "a length one more, and another byte behind", turnByte(frame, 0, 6^5)+"\x01", nil, 0)
}

func TestUnframeAtTheLimitsOfAFile(t *testing.T) {
	mustUnframe(t, "a file of 0 bytes", "", nil, 0)
	for _, records := range [][]string{
		{someText(impl.MaxRecord), someText(impl.MaxRecord), someText(impl.MaxText - 2*(impl.MaxRecord+6) - 6)},
		{"one", someText(impl.MaxRecord), someText(impl.MaxRecord), someText(impl.MaxText - 8 - 2*(impl.MaxRecord+6) - 6)},
	} {
		file := framesByHand(records)
		if len(file) != impl.MaxText {
			t.Fatalf("a file of %d bytes", len(file))
		}
		mustUnframe(t, "a file of MaxText bytes", file, records, impl.MaxText)
		last := len(records) - 1
		mustUnframe(t, "MaxText bytes, the last of them turned", turnByte(file, impl.MaxText-1, 1), records[:last], impl.MaxText-len(frameByHand(records[last])))
		mustUnframe(t, "MaxText bytes but one", file[:impl.MaxText-1], records[:last], impl.MaxText-len(frameByHand(records[last])))
		for _, more := range []string{"\x00", "\x01", "\x80", "\xff", frameByHand("x")} {
			mustUnframe(t, "longer than MaxText", file+more, nil, 0)
		}
		longer := slices.Clone(records)
		longer[last] += "x"
		mustUnframe(t, "frames of MaxText + 1 bytes", framesByHand(longer), nil, 0)
	}
	file := frameByHand("one")
	rest := impl.MaxText - len(file)
	mustUnframe(t, "MaxText bytes, most of them no frame", file+strings.Repeat("\xff", rest), []string{"one"}, len(file))
	mustUnframe(t, "MaxText + 1 bytes, most of them no frame", file+strings.Repeat("\xff", rest+1), nil, 0)
	mustUnframe(t, "far longer than MaxText", strings.Repeat(file, impl.MaxText), nil, 0)
}

func (w *drawer) record() string {
	length := 1 + w.below(6)
	if w.below(3) == 0 {
		length = 120 + w.below(15)
	}
	if w.below(20) == 0 {
		length = 1 + w.below(2000)
	}
	text := []byte(someText(length))
	for place := range text {
		text[place] ^= byte(w.below(256))
	}
	return string(text)
}

func (w *drawer) damaged(file string) string {
	if file == "" {
		return file
	}
	at := w.below(len(file))
	switch w.below(5) {
	case 0:
		return file[:at]
	case 1:
		return turnByte(file, at, byte(1+w.below(255)))
	case 2:
		return file[:at] + file[at+1:]
	case 3:
		return file[:at] + string([]byte{byte(w.below(256))}) + file[at:]
	}
	return file
}

// In drawn files just those frames are told that the document's words find there.
func TestFramesInDrawnFiles(t *testing.T) {
	draw := &drawer{state: 4}
	for range 300 {
		var records []string
		for range draw.below(8) {
			records = append(records, draw.record())
		}
		file := framesByHand(records)
		for range draw.below(3) {
			file = draw.damaged(file)
		}
		want, end := plainUnframe(file)
		mustUnframe(t, "a drawn file", file, want, end)
		got, behind := impl.Unframe(file)
		if framesByHand(got) != file[:behind] {
			t.Errorf("the frames of what is told are not what the file begins with: %q", file)
		}
	}
}

// Records that were added and kept come back whatever the power leaves; of one that was not kept all or nothing does.
func TestFramesOnADiskThatLosesItsPower(t *testing.T) {
	kept := []string{"one", someText(128)}
	file := framesByHand(kept)
	list := []impl.Act{add("a", file), keep("a"), add("a", frameByHand("torn"))}
	for left := range len(file) + len(frameByHand("torn")) + 2 {
		d, ok := impl.CutActs(impl.Disk{}, list, 3, []int{left})
		text, there := impl.FileAt(d, "a")
		if !ok || !there {
			t.Fatalf("no file is left of %d bytes", left)
		}
		if left >= len(file)+len(frameByHand("torn")) {
			mustUnframe(t, "all is left", text, append(slices.Clone(kept), "torn"), len(text))
			continue
		}
		mustUnframe(t, "some is left", text, kept, len(file))
	}
}

func TestFramesShareNothing(t *testing.T) {
	for _, records := range recordLists() {
		file := framesByHand(records)
		before := strings.Clone(file)
		first, _ := impl.Unframe(file)
		second, _ := impl.Unframe(file)
		told := slices.Concat(first, second)
		for place, record := range told {
			if sharesBytes(record, file) {
				t.Errorf("a record of %d bytes shares the file's bytes", len(record))
			}
			for _, other := range told[:place] {
				if sharesBytes(record, other) {
					t.Errorf("two records of %d and %d bytes share memory", len(record), len(other))
				}
			}
		}
		for place := range first {
			first[place] = "gone"
		}
		if !slices.Equal(second, records) || file != before {
			t.Errorf("what was told of %d records is changed by another answer", len(records))
		}
	}
}
