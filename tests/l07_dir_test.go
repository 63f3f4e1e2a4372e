package tests

import (
	"fmt"
	"maps"
	"math"
	"slices"
	"strconv"
	"strings"
	"testing"

	"loop.example/g00124/impl"
)

func spot(key string, seg, at, seq int) impl.Spot {
	return impl.Spot{Key: key, Seg: seg, At: at, Seq: seq}
}

// manySpots has keys that ascend, as long as there are at most 1000.
func manySpots(count int) []impl.Spot {
	var dir []impl.Spot
	for n := range count {
		dir = append(dir, spot(fmt.Sprintf("k%03d", n), n%100, n*97%20001, n*5000001%1000000001))
	}
	return dir
}

// longestSpots have all that a right directory can tell in as many bytes as it can be told in.
func longestSpots(count int) []impl.Spot {
	var dir []impl.Spot
	for n := range count {
		dir = append(dir, spot(fmt.Sprintf("%020d", n), impl.MaxSegment, impl.MaxText, impl.MaxNumber))
	}
	return dir
}

func spotByHand(s impl.Spot) string {
	return varByHand(len(s.Key)) + s.Key + varByHand(s.Seg) + varByHand(s.At) + varByHand(s.Seq)
}

// spotsByHand is there for Spots that are not right, too (but for numbers below 0).
func spotsByHand(dir []impl.Spot) string {
	text := ""
	for _, s := range dir {
		text += spotByHand(s)
	}
	return text
}

func hintByHand(dir []impl.Spot) string {
	return sealedByHand(varByHand(len(dir)) + spotsByHand(dir))
}

// plainDirOk sorts the keys anew, and holds them against what comes.
func plainDirOk(dir []impl.Spot) bool {
	var keys []string
	for _, s := range dir {
		keys = append(keys, s.Key)
		if len(s.Key) < 1 || len(s.Key) > 20 || s.Seg < 0 || s.Seg > 99 || s.At < 0 || s.At > 20000 || s.Seq < 0 || s.Seq > 1000000000 {
			return false
		}
	}
	sorted := slices.Compact(slices.Sorted(slices.Values(keys)))
	return len(dir) <= 200 && slices.Equal(keys, sorted)
}

// plainReadHint guesses the directory without a look at its rules; the guess counts when it is right and is written so.
func plainReadHint(text string) ([]impl.Spot, bool) {
	if len(text) < 4 || len(text) > 20000 {
		return nil, false
	}
	_, rest, ok := looseVar(text[:len(text)-4])
	if !ok {
		return nil, false
	}
	var dir []impl.Spot
	for rest != "" {
		var s impl.Spot
		if s.Key, rest, ok = looseShort(rest); !ok {
			return nil, false
		}
		for _, n := range []*int{&s.Seg, &s.At, &s.Seq} {
			if *n, rest, ok = looseVar(rest); !ok {
				return nil, false
			}
		}
		dir = append(dir, s)
	}
	if !plainDirOk(dir) || hintByHand(dir) != text {
		return nil, false
	}
	return dir, true
}

// plainDirOf has all changes, in order, and looks for the last one of each key.
func plainDirOf(d impl.Disk) ([]impl.Spot, bool) {
	numbers, _, ok := plainSegments(d)
	if !ok {
		return nil, false
	}
	last := map[string]impl.Spot{}
	stays := map[string]bool{}
	for _, n := range numbers {
		text := textOf(d, "b"+strconv.Itoa(n))
		from, batches, _, _ := plainReadSegment(n, text)
		at := len(headByHand(n, from))
		for _, b := range batches {
			for _, change := range b.Changes {
				last[change.Key] = spot(change.Key, n, at, b.Seq)
				stays[change.Key] = !change.Gone
			}
			at += len(batchFrame(b))
		}
	}
	var dir []impl.Spot
	for _, key := range slices.Sorted(maps.Keys(last)) {
		if stays[key] {
			dir = append(dir, last[key])
		}
	}
	return dir, true
}

func textOf(d impl.Disk, name string) string {
	for _, f := range d.Files {
		if f.Name == name {
			return f.Text
		}
	}
	return ""
}

// plainValueOf looks for a frame at the Spot with a plain search.
func plainValueOf(d impl.Disk, s impl.Spot) (string, bool) {
	if !impl.DiskOk(d) || s.Seg < 0 || s.Seg > 99 {
		return "", false
	}
	text := textOf(d, "b"+strconv.Itoa(s.Seg))
	if s.At < 0 || s.At > len(text) {
		return "", false
	}
	records, _ := plainUnframe(text[s.At:])
	if len(records) == 0 {
		return "", false
	}
	b, ok := plainReadBatch(records[0])
	if !ok || b.Seq != s.Seq {
		return "", false
	}
	for _, change := range b.Changes {
		if change.Key == s.Key && !change.Gone {
			return change.Value, true
		}
	}
	return "", false
}

func briefSpot(s impl.Spot) string {
	return fmt.Sprintf("{%.25q seg %d at %d seq %d}", s.Key, s.Seg, s.At, s.Seq)
}

// briefDir keeps long directories out of what a failed test tells.
func briefDir(dir []impl.Spot) string {
	out := []string{strconv.Itoa(len(dir)) + " spots"}
	for _, s := range dir[:min(4, len(dir))] {
		out = append(out, briefSpot(s))
	}
	return "[" + strings.Join(out, "; ") + "]"
}

func mustDir(t *testing.T, why string, d impl.Disk, want []impl.Spot, wantOk bool) {
	t.Helper()
	got, ok := impl.DirOf(d)
	if !slices.Equal(got, want) || ok != wantOk {
		t.Errorf("%s: DirOf: %s %v, want %s %v", why, briefDir(got), ok, briefDir(want), wantOk)
	}
}

func mustNotDir(t *testing.T, why string, d impl.Disk) {
	t.Helper()
	mustDir(t, why, d, nil, false)
}

func mustValue(t *testing.T, why string, d impl.Disk, s impl.Spot, want string, wantOk bool) {
	t.Helper()
	if got, ok := impl.ValueOf(d, s); got != want || ok != wantOk {
		t.Errorf("%s: ValueOf %s: %.40q of %d bytes, %v, want %.40q of %d bytes, %v", why, briefSpot(s), got, len(got), ok, want, len(want), wantOk)
	}
}

func mustNotValue(t *testing.T, why string, d impl.Disk, s impl.Spot) {
	t.Helper()
	mustValue(t, why, d, s, "", false)
}

func mustValuePlainly(t *testing.T, why string, d impl.Disk, s impl.Spot) bool {
	t.Helper()
	want, ok := plainValueOf(d, s)
	mustValue(t, why, d, s, want, ok)
	return ok
}

func mustHint(t *testing.T, why string, text string, want []impl.Spot, wantOk bool) {
	t.Helper()
	got, ok := impl.ReadHint(text)
	if !slices.Equal(got, want) || ok != wantOk {
		t.Errorf("%s: ReadHint(%.40q of %d bytes): %s %v, want %s %v", why, text, len(text), briefDir(got), ok, briefDir(want), wantOk)
	}
}

func mustNotHint(t *testing.T, why string, text string) {
	t.Helper()
	mustHint(t, why, text, nil, false)
}

// mustHintPlainly asks for just what the document's words find in a text, whatever it is.
func mustHintPlainly(t *testing.T, why string, text string) bool {
	t.Helper()
	want, ok := plainReadHint(text)
	mustHint(t, why, text, want, ok)
	return ok
}

type namedDir struct {
	why string
	dir []impl.Spot
}

func rightDirs() []namedDir {
	k20 := strings.Repeat("k", impl.MaxKey)
	return []namedDir{
		{"none", nil},
		{"an empty list", []impl.Spot{}},
		{"one", []impl.Spot{spot("a", 1, 8, 3)}},
		{"one of noughts", []impl.Spot{spot("a", 0, 0, 0)}},
		{"two", []impl.Spot{spot("a", 1, 8, 3), spot("b", 0, 20, 1)}},
		{"several", []impl.Spot{spot("a", 3, 8, 9), spot("aa", 1, 100, 2), spot("b", 3, 8, 9), spot("c", 3, 50, 10)}},
		{"a key of the byte 0", []impl.Spot{spot("\x00", 1, 8, 3)}},
		{"a key of MaxKey - 1 bytes", []impl.Spot{spot(k20[1:], 1, 8, 3)}},
		{"a key of MaxKey bytes", []impl.Spot{spot(k20, 1, 8, 3)}},
		{"keys of 1 and of MaxKey bytes", []impl.Spot{spot("k", 1, 8, 3), spot(k20, 1, 8, 3)}},
		{"a beginning is less", []impl.Spot{spot("a", 1, 8, 3), spot("a\x00", 1, 8, 3), spot("aa", 1, 8, 3)}},
		{"bytes, not letters", []impl.Spot{spot("B", 1, 8, 3), spot("a", 1, 8, 3), spot("\u00e9", 1, 8, 3), spot("\xff", 1, 8, 3)}},
		{"figures by their bytes", []impl.Spot{spot("10", 1, 8, 3), spot("9", 1, 8, 3)}},
		{"seg of 0", []impl.Spot{spot("a", 0, 8, 3)}},
		{"seg of MaxSegment", []impl.Spot{spot("a", impl.MaxSegment, 8, 3)}},
		{"at of 0", []impl.Spot{spot("a", 1, 0, 3)}},
		{"at of 127", []impl.Spot{spot("a", 1, 127, 3)}},
		{"at of 128", []impl.Spot{spot("a", 1, 128, 3)}},
		{"at of 16384", []impl.Spot{spot("a", 1, 16384, 3)}},
		{"at of MaxText", []impl.Spot{spot("a", 1, impl.MaxText, 3)}},
		{"seq of 0", []impl.Spot{spot("a", 1, 8, 0)}},
		{"seq of 128", []impl.Spot{spot("a", 1, 8, 128)}},
		{"seq of MaxNumber", []impl.Spot{spot("a", 1, 8, impl.MaxNumber)}},
		{"all the greatest", []impl.Spot{spot(k20, impl.MaxSegment, impl.MaxText, impl.MaxNumber)}},
		{"127 spots", manySpots(127)},
		{"128 spots", manySpots(128)},
		{"199 spots", manySpots(199)},
		{"200 spots", manySpots(200)},
		{"200 of the longest spots", longestSpots(200)},
	}
}

// wrongDirs have no number below 0, so that a text can tell of them.
func wrongDirs() []namedDir {
	k21 := strings.Repeat("k", impl.MaxKey+1)
	return []namedDir{
		{"no key", []impl.Spot{spot("", 1, 8, 3)}},
		{"no key ahead of others", []impl.Spot{spot("", 1, 8, 3), spot("a", 1, 8, 3)}},
		{"nothing", []impl.Spot{{}}},
		{"a key of MaxKey + 1 bytes", []impl.Spot{spot(k21, 1, 8, 3)}},
		{"a key of MaxKey + 1 bytes behind others", []impl.Spot{spot("a", 1, 8, 3), spot(k21, 1, 8, 3)}},
		{"a key of 21 bytes in seven letters", []impl.Spot{spot(strings.Repeat("\u20ac", 7), 1, 8, 3)}},
		{"a key of 128 bytes", []impl.Spot{spot(someText(128), 1, 8, 3)}},
		{"two keys that are the same", []impl.Spot{spot("a", 1, 8, 3), spot("a", 2, 9, 4)}},
		{"two spots that are the same", []impl.Spot{spot("a", 1, 8, 3), spot("a", 1, 8, 3)}},
		{"the same keys at the end", []impl.Spot{spot("a", 1, 8, 3), spot("b", 1, 8, 3), spot("b", 2, 8, 3)}},
		{"the same keys, not side by side", []impl.Spot{spot("a", 1, 8, 3), spot("b", 1, 8, 3), spot("a", 1, 8, 3)}},
		{"keys that fall", []impl.Spot{spot("b", 1, 8, 3), spot("a", 2, 9, 4)}},
		{"keys that fall at the end", []impl.Spot{spot("a", 1, 8, 3), spot("c", 1, 8, 3), spot("b", 1, 8, 3)}},
		{"a beginning behind", []impl.Spot{spot("aa", 1, 8, 3), spot("a", 1, 8, 3)}},
		{"figures by their numbers", []impl.Spot{spot("9", 1, 8, 3), spot("10", 1, 8, 3)}},
		{"a high byte ahead", []impl.Spot{spot("\xff", 1, 8, 3), spot("a", 1, 8, 3)}},
		{"seg of MaxSegment + 1", []impl.Spot{spot("a", impl.MaxSegment+1, 8, 3)}},
		{"seg of MaxSegment + 1 at the end", []impl.Spot{spot("a", 1, 8, 3), spot("b", impl.MaxSegment+1, 8, 3)}},
		{"seg of 256", []impl.Spot{spot("a", 256, 8, 3)}},
		{"greatest seg", []impl.Spot{spot("a", math.MaxInt, 8, 3)}},
		{"at of MaxText + 1", []impl.Spot{spot("a", 1, impl.MaxText+1, 3)}},
		{"at of MaxText + 1 at the end", []impl.Spot{spot("a", 1, 8, 3), spot("b", 1, impl.MaxText+1, 3)}},
		{"at of 65536", []impl.Spot{spot("a", 1, 65536, 3)}},
		{"greatest at", []impl.Spot{spot("a", 1, math.MaxInt, 3)}},
		{"seq of MaxNumber + 1", []impl.Spot{spot("a", 1, 8, impl.MaxNumber+1)}},
		{"seq of MaxNumber + 1 at the end", []impl.Spot{spot("a", 1, 8, 3), spot("b", 1, 8, impl.MaxNumber+1)}},
		{"seq of 2 to the 32", []impl.Spot{spot("a", 1, 8, 1<<32)}},
		{"greatest seq", []impl.Spot{spot("a", 1, 8, math.MaxInt)}},
		{"201 spots", manySpots(201)},
		{"201 of the longest spots", longestSpots(201)},
		{"256 spots", manySpots(256)},
		{"far more spots", manySpots(1000)},
		{"the last of 200 alone falls", append(manySpots(199), spot("k", 1, 8, 3))},
	}
}

// lowDirs have a number that no text can tell.
func lowDirs() []namedDir {
	return []namedDir{
		{"seg of -1", []impl.Spot{spot("a", -1, 8, 3)}},
		{"seg of -1 at the end", []impl.Spot{spot("a", 1, 8, 3), spot("b", -1, 8, 3)}},
		{"least seg", []impl.Spot{spot("a", math.MinInt, 8, 3)}},
		{"at of -1", []impl.Spot{spot("a", 1, -1, 3)}},
		{"at of -1 at the end", []impl.Spot{spot("a", 1, 8, 3), spot("b", 1, -1, 3)}},
		{"least at", []impl.Spot{spot("a", 1, math.MinInt, 3)}},
		{"seq of -1", []impl.Spot{spot("a", 1, 8, -1)}},
		{"seq of -1 at the end", []impl.Spot{spot("a", 1, 8, 3), spot("b", 1, 8, -1)}},
		{"least seq", []impl.Spot{spot("a", 1, 8, math.MinInt)}},
	}
}

func TestDirOk(t *testing.T) {
	for _, c := range rightDirs() {
		if !impl.DirOk(c.dir) {
			t.Errorf("%s: not right", c.why)
		}
	}
	for _, c := range slices.Concat(wrongDirs(), lowDirs()) {
		if impl.DirOk(c.dir) {
			t.Errorf("%s: right", c.why)
		}
	}
}

// Each edge is tried at the first, at a middle and at the last Spot.
func TestDirOkLooksAtEachSpot(t *testing.T) {
	for _, place := range []int{0, 7, 99, 199} {
		for _, c := range []struct {
			why    string
			change func(s *impl.Spot)
			want   bool
		}{
			{"as it is", func(s *impl.Spot) {}, true},
			{"no key", func(s *impl.Spot) { s.Key = "" }, false},
			{"a key of MaxKey bytes", func(s *impl.Spot) { s.Key += strings.Repeat("x", impl.MaxKey-len(s.Key)) }, true},
			{"a key of MaxKey + 1 bytes", func(s *impl.Spot) { s.Key += strings.Repeat("x", impl.MaxKey+1-len(s.Key)) }, false},
			{"seg of -1", func(s *impl.Spot) { s.Seg = -1 }, false},
			{"seg of 0", func(s *impl.Spot) { s.Seg = 0 }, true},
			{"seg of MaxSegment", func(s *impl.Spot) { s.Seg = impl.MaxSegment }, true},
			{"seg of MaxSegment + 1", func(s *impl.Spot) { s.Seg = impl.MaxSegment + 1 }, false},
			{"at of -1", func(s *impl.Spot) { s.At = -1 }, false},
			{"at of 0", func(s *impl.Spot) { s.At = 0 }, true},
			{"at of MaxText", func(s *impl.Spot) { s.At = impl.MaxText }, true},
			{"at of MaxText + 1", func(s *impl.Spot) { s.At = impl.MaxText + 1 }, false},
			{"seq of -1", func(s *impl.Spot) { s.Seq = -1 }, false},
			{"seq of 0", func(s *impl.Spot) { s.Seq = 0 }, true},
			{"seq of MaxNumber", func(s *impl.Spot) { s.Seq = impl.MaxNumber }, true},
			{"seq of MaxNumber + 1", func(s *impl.Spot) { s.Seq = impl.MaxNumber + 1 }, false},
		} {
			dir := manySpots(200)
			c.change(&dir[place])
			if got := impl.DirOk(dir); got != c.want {
				t.Errorf("%s at %d: %v", c.why, place, got)
			}
			text, ok := impl.HintText(dir)
			if ok != c.want || ok && text != hintByHand(dir) || !ok && text != "" {
				t.Errorf("%s at %d: HintText of %d bytes, %v", c.why, place, len(text), ok)
			}
		}
	}
}

func segWith(n, from int, batches ...impl.Batch) impl.File {
	return file("b"+strconv.Itoa(n), headByHand(n, from)+batchFrames(batches))
}

func TestDirOfOneSegment(t *testing.T) {
	const head = 8
	first := batchOf(1, put("b", "x"), put("d", "y"))
	second := head + len(batchFrame(first))
	for _, c := range []struct {
		why     string
		batches []impl.Batch
		want    []impl.Spot
	}{
		{"no batch", nil, nil},
		{"one batch", []impl.Batch{first}, []impl.Spot{spot("b", 5, head, 1), spot("d", 5, head, 1)}},
		{"an empty value", []impl.Batch{batchOf(1, put("b", ""))}, []impl.Spot{spot("b", 5, head, 1)}},
		{"gone alone", []impl.Batch{batchOf(1, gone("b"))}, nil},
		{"one of two is gone", []impl.Batch{batchOf(1, gone("b"), put("d", "y"))}, []impl.Spot{spot("d", 5, head, 1)}},
		{"other keys later", []impl.Batch{first, batchOf(2, put("a", ""), put("c", ""), put("e", ""))},
			[]impl.Spot{spot("a", 5, second, 2), spot("b", 5, head, 1), spot("c", 5, second, 2), spot("d", 5, head, 1), spot("e", 5, second, 2)}},
		{"a key that is changed", []impl.Batch{first, batchOf(7, put("b", "z"))}, []impl.Spot{spot("b", 5, second, 7), spot("d", 5, head, 1)}},
		{"a key that is put as it was", []impl.Batch{first, batchOf(7, put("d", "y"))}, []impl.Spot{spot("b", 5, head, 1), spot("d", 5, second, 7)}},
		{"a key that is gone", []impl.Batch{first, batchOf(7, gone("b"))}, []impl.Spot{spot("d", 5, head, 1)}},
		{"another key that is gone", []impl.Batch{first, batchOf(7, gone("c"))}, []impl.Spot{spot("b", 5, head, 1), spot("d", 5, head, 1)}},
		{"both are gone", []impl.Batch{first, batchOf(7, gone("b"), gone("d"))}, nil},
		{"all is changed", []impl.Batch{first, batchOf(7, put("b", ""), put("d", ""))}, []impl.Spot{spot("b", 5, second, 7), spot("d", 5, second, 7)}},
		{"seqs that stay are not taken", []impl.Batch{first, batchOf(1, put("b", "z"))}, []impl.Spot{spot("b", 5, head, 1), spot("d", 5, head, 1)}},
		{"seqs that fall are not taken", []impl.Batch{first, batchOf(0, gone("b")), batchOf(9, gone("d"))}, []impl.Spot{spot("b", 5, head, 1), spot("d", 5, head, 1)}},
	} {
		mustDir(t, c.why, sortedDisk(segWith(5, 2, c.batches...)), c.want, true)
		torn := segWith(5, 2, c.batches...)
		torn.Text += batchFrame(batchOf(99, gone("b"), gone("d")))[:12]
		mustDir(t, c.why+", and a torn batch", sortedDisk(torn), c.want, true)
	}
}

// A key is gone and put again: its Spot is that of what was put last, in the same segment or in a later one.
func TestAKeyThatIsGoneAndPutAgain(t *testing.T) {
	b1, b2, b3 := batchOf(1, put("a", "one")), batchOf(2, gone("a")), batchOf(3, put("a", "two"))
	third := 8 + len(batchFrame(b1)) + len(batchFrame(b2))
	for _, c := range []struct {
		why  string
		d    impl.Disk
		want impl.Spot
	}{
		{"in one segment", sortedDisk(segWith(0, 0, b1, b2, b3)), spot("a", 0, third, 3)},
		{"put again in the next one", sortedDisk(segWith(0, 0, b1, b2), segWith(1, 0, b3)), spot("a", 1, 8, 3)},
		{"gone in the next one", sortedDisk(segWith(0, 0, b1), segWith(1, 0, b2, b3)), spot("a", 1, 8+len(batchFrame(b2)), 3)},
		{"each in its own", sortedDisk(segWith(0, 0, b1), segWith(1, 0, b2), segWith(2, 0, b3)), spot("a", 2, 8, 3)},
		{"by numbers, not by names", sortedDisk(segWith(2, 0, b1), segWith(9, 0, b2), segWith(10, 0, b3)), spot("a", 10, 8, 3)},
		{"with an empty one between", sortedDisk(segWith(0, 0, b1, b2), segWith(1, 0), segWith(2, 0, b3)), spot("a", 2, 8, 3)},
	} {
		mustDir(t, c.why, c.d, []impl.Spot{c.want}, true)
		mustValue(t, c.why, c.d, c.want, "two", true)
	}
	mustDir(t, "gone in a later one", sortedDisk(segWith(0, 0, b1), segWith(1, 0, b2)), nil, true)
	mustDir(t, "gone, put again and gone", sortedDisk(segWith(0, 0, b1, b2, b3), segWith(1, 0, batchOf(4, gone("a")))), nil, true)
}

func TestDirOfSeveralSegments(t *testing.T) {
	ab, bc, c := batchOf(1, put("a", "1"), put("b", "1")), batchOf(2, put("b", "2"), put("c", "2")), batchOf(3, gone("c"), put("d", "3"))
	behind := 8 + len(batchFrame(ab))
	for _, x := range []struct {
		why  string
		d    impl.Disk
		want []impl.Spot
	}{
		{"heads alone", sortedDisk(segWith(0, 0), segWith(1, 0)), nil},
		{"two in one, one in the next", sortedDisk(segWith(0, 0, ab, bc), segWith(1, 0, c)), []impl.Spot{spot("a", 0, 8, 1), spot("b", 0, behind, 2), spot("d", 1, 8, 3)}},
		{"one in each", sortedDisk(segWith(0, 0, ab), segWith(1, 0, bc), segWith(2, 0, c)), []impl.Spot{spot("a", 0, 8, 1), spot("b", 1, 8, 2), spot("d", 2, 8, 3)}},
		{"by numbers, not by names", sortedDisk(segWith(9, 0, ab), segWith(10, 0, bc), segWith(99, 0, c)), []impl.Spot{spot("a", 9, 8, 1), spot("b", 10, 8, 2), spot("d", 99, 8, 3)}},
		{"by segments, not by seqs", sortedDisk(segWith(0, 0, c), segWith(1, 0, bc), segWith(2, 0, ab)), []impl.Spot{spot("a", 2, 8, 1), spot("b", 2, 8, 1), spot("c", 1, 8, 2), spot("d", 0, 8, 3)}},
		{"the same batch in both", sortedDisk(segWith(0, 0, ab), segWith(1, 0, ab)), []impl.Spot{spot("a", 1, 8, 1), spot("b", 1, 8, 1)}},
		{"torn bytes behind the first", sortedDisk(file("b0", segWith(0, 0, ab).Text+"torn"), segWith(1, 0, bc)), []impl.Spot{spot("a", 0, 8, 1), spot("b", 1, 8, 2), spot("c", 1, 8, 2)}},
		{"other files", sortedDisk(segWith(1, 0, ab), file("b01", segWith(1, 1, c).Text), file("m+", segWith(2, 2, c).Text), file("b100", "x")), []impl.Spot{spot("a", 1, 8, 1), spot("b", 1, 8, 1)}},
		{"nothing kept", diskOf(impl.File{Name: "b0", Text: segWith(0, 0, ab).Text}), []impl.Spot{spot("a", 0, 8, 1), spot("b", 0, 8, 1)}},
	} {
		mustDir(t, x.why, x.d, x.want, true)
		for _, s := range x.want {
			mustValuePlainly(t, x.why, x.d, s)
		}
	}
}

// A segment below the greatest from tells nothing: neither what it puts, nor what it has gone.
func TestSegmentsThatCountNoMore(t *testing.T) {
	old, young := batchOf(1, put("a", "old"), put("b", "old")), batchOf(2, put("b", "young"))
	want := []impl.Spot{spot("b", 2, 8, 2)}
	mustDir(t, "all count", sortedDisk(segWith(1, 0, old), segWith(2, 1, young)), []impl.Spot{spot("a", 1, 8, 1), spot("b", 2, 8, 2)}, true)
	for _, c := range []struct {
		why string
		d   impl.Disk
	}{
		{"just below from", sortedDisk(segWith(1, 0, old), segWith(2, 2, young))},
		{"from of its own", sortedDisk(segWith(1, 1, old), segWith(2, 2, young))},
		{"far below from", sortedDisk(segWith(0, 0, old), segWith(1, 0, old), segWith(2, 2, young))},
		{"from of a later one", sortedDisk(segWith(1, 0, old), segWith(2, 0, young), segWith(10, 2))},
		{"greater seqs", sortedDisk(segWith(1, 0, batchOf(9, put("a", "old"), put("b", "old"))), segWith(2, 2, young))},
		{"gone there", sortedDisk(segWith(1, 0, batchOf(9, gone("b"))), segWith(2, 2, young))},
		{"a wrong head there", sortedDisk(file("b1", segWith(2, 0, old).Text), segWith(2, 2, young))},
		{"other bytes there", sortedDisk(file("b1", "other"), segWith(2, 2, young))},
		{"nothing there", sortedDisk(file("b1", ""), segWith(2, 2, young))},
	} {
		mustDir(t, c.why, c.d, want, true)
	}
	mustDir(t, "the last one alone counts, and has none", sortedDisk(segWith(1, 0, old), segWith(2, 0, young), segWith(3, 3)), nil, true)
	back := sortedDisk(segWith(1, 0, batchOf(1, gone("a"))), segWith(2, 2, batchOf(2, put("a", "x"))), segWith(10, 0))
	mustDir(t, "gone in one that counts no more", back, []impl.Spot{spot("a", 2, 8, 2)}, true)
}

func TestDirOfDisksWhoseSegmentsAreFalse(t *testing.T) {
	mustNotDir(t, "no files", impl.Disk{})
	mustNotDir(t, "another file", sortedDisk(file("a", segWith(0, 0).Text)))
	mustNotDir(t, "a new file alone", sortedDisk(file(impl.NameNew, segWith(0, 0, batchOf(1, put("a", "x"))).Text)))
	for _, c := range slices.Concat(wrongDisks(), rightDisks()) {
		mustNotDir(t, c.why, c.d)
	}
	good := segWith(6, 0, batchOf(1, put("a", "x")))
	for why, head := range wrongHeads() {
		mustNotDir(t, why, sortedDisk(file("b5", head+batchFrame(batchOf(1, put("a", "x"))))))
		mustNotDir(t, why+", beside another", sortedDisk(file("b5", head), good))
		mustNotDir(t, why+", at from", sortedDisk(file("b5", head), segWith(6, 5)))
	}
	b0, b1 := segWith(0, 0, batchOf(1, put("a", "x"))), segWith(1, 0, batchOf(2, put("b", "y")))
	mustNotDir(t, "names not ascending", diskOf(b1, b0))
	mustNotDir(t, "the same name twice", diskOf(b0, b0))
	b1.Kept = -1
	mustNotDir(t, "kept below 0", diskOf(b0, b1))
	b1.Kept = len(b1.Text) + 1
	mustNotDir(t, "kept above its length", diskOf(b0, b1))
	mustNotDir(t, "a text of more than MaxText bytes", diskOf(file("b0", b0.Text+someText(impl.MaxText))))
}

// A disk may tell of more keys than a directory that is right: all of them are told, and have no hint.
func TestADiskWithManyKeys(t *testing.T) {
	for _, count := range []int{1, 40, 41, 199, 200, 201, 400} {
		var batches []impl.Batch
		var want []impl.Spot
		at := 8
		for n := 0; n < count; n += impl.MaxChanges {
			b := batchOf(n + 1)
			for key := n; key < min(count, n+impl.MaxChanges); key++ {
				b.Changes = append(b.Changes, put(fmt.Sprintf("k%03d", key), ""))
				want = append(want, spot(fmt.Sprintf("k%03d", key), 3, at, n+1))
			}
			batches = append(batches, b)
			at += len(batchFrame(b))
		}
		d := sortedDisk(segWith(3, 3, batches...))
		mustDir(t, strconv.Itoa(count)+" keys", d, want, true)
		if impl.DirOk(want) != (count <= 200) {
			t.Errorf("%d keys: DirOk %v", count, count > 200)
		}
		text, ok := impl.HintText(want)
		if ok != (count <= 200) || ok && text != hintByHand(want) || !ok && text != "" {
			t.Errorf("%d keys: HintText of %d bytes, %v", count, len(text), ok)
		}
	}
}

// The last frame begins as far behind in a file as one can, and ends with it.
func TestDirOfAFullFile(t *testing.T) {
	b1, b2 := batchOfLength(impl.MaxRecord), batchOfLength(impl.MaxRecord)
	b1.Seq, b2.Seq = 1, 2
	last := batchOf(4, put("~", ""))
	text := segWith(1, 0, b1, b2).Text
	around := len(batchFrame(batchOf(3, put("~", someText(200))))) - 200
	text += batchFrame(batchOf(3, put("~", someText(impl.MaxText-len(text)-around-len(batchFrame(last))))))
	want := spot("~", 1, len(text), 4)
	d := sortedDisk(file("b1", text+batchFrame(last)))
	if len(d.Files[0].Text) != impl.MaxText {
		t.Fatalf("a file of %d bytes", len(d.Files[0].Text))
	}
	dir, ok := impl.DirOf(d)
	if !ok || !slices.Contains(dir, want) {
		t.Errorf("DirOf: %s %v", briefDir(dir), ok)
	}
	for _, s := range dir {
		if !mustValuePlainly(t, "a full file", d, s) {
			t.Errorf("no value of %s", briefSpot(s))
		}
	}
	d.Files[0] = file("b1", text+batchFrame(last)+"\x00")
	mustNotDir(t, "one byte more", d)
	mustNotValue(t, "one byte more", d, want)
}

func TestValueOf(t *testing.T) {
	for _, c := range rightBatches() {
		d := sortedDisk(segWith(7, 0, batchOf(0, put("a", "ahead"))), segWith(70, 1, c.b, batchOf(impl.MaxNumber, gone("behind"))))
		for _, change := range c.b.Changes {
			s := spot(change.Key, 70, 8, c.b.Seq)
			mustValue(t, c.why, d, s, change.Value, !change.Gone)
		}
		mustNotValue(t, c.why+", another key", d, spot("?", 70, 8, c.b.Seq))
		mustNotValue(t, c.why+", another seq", d, spot(c.b.Changes[0].Key, 70, 8, c.b.Seq+1))
	}
}

func valueDisk() (impl.Disk, impl.Spot) {
	b0 := []impl.Batch{batchOf(1, put("a", "one"), put("b", "two")), batchOf(2, put("a", "three"), gone("b"), put("c", ""))}
	b1 := []impl.Batch{batchOf(3, put("a", "four"))}
	d := sortedDisk(segWith(0, 0, b0...), segWith(1, 0, b1...), file("m+", segWith(2, 0, b1...).Text))
	return d, spot("a", 0, 8+len(batchFrame(b0[0])), 2)
}

func TestSpotsThatAreWrong(t *testing.T) {
	d, good := valueDisk()
	mustValue(t, "a right one", d, good, "three", true)
	mustValue(t, "one that was changed later", d, spot("a", 0, 8, 1), "one", true)
	mustValue(t, "one that is gone later", d, spot("b", 0, 8, 1), "two", true)
	mustValue(t, "an empty value", d, spot("c", 0, good.At, 2), "", true)
	mustValue(t, "another segment", d, spot("a", 1, 8, 3), "four", true)
	for _, seg := range []int{math.MinInt, -1, 2, 3, 10, 99, 100, 256, 1 << 32, math.MaxInt} {
		mustNotValue(t, "no such file", d, spot("a", seg, good.At, 2))
		mustNotValue(t, "no such file", d, spot("a", seg, 8, 3))
	}
	mustNotValue(t, "the file of another segment", d, spot("a", 1, good.At, 2))
	for _, seq := range []int{math.MinInt, -1, 0, 1, 3, 130, 258, 1 << 32, impl.MaxNumber, impl.MaxNumber + 1, math.MaxInt} {
		mustNotValue(t, "another seq", d, spot("a", 0, good.At, seq))
	}
	for _, key := range []string{"", "A", "a\x00", "aa", "d", "\x00", strings.Repeat("a", 20), strings.Repeat("a", 21), someText(3000)} {
		mustNotValue(t, "a key that it has not", d, spot(key, 0, good.At, 2))
	}
	mustNotValue(t, "a key that is gone", d, spot("b", 0, good.At, 2))
	mustNotValue(t, "a key of the batch ahead", d, spot("b", 0, good.At, 1))
	mustNotValue(t, "nothing", d, impl.Spot{})
	whole := len(textOf(d, "b0"))
	for at := -10; at < whole+300; at++ {
		if at != 8 && at != good.At {
			for seq := range 5 {
				mustNotValue(t, "no frame of a batch begins there", d, spot("a", 0, at, seq))
			}
		}
	}
	for _, at := range []int{math.MinInt, -1 << 32, -1, whole, whole + 1, impl.MaxText - 1, impl.MaxText, impl.MaxText + 1, 1 << 32, math.MaxInt - 4, math.MaxInt} {
		mustNotValue(t, "far outside the file", d, spot("a", 0, at, 2))
	}
}

func TestValueOfDisksThatAreNotRight(t *testing.T) {
	d, good := valueDisk()
	for _, c := range wrongDisks() {
		mustNotValue(t, c.why, c.d, spot("a", 0, 0, 0))
		mustNotValue(t, c.why+", beside it", impl.Disk{Files: slices.Concat(d.Files, c.d.Files)}, good)
		mustNotValue(t, c.why+", ahead of it", impl.Disk{Files: slices.Concat(c.d.Files, d.Files)}, good)
	}
	for place := range d.Files {
		low, high := copyDisk(d), copyDisk(d)
		low.Files[place].Kept = -1
		high.Files[place].Kept++
		mustNotValue(t, "kept of -1", low, good)
		mustNotValue(t, "more kept than there is", high, good)
	}
	mustNotValue(t, "no files", impl.Disk{}, good)
	mustNotValue(t, "no name", diskOf(file("", textOf(d, "b0"))), spot("a", -1, good.At, 2))
	turned := copyDisk(d)
	slices.Reverse(turned.Files)
	mustNotValue(t, "names that fall", turned, good)
}

// What stands at the Spot counts, and nothing else: neither the head, nor what stands ahead or behind, nor whether the segment counts.
func TestValueOfLooksAtItsFrameAlone(t *testing.T) {
	b := batchOf(4, put("a", "x"))
	frame := batchFrame(b)
	mustValue(t, "a segment that counts no more", sortedDisk(segWith(1, 0, b), segWith(2, 2)), spot("a", 1, 8, 4), "x", true)
	for why, head := range wrongHeads() {
		mustValue(t, "behind "+why, sortedDisk(file("b5", head+frame)), spot("a", 5, len(head), 4), "x", true)
	}
	text := segWith(6, 4, seqBatches(3, 4)...).Text
	for why, bytes := range bytesThatDoNotGoOn() {
		mustValue(t, "behind "+why, sortedDisk(file("b6", text+bytes+frame)), spot("a", 6, len(text+bytes), 4), "x", true)
		mustValue(t, "ahead of "+why, sortedDisk(file("b6", text+frame+bytes)), spot("a", 6, len(text), 4), "x", true)
	}
	mustValue(t, "nothing kept", diskOf(impl.File{Name: "b6", Text: text + frame}), spot("a", 6, len(text), 4), "x", true)
	around := batchFrame(batchOf(9, put("a", frame)))
	mustValue(t, "a frame within a value", sortedDisk(file("b6", text+around)), spot("a", 6, len(text+around)-len(frame), 4), "x", true)
	for _, wrong := range []string{"", "B", "other", batchByHand(batchOf(4)), batchByHand(b) + "\x00", batchByHand(batchOf(4, put("a", "x"), put("a", "x"))), "H\x06\x04"} {
		mustNotValue(t, "a frame of what is no batch", sortedDisk(file("b6", text+frameByHand(wrong))), spot("a", 6, len(text), 4))
	}
	for cut := range len(frame) {
		mustNotValue(t, "a frame that is cut", sortedDisk(file("b6", text+frame[:cut])), spot("a", 6, len(text), 4))
	}
	for at := range len(frame) {
		for turn := 1; turn < 256; turn++ {
			mustNotValue(t, "a frame with a byte turned", sortedDisk(file("b6", text+turnByte(frame, at, byte(turn)))), spot("a", 6, len(text), 4))
		}
	}
}

func TestHintText(t *testing.T) {
	text, ok := impl.HintText([]impl.Spot{spot("a", 1, 8, 300), spot("bc", 99, 20000, 0)})
	body := "\x02" + "\x01a\x01\x08\xac\x02" + "\x02bc\x63\xa0\x9c\x01\x00"
	if want := body + sumByHand(body); text != want || !ok {
		t.Errorf("HintText: %q %v, want %q", text, ok, want)
	}
	if text, ok := impl.HintText(nil); text != "\x00"+sumByHand("\x00") || !ok {
		t.Errorf("HintText of none: %q %v", text, ok)
	}
	for _, c := range rightDirs() {
		if text, ok := impl.HintText(c.dir); text != hintByHand(c.dir) || !ok {
			t.Errorf("%s: HintText of %d bytes, %v", c.why, len(text), ok)
		}
	}
	for _, c := range slices.Concat(wrongDirs(), lowDirs()) {
		if text, ok := impl.HintText(c.dir); text != "" || ok {
			t.Errorf("%s: HintText of %d bytes, %v", c.why, len(text), ok)
		}
	}
}

func TestDirsComeBackFromTheirHints(t *testing.T) {
	for _, c := range rightDirs() {
		text, ok := impl.HintText(c.dir)
		if !ok {
			t.Errorf("%s: HintText is refused", c.why)
		}
		mustHint(t, c.why, text, c.dir, true)
		mustHintPlainly(t, c.why, text)
	}
	for count := range 201 {
		text, _ := impl.HintText(manySpots(count))
		mustHint(t, strconv.Itoa(count)+" spots", text, manySpots(count), true)
	}
}

// No right directory has a hint as long as MaxText: the longest one has far less, and a text of so many bytes is no hint.
func TestHintsAtTheLimitOfAText(t *testing.T) {
	longest, ok := impl.HintText(longestSpots(200))
	if len(longest) != 2+200*30+4 || !ok {
		t.Errorf("the longest hint has %d bytes, %v", len(longest), ok)
	}
	for _, length := range []int{impl.MaxText - 1, impl.MaxText, impl.MaxText + 1, impl.MaxText + 4, impl.MaxText + 5, 2 * impl.MaxText} {
		inner := length - 4
		mustNotHint(t, "any bytes", sealedByHand(someText(inner)))
		mustNotHint(t, "noughts", sealedByHand(strings.Repeat("\x00", inner)))
		dir := manySpots(1000)
		body := varByHand(len(dir)) + spotsByHand(dir)
		body += strings.Repeat("\x01", max(0, inner-len(body)))
		mustNotHint(t, "many spots", sealedByHand(body[:inner]))
		body = longest[:len(longest)-4]
		mustNotHint(t, "the longest hint and more", sealedByHand(body+strings.Repeat("\x00", inner-len(body))))
		last := longestSpots(1)[0]
		last.Key = someText(inner - 1 - 3 - 1 - 3 - 5)
		mustNotHint(t, "a long key", hintByHand([]impl.Spot{last}))
		if text := hintByHand([]impl.Spot{last}); len(text) != length {
			t.Errorf("a long key in %d bytes, not %d", len(text), length)
		}
	}
	mustNotHint(t, "far longer than MaxText", strings.Repeat(longest, 500))
}

func TestHintsThatAreWrong(t *testing.T) {
	mustNotHint(t, "an empty text", "")
	mustNotHint(t, "a sealed empty text", sealedByHand(""))
	for _, c := range slices.Concat(wrongDirs(), []namedDir{{"two of the same, and more", append(manySpots(5), manySpots(5)...)}}) {
		mustNotHint(t, c.why, hintByHand(c.dir))
		mustHintPlainly(t, c.why, hintByHand(c.dir))
	}
	for _, c := range rightDirs() {
		text := hintByHand(c.dir)
		body := text[:len(text)-4]
		mustNotHint(t, c.why+", not sealed", body)
		mustNotHint(t, c.why+", sealed twice", sealedByHand(text))
		mustNotHint(t, c.why+", twice", text+text)
		mustNotHint(t, c.why+", the sum the other way round", body+turnedRound(text[len(body):]))
		mustNotHint(t, c.why+", in a frame", frameByHand(body))
		mustNotHint(t, c.why+", without a count", sealedByHand(spotsByHand(c.dir)+"\x80"))
		for cut := range len(text) {
			mustNotHint(t, c.why+", cut", text[:cut])
		}
		for cut := range len(body) {
			mustNotHint(t, c.why+", cut and sealed", sealedByHand(body[:cut]))
		}
		for b := range 256 {
			one := string([]byte{byte(b)})
			mustNotHint(t, c.why+", a byte behind", text+one)
			mustNotHint(t, c.why+", a byte behind, sealed", sealedByHand(body+one))
			mustNotHint(t, c.why+", a byte ahead", one+text)
		}
	}
}

func TestOneByteOfAHintThatIsAnother(t *testing.T) {
	read := 0
	for _, c := range rightDirs() {
		text := hintByHand(c.dir)
		for at := range len(text) {
			if at > 60 && at < len(text)-10 && at%211 != 0 {
				continue
			}
			for turn := 1; turn < 256; turn++ {
				// Of long directories the turns of one bit are enough.
				if len(text) > 500 && turn&(turn-1) != 0 {
					continue
				}
				turned := turnByte(text, at, byte(turn))
				mustNotHint(t, c.why+", a byte turned", turned)
				if at < len(text)-4 && mustHintPlainly(t, c.why+", a byte turned, sealed", sealedByHand(turned[:len(text)-4])) {
					read++
				}
			}
		}
	}
	if read < 1000 {
		t.Errorf("only %d hints with a byte turned are right", read)
	}
}

func TestCountsOfHints(t *testing.T) {
	for _, count := range []int{0, 1, 2, 5, 127, 128, 199, 200, 201} {
		body := spotsByHand(manySpots(count))
		for _, told := range []int{0, 1, 2, 3, 4, 5, 6, 126, 127, 128, 129, 198, 199, 200, 201, 256, 16384, impl.MaxNumber, impl.MaxNumber + 1, math.MaxInt} {
			text := sealedByHand(varByHand(told) + body)
			if told == count && count <= 200 {
				mustHint(t, "as many as are counted", text, manySpots(count), true)
				continue
			}
			mustNotHint(t, strconv.Itoa(count)+" spots, of which "+strconv.Itoa(told)+" are counted", text)
		}
	}
}

func TestNumbersOfHintsInLongerForms(t *testing.T) {
	mustHint(t, "short forms", sealedByHand("\x01\x01a\x02\x08\x03"), []impl.Spot{spot("a", 2, 8, 3)}, true)
	for place := range 9 {
		mustNotHint(t, "a longer count", sealedByHand(longerForms(1)[place]+"\x01a\x02\x08\x03"))
		mustNotHint(t, "a longer count of none", sealedByHand(longerForms(0)[place]))
		mustNotHint(t, "a longer count of 200", sealedByHand(longerForms(200)[place]+spotsByHand(manySpots(200))))
		mustNotHint(t, "a longer length of a key", sealedByHand("\x01"+longerForms(1)[place]+"a\x02\x08\x03"))
		mustNotHint(t, "a longer seg", sealedByHand("\x01\x01a"+longerForms(2)[place]+"\x08\x03"))
		mustNotHint(t, "a longer at", sealedByHand("\x01\x01a\x02"+longerForms(8)[place]+"\x03"))
		mustNotHint(t, "a longer at of 300", sealedByHand("\x01\x01a\x02"+longerForms(300)[place]+"\x03"))
		mustNotHint(t, "a longer seq", sealedByHand("\x01\x01a\x02\x08"+longerForms(3)[place]))
		mustNotHint(t, "a longer seq of 0", sealedByHand("\x01\x01a\x02\x08"+longerForms(0)[place]))
	}
}

func (w *drawer) spots() []impl.Spot {
	var dir []impl.Spot
	for range w.below(9) {
		dir = append(dir, spot(w.key(), w.below(100), w.below(20001), w.below(1000000001)))
	}
	if w.below(8) > 0 {
		slices.SortFunc(dir, func(x, y impl.Spot) int { return strings.Compare(x.Key, y.Key) })
		dir = slices.CompactFunc(dir, func(x, y impl.Spot) bool { return x.Key == y.Key })
	}
	if len(dir) > 0 && w.below(10) == 0 {
		dir[w.below(len(dir))].Seg += 90
	}
	return dir
}

func TestDrawnHints(t *testing.T) {
	draw := &drawer{state: 8}
	right, wrong, damaged := 0, 0, 0
	for range 4000 {
		dir := draw.spots()
		wantOk := plainDirOk(dir)
		if impl.DirOk(dir) != wantOk {
			t.Errorf("DirOk(%s): %v", briefDir(dir), !wantOk)
		}
		text, ok := impl.HintText(dir)
		if ok != wantOk || ok && text != hintByHand(dir) || !ok && text != "" {
			t.Errorf("HintText(%s): %d bytes, %v", briefDir(dir), len(text), ok)
		}
		if ok {
			right++
			mustHint(t, "a drawn directory", text, dir, true)
		} else {
			wrong++
			mustNotHint(t, "a drawn directory that is not right", hintByHand(dir))
		}
		whole := hintByHand(dir)
		mustHintPlainly(t, "a damaged hint", draw.damaged(whole))
		if mustHintPlainly(t, "a damaged directory", sealedByHand(draw.damaged(whole[:len(whole)-4]))) {
			damaged++
		}
	}
	if right < 1500 || wrong < 300 || damaged < 500 {
		t.Errorf("only %d right directories, %d wrong ones, %d damaged ones that are right", right, wrong, damaged)
	}
}

// In drawn disks just those Spots are told, and those values found, that a plain search finds.
func TestDrawnDisksOfDirs(t *testing.T) {
	draw := &drawer{state: 9}
	right, wrong, found := 0, 0, 0
	for range 1200 {
		d := draw.segmentDisk()
		want, ok := plainDirOf(d)
		mustDir(t, "a drawn disk: "+brief(d), d, want, ok)
		if !ok {
			wrong++
		} else {
			right++
		}
		for _, s := range want {
			if mustValuePlainly(t, "a drawn spot", d, s) {
				found++
			} else {
				t.Errorf("a spot that is told has no value: %s", briefSpot(s))
			}
			mustValuePlainly(t, "a drawn key", d, spot(draw.key(), s.Seg, s.At, s.Seq))
			mustValuePlainly(t, "a drawn place", d, spot(s.Key, s.Seg, draw.below(400), s.Seq))
			mustValuePlainly(t, "a drawn seq", d, spot(s.Key, s.Seg, s.At, s.Seq+draw.below(3)-1))
			mustValuePlainly(t, "a drawn segment", d, spot(s.Key, s.Seg+draw.below(3)-1, s.At, s.Seq))
		}
	}
	if right < 300 || wrong < 100 || found < 1000 {
		t.Errorf("only %d right disks, %d wrong ones, %d values", right, wrong, found)
	}
}

// toldAsPut asks for the keys and values of a plain table, by the program's own functions alone.
func toldAsPut(t *testing.T, why string, d impl.Disk, table map[string]string) {
	t.Helper()
	dir, ok := impl.DirOf(d)
	if !ok || !impl.DirOk(dir) || len(dir) != len(table) {
		t.Fatalf("%s: DirOf: %s %v, of %d keys", why, briefDir(dir), ok, len(table))
	}
	for _, s := range dir {
		value, there := table[s.Key]
		if !there {
			t.Errorf("%s: %s is told and was not put", why, briefSpot(s))
		}
		mustValue(t, why, d, s, value, true)
	}
	text, ok := impl.HintText(dir)
	if !ok {
		t.Errorf("%s: no hint", why)
	}
	mustHint(t, why, text, dir, true)
}

// A drawn life: batches are put, one behind the other, into segments of which some are begun with a greater from; what the directory tells of each key is what was put last.
func TestWhatTheDirectoryTellsIsWhatWasPutLast(t *testing.T) {
	draw := &drawer{state: 10}
	for range 40 {
		table := map[string]string{}
		var d impl.Disk
		active, used := 0, 0
		head, _ := impl.HeadText(0, 0)
		d, _ = impl.DoAct(d, add(impl.SegName(0), head))
		for seq := 1; seq < 60; seq += 1 + draw.below(3) {
			if used > 5 && draw.below(3) == 0 && active < 20 {
				active, used = active+1, 0
				from := 0
				if draw.below(5) == 0 {
					// All that was put ahead of this segment counts no more.
					from = active
					clear(table)
				}
				head, _ = impl.HeadText(active, from)
				d, _ = impl.DoAct(d, add(impl.SegName(active), head))
			}
			b := draw.batch()
			b.Seq = seq
			record, ok := impl.BatchText(b)
			if !ok {
				continue
			}
			frame, _ := impl.Frame(record)
			after, ok := impl.DoAct(d, add(impl.SegName(active), frame))
			if !ok {
				continue
			}
			d = after
			used++
			for _, change := range b.Changes {
				if change.Gone {
					delete(table, change.Key)
				} else {
					table[change.Key] = change.Value
				}
			}
			toldAsPut(t, "a drawn life", d, table)
		}
	}
}

// Of a batch that was not kept the directory tells all or nothing.
func TestTheDirectoryOfADiskThatLosesItsPower(t *testing.T) {
	name := impl.SegName(3)
	kept := headByHand(3, 1) + batchFrames([]impl.Batch{batchOf(1, put("a", "1"), put("b", "1")), batchOf(2, put("b", "2"), put("c", "2"))})
	last := batchFrame(batchOf(3, put("a", "3"), gone("b"), put("d", "3")))
	list := []impl.Act{add(name, kept), keep(name), add(name, last)}
	for left := range len(kept) + len(last) + 2 {
		d, ok := impl.CutActs(impl.Disk{}, list, 3, []int{left})
		if !ok {
			t.Fatalf("no file is left of %d bytes", left)
		}
		table := map[string]string{"a": "1", "b": "2", "c": "2"}
		if left >= len(kept)+len(last) {
			table = map[string]string{"a": "3", "c": "2", "d": "3"}
		}
		toldAsPut(t, strconv.Itoa(left)+" bytes are left", d, table)
	}
}

func roomyDir(dir []impl.Spot) ([]impl.Spot, []impl.Spot) {
	room := make([]impl.Spot, 0, len(dir)+8)
	for _, s := range dir {
		room = append(room, spot(strings.Clone(s.Key), s.Seg, s.At, s.Seq))
	}
	for n := range 8 {
		room = append(room, spot("room"+strconv.Itoa(n), n, n, n))
	}
	return room[:len(dir)], room
}

// The Spots stand in a list with room behind them, so that writing there is told, too.
func TestDirsLeaveTheirArgumentsAlone(t *testing.T) {
	for _, c := range slices.Concat(rightDirs(), wrongDirs(), lowDirs()) {
		dir, room := roomyDir(c.dir)
		before := slices.Clone(room)
		impl.DirOk(dir)
		text, _ := impl.HintText(dir)
		again, _ := impl.HintText(dir)
		if !slices.Equal(room, before) {
			t.Errorf("%s: what came in is changed", c.why)
		}
		for _, s := range dir {
			if sharesBytes(text, s.Key) {
				t.Errorf("%s: the hint shares memory with a key", c.why)
			}
		}
		if sharesBytes(text, again) {
			t.Errorf("%s: two hints share memory", c.why)
		}
	}
}

// mustShareNothing asks it of two answers to one question, and of the texts that came in.
func mustShareNothing(t *testing.T, why string, first, second []impl.Spot, came ...string) {
	t.Helper()
	var keys []string
	for _, s := range slices.Concat(first, second) {
		for _, other := range slices.Concat(keys, came) {
			if sharesBytes(s.Key, other) {
				t.Errorf("%s: the key %q shares memory", why, s.Key)
			}
		}
		keys = append(keys, s.Key)
	}
	want := slices.Clone(second)
	for place := range first[:cap(first)] {
		first[:cap(first)][place] = spot("gone", -1, -1, -1)
	}
	if !slices.Equal(second, want) {
		t.Errorf("%s: two answers share memory", why)
	}
}

func TestReadHintSharesNothing(t *testing.T) {
	for _, c := range rightDirs() {
		text := hintByHand(c.dir)
		before := strings.Clone(text)
		first, _ := impl.ReadHint(text)
		second, _ := impl.ReadHint(text)
		mustShareNothing(t, c.why, first, second, text)
		if text != before {
			t.Errorf("%s: what came in is changed", c.why)
		}
		mustHint(t, c.why+", once more", text, c.dir, true)
	}
}

func TestDirOfAndValueOfShareNothing(t *testing.T) {
	some, _ := valueDisk()
	for _, d := range []impl.Disk{
		some,
		sortedDisk(segWith(0, 0, batchOf(1, manyChanges(30)...), batchOf(2, put("k000", someText(400)))), segWith(1, 0, batchOf(3, put("k001", "x")))),
		sortedDisk(segWith(0, 0, batchOf(1, put("a", "x"))), segWith(1, 1, batchOf(2, put("b", "y")))),
		sortedDisk(file("b0", "torn"), segFile(1, 0, 3)),
		diskOf(segFile(1, 0, 3), segFile(0, 0, 3)),
		{},
	} {
		room := make([]impl.File, 0, len(d.Files)+8)
		room = append(room, copyDisk(d).Files...)
		for n := range 8 {
			room = append(room, impl.File{Name: "room" + strconv.Itoa(n), Text: "room", Kept: n})
		}
		before := copyDisk(impl.Disk{Files: room})
		came := impl.Disk{Files: room[:len(d.Files)]}
		var texts []string
		for _, f := range came.Files {
			texts = append(texts, f.Name, f.Text)
		}
		first, ok := impl.DirOf(came)
		second, _ := impl.DirOf(came)
		mustShareNothing(t, brief(d), first, second, texts...)
		for _, s := range second {
			value, there := impl.ValueOf(came, s)
			again, _ := impl.ValueOf(came, s)
			for _, text := range append(texts, s.Key, again) {
				if !there || sharesBytes(value, text) {
					t.Errorf("%s: the value of %s shares memory, or is not there", brief(d), briefSpot(s))
				}
			}
		}
		mustDir(t, "once more", came, second, ok)
		if !sameDisk(impl.Disk{Files: room}, before) {
			t.Errorf("what came in is changed: %s", brief(impl.Disk{Files: room}))
		}
	}
}
