package tests

import (
	"fmt"
	"maps"
	"math"
	"slices"
	"strconv"
	"strings"
	"testing"

	"loop.example/g00124/impl"
)

// plainLive has the changes of a batch of which a Spot tells, by a search through all Spots.
func plainLive(dir []impl.Spot, n, at int, b impl.Batch) []impl.Change {
	var live []impl.Change
	for _, change := range b.Changes {
		if slices.Contains(dir, spot(change.Key, n, at, b.Seq)) {
			live = append(live, change)
		}
	}
	return live
}

// plainLiveBytes goes by the Spots, not by the batches: the frame at each place is counted under that place.
func plainLiveBytes(e impl.Engine) int {
	if !plainEngineOk(e) {
		return 0
	}
	frames := map[[2]int]int{}
	for _, s := range e.Dir {
		records, _ := plainUnframe(textOf(e.Disk, "b"+strconv.Itoa(s.Seg))[s.At:])
		frames[[2]int{s.Seg, s.At}] = len(frameByHand(records[0]))
	}
	count := 0
	for _, bytes := range frames {
		count += bytes
	}
	return count
}

// plainMergeActs is the rule again: what the program answers is held against it.
func plainMergeActs(e impl.Engine) ([]impl.Act, bool) {
	if !plainEngineOk(e) {
		return nil, false
	}
	numbers, _, _ := plainSegments(e.Disk)
	older := numbers[:len(numbers)-1]
	if len(older) == 0 {
		return nil, false
	}
	to := slices.Max(older)
	acts := []impl.Act{add("m+", headByHand(to, to))}
	for _, n := range older {
		from, batches, _, _ := plainReadSegment(n, textOf(e.Disk, "b"+strconv.Itoa(n)))
		at := len(headByHand(n, from))
		for _, b := range batches {
			if live := plainLive(e.Dir, n, at, b); len(live) > 0 {
				acts = append(acts, add("m+", batchFrame(batchOf(b.Seq, live...))))
			}
			at += len(batchFrame(b))
		}
	}
	acts = append(acts, keep("m+"), move("m+", "b"+strconv.Itoa(to)))
	for _, n := range older {
		if n != to {
			acts = append(acts, drop("b"+strconv.Itoa(n)))
		}
	}
	return acts, true
}

func plainMerge(e impl.Engine) (impl.Engine, []impl.Act, bool) {
	acts, ok := plainMergeActs(e)
	if !ok {
		return impl.Engine{}, nil, false
	}
	d := e.Disk
	for _, a := range acts {
		if d, ok = plainAct(d, a); !ok || usedByHand(d) > e.Room {
			return impl.Engine{}, nil, false
		}
	}
	after, _, ok := plainOpen(d, e.Room)
	return after, acts, ok
}

// plainBehind does the acts, takes away what is not kept and not left, and opens the rest.
func plainBehind(e impl.Engine, list []impl.Act, whole int, left []int) (impl.Engine, bool) {
	if whole < 0 || whole > len(list) || !impl.DiskOk(e.Disk) {
		return impl.Engine{}, false
	}
	d, ok := copyDisk(e.Disk), true
	for _, a := range list[:whole] {
		if d, ok = plainAct(d, a); !ok {
			return impl.Engine{}, false
		}
	}
	for place, f := range d.Files {
		bytes := f.Kept
		for at, told := range left {
			if at == place && told > bytes {
				bytes = min(told, len(f.Text))
			}
		}
		d.Files[place] = file(f.Name, f.Text[:bytes])
	}
	after, _, ok := plainOpen(d, e.Room)
	return after, ok
}

func mustMergeBy(t *testing.T, why string, e impl.Engine, want []impl.Act, wantOk bool) {
	t.Helper()
	if acts, ok := impl.MergeActs(e); !slices.Equal(acts, want) || ok != wantOk {
		t.Errorf("%s: MergeActs: %s %v, want %s %v", why, briefActs(acts), ok, briefActs(want), wantOk)
	}
}

func mustMerge(t *testing.T, why string, e, want impl.Engine, wantActs []impl.Act, wantOk bool) {
	t.Helper()
	got, acts, ok := impl.Merge(e)
	if !sameEngine(got, want) || !slices.Equal(acts, wantActs) || ok != wantOk {
		t.Errorf("%s: Merge: %s %s %v, want %s %s %v", why, briefEngine(got), briefActs(acts), ok, briefEngine(want), briefActs(wantActs), wantOk)
	}
}

func mustNotMerge(t *testing.T, why string, e impl.Engine) {
	t.Helper()
	mustMerge(t, why, e, impl.Engine{}, nil, false)
}

func mustLive(t *testing.T, why string, e impl.Engine, want int) {
	t.Helper()
	if got := impl.LiveBytes(e); got != want {
		t.Errorf("%s: LiveBytes %d, want %d", why, got, want)
	}
}

func mustBeBehind(t *testing.T, why string, e impl.Engine, list []impl.Act, whole int, left []int, want impl.Engine, wantOk bool) {
	t.Helper()
	if got, ok := impl.Behind(e, list, whole, left); !sameEngine(got, want) || ok != wantOk {
		t.Errorf("%s: Behind %d of %s, left %v: %s %v, want %s %v", why, whole, briefActs(list), left, briefEngine(got), ok, briefEngine(want), wantOk)
	}
}

func mustNotBeBehind(t *testing.T, why string, e impl.Engine, list []impl.Act, whole int, left []int) {
	t.Helper()
	mustBeBehind(t, why, e, list, whole, left, impl.Engine{}, false)
}

func mustBeBehindPlainly(t *testing.T, why string, e impl.Engine, list []impl.Act, whole int, left []int) (impl.Engine, bool) {
	t.Helper()
	want, ok := plainBehind(e, list, whole, left)
	mustBeBehind(t, why, e, list, whole, left, want, ok)
	return want, ok
}

// tableOf has what an engine tells of its keys as a plain table.
func tableOf(t *testing.T, e impl.Engine) map[string]string {
	t.Helper()
	list, ok := impl.Contents(e)
	if !ok {
		t.Fatalf("there are no contents of %s", briefEngine(e))
	}
	return withChanges(map[string]string{}, list)
}

// mustMergePlainly asks for just what the document's words make of an engine, whatever it is; and when it is merged, that it has what it had.
func mustMergePlainly(t *testing.T, why string, e impl.Engine) (impl.Engine, []impl.Act, bool) {
	t.Helper()
	mustLive(t, why, e, plainLiveBytes(e))
	acts, ok := plainMergeActs(e)
	mustMergeBy(t, why, e, acts, ok)
	want, acts, ok := plainMerge(e)
	mustMerge(t, why, e, want, acts, ok)
	if ok {
		mustHold(t, why+", merged", want, tableOf(t, e))
		mustOpen(t, why+", merged and opened again", want.Disk, e.Room, want, nil, true)
		mustLive(t, why+", merged", want, plainLiveBytes(want))
		if want.Active != e.Active || want.Room != e.Room || impl.Used(want) > impl.Used(e) || impl.LiveBytes(want) > impl.LiveBytes(e) {
			t.Errorf("%s: %s is merged into %s", why, briefEngine(e), briefEngine(want))
		}
		if numbers, _ := impl.Segments(want.Disk); len(numbers) != 2 {
			t.Errorf("%s: segments %v behind the merge", why, numbers)
		}
	}
	return want, acts, ok
}

// mustMergeTwice asks that a second merge makes the same engine of a merged one, with nothing to drop.
func mustMergeTwice(t *testing.T, why string, e impl.Engine) impl.Engine {
	t.Helper()
	merged, _, ok := mustMergePlainly(t, why, e)
	if !ok {
		t.Fatalf("%s: not merged", why)
	}
	again, acts, ok := mustMergePlainly(t, why+", twice", merged)
	if !sameEngine(again, merged) || !ok || acts[len(acts)-1].Kind != impl.ActMove {
		t.Errorf("%s: merged twice: %s %s %v", why, briefEngine(again), briefActs(acts), ok)
	}
	return merged
}

func mustNotBeMerged(t *testing.T, why string, e impl.Engine) {
	t.Helper()
	mustLive(t, why, e, 0)
	mustMergeBy(t, why, e, nil, false)
	mustNotMerge(t, why, e)
}

// Each part is told by hand: which changes count, the acts, the engine that comes, and its bytes.
func TestMergedSegments(t *testing.T) {
	b1 := batchOf(1, put("a", "1"), put("b", "1"))
	b2 := batchOf(2, put("a", "2"), gone("c"), put("f", "2"))
	b3 := batchOf(3, put("c", "3"), put("d", someText(60)))
	b4 := batchOf(4, gone("d"))
	b5 := batchOf(5, put("b", "5"), gone("f"))
	e := opened(t, sortedDisk(segWith(0, 0, b1, b2), segWith(1, 0, b3, b4), segWith(2, 0, b5)), 500)
	table := map[string]string{"a": "2", "b": "5", "c": "3"}
	mustHold(t, "ahead", e, table)
	mustLive(t, "ahead", e, len(batchFrames([]impl.Batch{b2, b3, b5})))

	first, second := batchFrame(batchOf(2, put("a", "2"))), batchFrame(batchOf(3, put("c", "3")))
	acts := []impl.Act{add("m+", headByHand(1, 1)), add("m+", first), add("m+", second), keep("m+"), move("m+", "b1"), drop("b0")}
	want := impl.Engine{
		Disk:   diskOf(file("b1", headByHand(1, 1)+first+second), segWith(2, 0, b5)),
		Room:   500,
		Active: 2,
		Seq:    5,
		Dir:    []impl.Spot{spot("a", 1, 8, 2), spot("b", 2, 8, 5), spot("c", 1, 8+len(first), 3)},
	}
	mustMergeBy(t, "by hand", e, acts, true)
	mustMerge(t, "by hand", e, want, acts, true)
	mustHold(t, "merged", want, table)
	mustLive(t, "merged", want, len(first)+len(second)+len(batchFrame(b5)))
	mustMergePlainly(t, "plainly", e)

	mustMergeBy(t, "twice", want, acts[:5], true)
	mustMerge(t, "twice", want, want, acts[:5], true)
	for _, key := range []string{"d", "f", "", "aa"} {
		mustNotGet(t, "merged", want, key)
	}
}

// mergeCase tells which frames the merged segment has, and which segments are dropped.
type mergeCase struct {
	why   string
	files []impl.File
	to    int
	live  []impl.Batch
	drops []string
}

// mergesOfBatches has batches of which all changes count, some, or none.
func mergesOfBatches() []mergeCase {
	a1, b1, ab1 := put("a", "1"), put("b", "1"), []impl.Change{put("a", "1"), put("b", "1")}
	return []mergeCase{
		{"all count", []impl.File{segWith(0, 0, batchOf(1, ab1...), batchOf(2, put("c", "2"))), segWith(1, 0, batchOf(3, put("d", "3")))}, 0,
			[]impl.Batch{batchOf(1, ab1...), batchOf(2, put("c", "2"))}, nil},
		{"the first change of a batch counts", []impl.File{segWith(0, 0, batchOf(1, ab1...), batchOf(2, put("b", "2"))), segWith(1, 0, batchOf(3, put("d", "3")))}, 0,
			[]impl.Batch{batchOf(1, a1), batchOf(2, put("b", "2"))}, nil},
		{"the last change of a batch counts", []impl.File{segWith(0, 0, batchOf(1, ab1...)), segWith(1, 0, batchOf(3, put("a", "3")))}, 0,
			[]impl.Batch{batchOf(1, b1)}, nil},
		{"the middle one counts", []impl.File{segWith(0, 0, batchOf(1, put("a", "1"), put("b", "2"), put("c", "3")), batchOf(2, gone("a"))), segWith(1, 0, batchOf(3, gone("c")))}, 0,
			[]impl.Batch{batchOf(1, put("b", "2"))}, nil},
		{"all but the middle one count", []impl.File{segWith(0, 0, batchOf(1, put("a", "1"), put("b", "2"), put("c", "3"))), segWith(1, 0, batchOf(3, gone("b")))}, 0,
			[]impl.Batch{batchOf(1, put("a", "1"), put("c", "3"))}, nil},
		{"puts beside keys that are gone", []impl.File{segWith(0, 0, batchOf(1, put("a", "1"), gone("b"), put("c", "3"), gone("d"))), segWith(1, 0, batchOf(3, put("z", "")))}, 0,
			[]impl.Batch{batchOf(1, put("a", "1"), put("c", "3"))}, nil},
		{"none counts: put again in the same segment", []impl.File{segWith(0, 0, batchOf(1, a1), batchOf(2, put("a", "2"))), segWith(1, 0, batchOf(3, put("d", "3")))}, 0,
			[]impl.Batch{batchOf(2, put("a", "2"))}, nil},
		{"none counts: put again in a later segment", []impl.File{segWith(0, 0, batchOf(1, a1)), segWith(1, 0, batchOf(2, put("a", "2"))), segWith(2, 0, batchOf(3, put("d", "3")))}, 1,
			[]impl.Batch{batchOf(2, put("a", "2"))}, []string{"b0"}},
		{"none counts: put again in Active", []impl.File{segWith(0, 0, batchOf(1, a1)), segWith(1, 0, batchOf(2, put("a", "2")))}, 0, nil, nil},
		{"none counts: put again with the same value", []impl.File{segWith(0, 0, batchOf(1, a1), batchOf(2, a1)), segWith(1, 0, batchOf(3, a1), batchOf(4, a1))}, 0, nil, nil},
		{"the same value twice", []impl.File{segWith(0, 0, batchOf(1, a1), batchOf(2, a1)), segWith(1, 0, batchOf(3, b1))}, 0, []impl.Batch{batchOf(2, a1)}, nil},
		{"none counts: gone in the same segment", []impl.File{segWith(0, 0, batchOf(1, a1), batchOf(2, gone("a"))), segWith(1, 0, batchOf(3, b1))}, 0, nil, nil},
		{"none counts: gone in a later segment", []impl.File{segWith(0, 0, batchOf(1, a1)), segWith(1, 0, batchOf(2, gone("a"))), segWith(2, 0, batchOf(3, b1))}, 1, nil, []string{"b0"}},
		{"none counts: gone in Active", []impl.File{segWith(0, 0, batchOf(1, a1)), segWith(1, 0, batchOf(2, gone("a")))}, 0, nil, nil},
		{"gone, and put once more", []impl.File{segWith(0, 0, batchOf(1, a1), batchOf(2, gone("a")), batchOf(3, put("a", "3"))), segWith(1, 0, batchOf(4, b1))}, 0,
			[]impl.Batch{batchOf(3, put("a", "3"))}, nil},
		{"gone without ever being put", []impl.File{segWith(0, 0, batchOf(1, gone("a"), gone("b"))), segWith(1, 0, batchOf(2, gone("c")))}, 0, nil, nil},
		{"an empty value counts", []impl.File{segWith(0, 0, batchOf(1, put("a", ""))), segWith(1, 0, batchOf(2, b1))}, 0, []impl.Batch{batchOf(1, put("a", ""))}, nil},
		{"seqs far apart", []impl.File{segWith(0, 0, batchOf(0, a1), batchOf(200, b1)), segWith(1, 0, batchOf(100000, put("c", "c"))), segWith(2, 0, batchOf(impl.MaxNumber, put("d", "d")))}, 1,
			[]impl.Batch{batchOf(0, a1), batchOf(200, b1), batchOf(100000, put("c", "c"))}, []string{"b0"}},
		{"the longest batch", []impl.File{segWith(0, 0, batchOfLength(impl.MaxRecord)), segWith(1, 0, batchOf(impl.MaxNumber, b1))}, 0, []impl.Batch{batchOfLength(impl.MaxRecord)}, nil},
	}
}

// mergesOfSegments has disks of several segments, told by their numbers.
func mergesOfSegments() []mergeCase {
	one, two, three := batchOf(1, put("a", "1")), batchOf(2, put("b", "2")), batchOf(3, put("c", "3"))
	all := []impl.Batch{one, two}
	return []mergeCase{
		{"two segments", []impl.File{segWith(0, 0, one), segWith(1, 0, three)}, 0, all[:1], nil},
		{"three segments", []impl.File{segWith(0, 0, one), segWith(1, 0, two), segWith(2, 0, three)}, 1, all, []string{"b0"}},
		{"far apart", []impl.File{segWith(3, 1, one), segWith(50, 2, two), segWith(99, 0, three)}, 50, all, []string{"b3"}},
		{"by numbers, not by names", []impl.File{segWith(2, 0, one), segWith(9, 0), segWith(10, 0, two), segWith(11, 0), segWith(12, 0, three)}, 11, all, []string{"b2", "b9", "b10"}},
		{"names of one figure and of two", []impl.File{segWith(8, 8, one), segWith(9, 0, two), segWith(10, 0, three)}, 9, all, []string{"b8"}},
		{"the greatest is another than the last file", []impl.File{segWith(9, 9, one), segWith(10, 0, two), segWith(11, 0), segWith(90, 0, three)}, 11, all, []string{"b9", "b10"}},
		{"from above 0", []impl.File{segWith(5, 5, one), segWith(6, 5, two), segWith(7, 5, three)}, 6, all, []string{"b5"}},
		{"the first one is from itself on", []impl.File{segWith(5, 5, one), segWith(7, 5, three)}, 5, all[:1], nil},
		{"Active tells the from", []impl.File{segWith(5, 0, one), segWith(6, 0, two), segWith(7, 5, three)}, 6, all, []string{"b5"}},
		{"older ones without batches", []impl.File{segWith(0, 0), segWith(1, 0), segWith(2, 0, three)}, 1, nil, []string{"b0"}},
		{"the first one without batches", []impl.File{segWith(0, 0), segWith(1, 0, two), segWith(2, 0, three)}, 1, all[1:], []string{"b0"}},
		{"the last one but Active without batches", []impl.File{segWith(0, 0, one), segWith(1, 0), segWith(2, 0, three)}, 1, all[:1], []string{"b0"}},
		{"Active without batches", []impl.File{segWith(0, 0, one), segWith(1, 0, two), segWith(2, 0)}, 1, all, []string{"b0"}},
		{"none has a batch", []impl.File{segWith(0, 0), segWith(1, 0)}, 0, nil, nil},
		{"MaxSegment", []impl.File{segWith(98, 98, one), segWith(99, 98, three)}, 98, all[:1], nil},
		{"other files beside", []impl.File{segWith(0, 0, one), segWith(1, 0, two), segWith(2, 0, three), file("a", "x"), file("b", ""), file("b00", headByHand(0, 0)), file("b100", "y"), file("m", "m"), file("z", "z")}, 1, all, []string{"b0"}},
	}
}

func TestMergeActs(t *testing.T) {
	for _, c := range slices.Concat(mergesOfBatches(), mergesOfSegments()) {
		e := opened(t, sortedDisk(c.files...), impl.MaxRoom)
		acts := []impl.Act{add("m+", headByHand(c.to, c.to))}
		for _, b := range c.live {
			acts = append(acts, add("m+", batchFrame(b)))
		}
		acts = append(acts, keep("m+"), move("m+", "b"+strconv.Itoa(c.to)))
		for _, name := range c.drops {
			acts = append(acts, drop(name))
		}
		mustMergeBy(t, c.why, e, acts, true)
		merged := mustMergeTwice(t, c.why, e)
		if got := textOf(merged.Disk, "b"+strconv.Itoa(c.to)); got != headByHand(c.to, c.to)+batchFrames(c.live) {
			t.Errorf("%s: the merged segment is %.60q", c.why, got)
		}
		if active := "b" + strconv.Itoa(e.Active); textOf(merged.Disk, active) != textOf(e.Disk, active) {
			t.Errorf("%s: Active is another one", c.why)
		}
		for _, f := range c.files {
			if plainNumber(f.Name) < 0 && textOf(merged.Disk, f.Name) != f.Text {
				t.Errorf("%s: the file %q is another one", c.why, f.Name)
			}
		}
		mustStayTheSame(t, c.why, e)
	}
}

// Where Active has batches, Seq stays; where it has none, it is that of the last batch that is left.
func TestSeqsBehindAMerge(t *testing.T) {
	one, two, three := batchOf(10, put("a", "1")), batchOf(20, put("b", "2")), batchOf(30, gone("b"))
	for _, c := range []struct {
		why   string
		files []impl.File
		seq   int
	}{
		{"Active has the last batch", []impl.File{segWith(0, 0, one, two), segWith(1, 0, three)}, 30},
		{"Active has none, and the last batch counts", []impl.File{segWith(0, 0, one, two), segWith(1, 0)}, 20},
		{"Active has none, and the last batch does not count", []impl.File{segWith(0, 0, one, two, three), segWith(1, 0)}, 10},
		{"Active has none, and no batch counts", []impl.File{segWith(0, 0, two, three), segWith(1, 0)}, 0},
	} {
		merged := mustMergeTwice(t, c.why, opened(t, sortedDisk(c.files...), 500))
		if merged.Seq != c.seq {
			t.Errorf("%s: seq %d, want %d", c.why, merged.Seq, c.seq)
		}
		next, _, code := mustPutPlainly(t, c.why, merged, []impl.Change{put("z", "z")})
		if code != 0 || next.Seq != c.seq+1 {
			t.Errorf("%s: then seq %d, code %d", c.why, next.Seq, code)
		}
	}
}

func TestLiveBytes(t *testing.T) {
	one := batchOf(1, put("a", "1"), put("b", someText(30)), put("c", "3"))
	two := batchOf(2, put("d", "4"))
	length, other := len(batchFrame(one)), len(batchFrame(two))
	for _, c := range []struct {
		why   string
		files []impl.File
		want  int
	}{
		{"a head alone", []impl.File{segWith(0, 0)}, 0},
		{"several Spots tell of one frame", []impl.File{segWith(0, 0, one)}, length},
		{"two frames", []impl.File{segWith(0, 0, one, two)}, length + other},
		{"two segments", []impl.File{segWith(0, 0, one), segWith(1, 0, two)}, length + other},
		{"one Spot still tells of it", []impl.File{segWith(0, 0, one, batchOf(2, gone("a"), gone("c")))}, length},
		{"no Spot tells of it", []impl.File{segWith(0, 0, one, batchOf(2, gone("a"), gone("b"), gone("c")))}, 0},
		{"all is put again", []impl.File{segWith(0, 0, one), segWith(1, 0, batchOf(2, one.Changes...))}, length},
		{"a key is put again", []impl.File{segWith(0, 0, two, batchOf(3, put("d", someText(200))))}, len(batchFrame(batchOf(3, put("d", someText(200)))))},
		{"gone ahead, and put", []impl.File{segWith(0, 0, batchOf(0, gone("d")), two)}, other},
		{"frames at one place of two segments", []impl.File{segWith(0, 0, two), segWith(1, 0, batchOf(3, put("e", "4")))}, 2 * other},
		{"a frame with a longer length", []impl.File{segWith(0, 0, batchOf(1, put("a", someText(2000))))}, len(batchFrame(batchOf(1, put("a", someText(2000)))))},
		{"other files", []impl.File{segWith(0, 0, two), file("z", batchFrame(one))}, other},
	} {
		e := opened(t, sortedDisk(c.files...), 5000)
		mustLive(t, c.why, e, c.want)
		mustMergePlainly(t, c.why, e)
		e.Room = 100
		mustLive(t, c.why+", in another room", e, c.want)
	}
}

func TestEnginesOfOneSegment(t *testing.T) {
	for _, files := range [][]impl.File{
		{segWith(0, 0)},
		{segFile(0, 0, 1, 2, 3)},
		{segWith(7, 3, batchOf(1, put("a", "1")), batchOf(2, gone("a")))},
		{filled(0, 0, 2000)},
		{segFile(99, 99, 4)},
		{segFile(0, 0, 1), file("a", "other"), file("b01", segmentByHand(1, 0, 2)), file("b100", "x")},
	} {
		e := opened(t, sortedDisk(files...), 5000)
		mustMergeBy(t, "one segment", e, nil, false)
		mustNotMerge(t, "one segment", e)
		mustMergePlainly(t, "one segment", e)
		if live := impl.LiveBytes(e); (live > 0) != (len(e.Dir) > 0) {
			t.Errorf("one segment: LiveBytes %d of %d Spots", live, len(e.Dir))
		}
	}
}

// The most bytes are used just ahead of the move: all files, and NameNew.
func TestMergesInAllTheirRoom(t *testing.T) {
	for _, c := range slices.Concat(mergesOfBatches(), mergesOfSegments()) {
		files := append([]impl.File{file("fill", someText(60)), file("fill2", someText(20))}, c.files...)
		d := sortedDisk(files...)
		most := usedByHand(d) + len(headByHand(c.to, c.to)) + len(batchFrames(c.live))
		if most > impl.MaxRoom {
			continue
		}
		for room := most - 2; room <= most+1; room++ {
			e := opened(t, d, room)
			acts, ok := impl.MergeActs(e)
			if !ok || len(acts) == 0 {
				t.Errorf("%s: MergeActs asks for no room: %s %v", c.why, briefActs(acts), ok)
			}
			if _, _, ok := mustMergePlainly(t, c.why, e); ok != (room >= most) {
				t.Errorf("%s: %v with room %d, where %d bytes are used", c.why, ok, room, most)
			}
			mustHold(t, c.why, e, tableOf(t, e))
		}
	}
}

// What is used ahead of the merge may be more than the room already; and a merge that would leave little may still use too much while it goes on.
func TestMergesWithoutRoom(t *testing.T) {
	full := opened(t, sortedDisk(filled(0, 0, 400), filled(1, 0, 400)), 100)
	mustNotMerge(t, "more than its room ahead", full)
	for _, c := range []struct {
		room int
		ok   bool
	}{{800, false}, {807, false}, {808, true}} {
		e := opened(t, sortedDisk(segWith(0, 0, batchOf(1, put("a", someText(378)))), segWith(1, 0, batchOf(2, put("a", someText(378))))), c.room)
		if used := impl.Used(e); used != 800 {
			t.Fatalf("%d bytes are used", used)
		}
		if _, _, ok := mustMergePlainly(t, "nothing but a head comes", e); ok != c.ok {
			t.Errorf("nothing but a head comes: %v with room %d", ok, c.room)
		}
	}
	long := func(n int) impl.File {
		var batches []impl.Batch
		for place := range 6 {
			batches = append(batches, batchOf(10*n+place, put(fmt.Sprintf("k%d%d", n, place), someText(1900))))
		}
		return segWith(n, 0, batches...)
	}
	e := opened(t, sortedDisk(long(0), long(1), long(2)), impl.MaxRoom)
	acts, ok := impl.MergeActs(e)
	if _, done := impl.DoActs(e.Disk, acts); !ok || done == len(acts) {
		t.Errorf("more than MaxText bytes: %d acts of %d, %v", done, len(acts), ok)
	}
	mustNotMerge(t, "more than MaxText bytes", e)
	mustMergePlainly(t, "more than MaxText bytes", e)
}

func TestMergesWithAllTheirFiles(t *testing.T) {
	for _, c := range []struct {
		files int
		ok    bool
	}{{2, true}, {3, true}, {impl.MaxFiles - 2, true}, {impl.MaxFiles - 1, true}, {impl.MaxFiles, false}} {
		e := opened(t, sortedDisk(append(fullDisk(c.files-2).Files, segFile(0, 0, 1), segFile(1, 0, 2))...), 1000)
		if _, _, ok := mustMergePlainly(t, "other files", e); ok != c.ok {
			t.Errorf("%d files: %v", c.files, ok)
		}
		var segments []impl.File
		for n := range c.files {
			segments = append(segments, segWith(n, 0, batchOf(n, put("k"+strconv.Itoa(n), "v"))))
		}
		e = opened(t, sortedDisk(segments...), 2000)
		merged, acts, ok := mustMergePlainly(t, "segments", e)
		if ok != c.ok || ok && (len(merged.Disk.Files) != 2 || len(acts) != 1+(c.files-1)+2+(c.files-2)) {
			t.Errorf("%d segments: %s %v", c.files, briefActs(acts), ok)
		}
		if acts, ok := impl.MergeActs(e); !ok || len(acts) == 0 {
			t.Errorf("%d segments: MergeActs asks for no file: %v", c.files, ok)
		}
	}
}

// mustStayTheSame cuts the acts of a merge at every place (within a long file at some): opened again, the engine is as it was, or as it is when it is merged; in both cases it has what it had, and opened once more there are no acts. It is merged once the new segment is in its place.
func mustStayTheSame(t *testing.T, why string, e impl.Engine) {
	t.Helper()
	merged, acts, ok := impl.Merge(e)
	if !ok {
		t.Fatalf("%s: not merged", why)
	}
	contents, _ := impl.Contents(e)
	moved := slices.IndexFunc(acts, func(a impl.Act) bool { return a.Kind == impl.ActMove })
	for whole := range len(acts) + 1 {
		d, done := impl.DoActs(e.Disk, acts[:whole])
		if done < whole {
			t.Fatalf("%s: act %d is false", why, done)
		}
		for _, left := range someOf(leftovers(d)) {
			back, ok := impl.Behind(e, acts, whole, left)
			if got, right := impl.Contents(back); !ok || !right || !slices.Equal(got, contents) {
				t.Fatalf("%s: cut behind %d acts, left %v: %s %v has other contents than %s", why, whole, left, briefEngine(back), ok, briefEngine(e))
			}
			want := e
			if whole > moved {
				want = merged
			}
			if !sameEngine(back, want) {
				t.Fatalf("%s: cut behind %d acts, left %v: %s, want %s", why, whole, left, briefEngine(back), briefEngine(want))
			}
			mustOpen(t, why+", opened once more", back.Disk, e.Room, back, nil, true)
		}
	}
	for _, whole := range []int{-1, len(acts) + 1} {
		mustNotBeBehind(t, why+", no such act", e, acts, whole, nil)
	}
}

// someOf takes every few of very many, and the last ones.
func someOf(lists [][]int) [][]int {
	var some [][]int
	step := 1 + len(lists)/700
	for place, left := range lists {
		if place%step == 0 || place > len(lists)-5 {
			some = append(some, left)
		}
	}
	return some
}

// grown is an engine that was put into until it has so many segments, and the table of what was put.
func grown(t *testing.T, room, segments, bytes int) (impl.Engine, map[string]string) {
	t.Helper()
	e := formatted(t, room)
	table := map[string]string{}
	for n := 0; e.Active < segments-1; n++ {
		list := []impl.Change{put("k"+strconv.Itoa(n%7), someText(bytes)+strconv.Itoa(n)), put("l"+strconv.Itoa(n%2), ""), gone("m")}
		if n%4 == 0 {
			list = []impl.Change{put("all", strconv.Itoa(n)), gone("k" + strconv.Itoa(n%5)), put("m", "m"), put("once"+strconv.Itoa(n), strconv.Itoa(n))}
		}
		next, _, code := impl.PutBatch(e, list)
		if code != 0 {
			t.Fatalf("batch %d into %s: code %d", n, briefEngine(e), code)
		}
		e, table = next, withChanges(table, list)
	}
	return e, table
}

func TestWhateverThePowerLeavesOfAMerge(t *testing.T) {
	for _, c := range []struct{ room, segments, bytes int }{{2000, 2, 20}, {2000, 3, 40}, {3000, 5, 70}, {5000, 6, 10}, {impl.MaxRoom, 12, 100}, {impl.MaxRoom, 29, 130}} {
		e, table := grown(t, c.room, c.segments, c.bytes)
		why := fmt.Sprintf("%d segments, values of %d bytes", c.segments, c.bytes)
		mustHold(t, why, e, table)
		merged := mustMergeTwice(t, why, e)
		mustHold(t, why+", merged", merged, table)
		if merged.Seq != e.Seq || merged.Active != e.Active || impl.Used(merged) >= impl.Used(e) {
			t.Errorf("%s: %s is merged into %s", why, briefEngine(e), briefEngine(merged))
		}
		mustStayTheSame(t, why, e)
		mustStayTheSame(t, why+", merged", merged)
	}
}

// In each state of a life the power goes within a merge, at every place; the life goes on with the merged engine every third time.
func TestMergesInALife(t *testing.T) {
	e := formatted(t, 2500)
	table := map[string]string{}
	merges := 0
	for n := range 45 {
		list := []impl.Change{put("k"+strconv.Itoa(n%5), someText(n*29%80)), put("l", strconv.Itoa(n))}
		if n%6 == 5 {
			list[0] = gone("k" + strconv.Itoa(n%4))
		}
		next, acts, code := impl.PutBatch(e, list)
		if code != 0 {
			t.Fatalf("batch %d: code %d", n, code)
		}
		mustBeWholeOrNot(t, "a batch between merges", e, next, acts)
		e, table = next, withChanges(table, list)
		merged, _, ok := mustMergePlainly(t, "in a life", e)
		if !ok {
			continue
		}
		mustStayTheSame(t, "in a life", e)
		mustHold(t, "in a life", merged, table)
		if n%3 == 0 {
			e = merged
			merges++
		}
	}
	if merges < 10 || e.Active < 5 {
		t.Errorf("only %d merges, %d segments", merges, e.Active+1)
	}
}

// Where files run out, a merge makes place for further batches; where bytes do, there is no room for the merge, either.
func TestMergesOfFullEngines(t *testing.T) {
	for _, c := range []struct {
		room, bytes int
		ok          bool
	}{{3000, 60, false}, {impl.MaxRoom, 75, true}, {impl.MaxRoom, 290, true}, {impl.MaxRoom, 1500, false}} {
		e := formatted(t, c.room)
		table := map[string]string{}
		merges := 0
		for n := 0; merges < 3; n++ {
			list := []impl.Change{put("k"+strconv.Itoa(n%4), someText(c.bytes)+strconv.Itoa(n))}
			next, _, code := impl.PutBatch(e, list)
			if code == 0 {
				e, table = next, withChanges(table, list)
				continue
			}
			merged, _, ok := mustMergePlainly(t, "a full engine", e)
			if ok != c.ok {
				t.Errorf("room %d, values of %d bytes: %v, with %d files and %d bytes", c.room, c.bytes, ok, len(e.Disk.Files), impl.Used(e))
			}
			if !ok {
				break
			}
			mustHold(t, "a full engine, merged", merged, table)
			if _, _, code = impl.PutBatch(merged, list); code != 0 {
				t.Fatalf("room %d, values of %d bytes: full behind merge %d", c.room, c.bytes, merges)
			}
			e = merged
			merges++
		}
		mustHold(t, "a life with merges", e, table)
	}
}

func TestBehind(t *testing.T) {
	e := opened(t, sortedDisk(segFile(0, 0, 1), segWith(1, 0, batchOf(2, put("a", "2")))), 500)
	more, acts, code := impl.PutBatch(e, []impl.Change{put("a", "3"), put("z", "3")})
	if code != 0 || len(acts) != 2 {
		t.Fatalf("code %d, %s", code, briefActs(acts))
	}
	bytes := len(textOf(e.Disk, "b1"))
	all := len(textOf(more.Disk, "b1"))
	for _, c := range []struct {
		why   string
		whole int
		left  []int
		want  impl.Engine
		ok    bool
	}{
		{"no act", 0, nil, e, true},
		{"no act, and much is left", 0, []int{9999, 9999, 9999}, e, true},
		{"the frame is not kept", 1, nil, e, true},
		{"left is empty", 1, []int{}, e, true},
		{"left tells of the first file alone", 1, []int{all}, e, true},
		{"nothing is left", 1, []int{0, 0}, e, true},
		{"less than was kept", 1, []int{1, 1}, e, true},
		{"all but a byte is left", 1, []int{0, all - 1}, e, true},
		{"a byte is left", 1, []int{0, bytes + 1}, e, true},
		{"all is left", 1, []int{0, all}, more, true},
		{"more than all is left", 1, []int{0, all + 1}, more, true},
		{"the most is left", 1, []int{math.MaxInt, math.MaxInt}, more, true},
		{"left below 0", 1, []int{-1, -1}, e, true},
		{"left far below 0", 1, []int{math.MinInt, math.MinInt}, e, true},
		{"left below 0 of another file", 1, []int{-5, all}, more, true},
		{"left is longer than the files", 1, []int{0, all, 7, -7, 0, 9999}, more, true},
		{"left is much longer", 1, slices.Repeat([]int{bytes + 3}, 500), e, true},
		{"all acts", 2, nil, more, true},
		{"all acts, and nothing is left", 2, []int{0, 0, -1}, more, true},
		{"whole is below 0", -1, nil, impl.Engine{}, false},
		{"whole is far below 0", math.MinInt, []int{all, all}, impl.Engine{}, false},
		{"whole is one more than there are", 3, nil, impl.Engine{}, false},
		{"whole is far more", math.MaxInt, []int{all, all}, impl.Engine{}, false},
	} {
		mustBeBehind(t, c.why, e, acts, c.whole, c.left, c.want, c.ok)
		mustBeBehindPlainly(t, c.why, e, acts, c.whole, c.left)
	}
	mustBeBehind(t, "acts that are none", e, nil, 0, nil, e, true)
	mustNotBeBehind(t, "one of none", e, nil, 1, nil)
	mustNotBeBehind(t, "more behind, in the list's room", e, acts[:1], 2, nil)
}

// One act is false: up to it all is as it was, with it and behind it there is no engine.
func TestBehindActsThatAreFalse(t *testing.T) {
	e, _ := grown(t, 2000, 4, 30)
	acts, _ := impl.MergeActs(e)
	for _, wrong := range []impl.Act{{}, {Kind: 5, Name: "b0"}, keep("none"), drop("none"), move("m+", "m+"), move("none", "b0"), add("", "x"), add("toolongname", "x"), add("b3", someText(impl.MaxText)), {Kind: impl.ActKeep, Name: "b0", To: "b1"}, {Kind: impl.ActDrop, Name: "b0", Text: "x"}} {
		for at := range len(acts) + 1 {
			list := slices.Insert(slices.Clone(acts), at, wrong)
			for whole := range len(list) + 1 {
				_, ok := mustBeBehindPlainly(t, "a false act", e, list, whole, []int{5, 5, 500})
				if ok != (whole <= at) {
					t.Errorf("%s at %d of %d: %v", briefAct(wrong), at, whole, ok)
				}
			}
		}
	}
}

// Behind asks for nothing of an engine but a disk that can be opened behind the acts, and a room.
func TestBehindOfOtherEngines(t *testing.T) {
	e := someEngine(t)
	acts, _ := impl.MergeActs(e)
	for why, other := range changedEngines(e) {
		for whole := -1; whole <= len(acts)+1; whole++ {
			mustBeBehindPlainly(t, why, other, acts, whole, nil)
			mustBeBehindPlainly(t, why, other, acts, whole, []int{1000, 30, 1000})
		}
	}
	bare := impl.Engine{Disk: e.Disk, Room: e.Room}
	mustBeBehind(t, "a disk and a room alone", bare, nil, 0, nil, e, true)
	for _, room := range wrongRooms() {
		other := copyEngine(e)
		other.Room = room
		mustNotBeBehind(t, "a wrong room", other, acts, len(acts), nil)
		mustNotBeBehind(t, "a wrong room", other, nil, 0, nil)
	}
	for _, c := range wrongDisks() {
		mustNotBeBehind(t, c.why, impl.Engine{Disk: c.d, Room: 500}, nil, 0, nil)
		mustNotBeBehind(t, c.why, impl.Engine{Disk: c.d, Room: 500}, acts, 1, nil)
	}
	for _, c := range rightDisks() {
		mustNotBeBehind(t, c.why, impl.Engine{Disk: c.d, Room: 500}, nil, 0, nil)
	}
	mustNotBeBehind(t, "nothing", impl.Engine{}, nil, 0, nil)

	head := impl.File{Name: "b0", Text: segmentByHand(0, 0, 1, 2), Kept: len(segmentByHand(0, 0, 1))}
	mustBeBehind(t, "a batch that is not kept", impl.Engine{Disk: diskOf(head), Room: 500}, nil, 0, nil, opened(t, diskOf(segFile(0, 0, 1)), 500), true)
	mustBeBehind(t, "a batch that is left", impl.Engine{Disk: diskOf(head), Room: 500}, nil, 0, []int{500}, opened(t, diskOf(segFile(0, 0, 1, 2)), 500), true)
	mustNotBeBehind(t, "the first segment is dropped", opened(t, diskOf(segFile(0, 0, 1)), 500), []impl.Act{drop("b0")}, 1, nil)
}

func TestMergesOfEnginesThatAreNotRight(t *testing.T) {
	e := someEngine(t)
	mustMergePlainly(t, "as it is", e)
	for why, other := range changedEngines(e) {
		mustNotBeMerged(t, why, other)
		mustMergePlainly(t, why, other)
	}
	for _, c := range slices.Concat(wrongDisks(), rightDisks(), []namedDisk{
		{"an older segment is torn", sortedDisk(file("b0", segmentByHand(0, 0, 1)+"torn"), segFile(1, 0, 2))},
		{"Active is torn", sortedDisk(segFile(0, 0, 1), file("b1", segmentByHand(1, 0, 2)+"torn"))},
		{"a new file", sortedDisk(segFile(0, 0, 1), segFile(1, 0, 2), file("m+", headByHand(0, 0)))},
		{"one that counts no more", sortedDisk(segFile(0, 0, 1), segFile(1, 1, 2), segFile(2, 0, 3))},
		{"seqs that fall", sortedDisk(segFile(0, 0, 2), segFile(1, 0, 1))},
	}) {
		for _, room := range []int{0, 100, impl.MaxRoom} {
			mustNotBeMerged(t, c.why, impl.Engine{Disk: c.d, Room: room})
			if e, _, ok := impl.OpenEngine(c.d, room); ok {
				e.Disk = c.d
				mustNotBeMerged(t, c.why+", not mended", e)
			}
		}
	}
	mustNotBeMerged(t, "nothing", impl.Engine{})
}

// An engine may have more keys than a right directory.
func TestMergesOfManyKeys(t *testing.T) {
	var files []impl.File
	for n := range 9 {
		own, shared := batchOf(2*n), batchOf(2*n+1)
		for key := range impl.MaxChanges {
			own.Changes = append(own.Changes, put(fmt.Sprintf("own%d%02d", n, key), strconv.Itoa(n)))
			shared.Changes = append(shared.Changes, put(fmt.Sprintf("shared%02d", key+n), strconv.Itoa(n)))
		}
		files = append(files, segWith(n, 0, own, shared))
	}
	e := opened(t, sortedDisk(files...), impl.MaxRoom)
	if len(e.Dir) != 9*impl.MaxChanges+impl.MaxChanges+8 {
		t.Errorf("%d keys", len(e.Dir))
	}
	mustMergeTwice(t, "many keys", e)
}

func TestDrawnDisksThatAreMerged(t *testing.T) {
	draw := &drawer{state: 21}
	merges, fulls, alones, cuts := 0, 0, 0, 0
	for range 2500 {
		d := draw.segmentDisk()
		e, _, ok := impl.OpenEngine(d, 100+draw.below(1500))
		if !ok {
			continue
		}
		_, acts, ok := mustMergePlainly(t, "a drawn disk: "+brief(d), e)
		if !ok {
			if _, several := impl.MergeActs(e); several {
				fulls++
			} else {
				alones++
			}
			continue
		}
		merges++
		for whole := range len(acts) + 1 {
			cuts++
			left := []int{draw.below(200), draw.below(200), draw.below(200) - 20, draw.below(400)}
			back, ok := mustBeBehindPlainly(t, "a drawn cut", e, acts, whole, left)
			if !ok {
				t.Fatalf("a drawn cut: no engine behind %d of %s", whole, briefActs(acts))
			}
			mustHold(t, "a drawn cut", back, tableOf(t, e))
		}
	}
	if merges < 200 || fulls < 20 || alones < 50 || cuts < 1000 {
		t.Errorf("only %d merges, %d without room, %d of one segment, %d cuts", merges, fulls, alones, cuts)
	}
}

// A drawn life: batches, merges, and the power that goes within the acts of both; what is got is what a plain table has.
func TestMergesInDrawnLives(t *testing.T) {
	draw := &drawer{state: 22}
	puts, merges, cutPuts, cutMerges, kept := 0, 0, 0, 0, 0
	for range 25 {
		room := 1000 + draw.below(6000)
		e := formatted(t, room)
		table := map[string]string{}
		for range 90 {
			if draw.below(6) == 0 {
				next, acts, ok := mustMergePlainly(t, "a drawn merge", e)
				if !ok {
					continue
				}
				merges++
				if draw.below(2) == 0 {
					cutMerges++
					next, ok = mustBeBehindPlainly(t, "a drawn cut of a merge", e, acts, draw.below(len(acts)+1), draw.left())
				}
				if !ok {
					t.Fatalf("a drawn merge is lost: %s", briefEngine(e))
				}
				e = next
				mustHold(t, "a drawn merge", e, table)
				continue
			}
			list := draw.batch().Changes
			next, acts, code := impl.PutBatch(e, list)
			if code != 0 {
				continue
			}
			puts++
			after := withChanges(table, list)
			if draw.below(5) == 0 {
				cutPuts++
				back, ok := mustBeBehindPlainly(t, "a drawn cut of a batch", e, acts, draw.below(len(acts)+1), draw.left())
				if !ok || !sameEngine(back, e) && !sameEngine(back, next) {
					t.Fatalf("a drawn cut: %s %v", briefEngine(back), ok)
				}
				if sameEngine(back, e) {
					continue
				}
				kept++
			}
			e, table = next, after
			mustHold(t, "a drawn life", e, table)
		}
	}
	if puts < 600 || merges < 100 || cutPuts < 100 || cutMerges < 40 || kept < 20 {
		t.Errorf("only %d puts (%d cut, %d of these kept), %d merges (%d cut)", puts, cutPuts, kept, merges, cutMerges)
	}
}

// left draws what the power leaves of files.
func (w *drawer) left() []int {
	var list []int
	for range w.below(impl.MaxFiles + 3) {
		list = append(list, w.below(700)-100)
	}
	return list
}

func TestMergesShareNothing(t *testing.T) {
	lived, _ := grown(t, 2000, 4, 20)
	engines := []impl.Engine{
		formatted(t, 100),
		someEngine(t),
		lived,
		opened(t, sortedDisk(filled(0, 0, 400), filled(1, 0, 300), file("z", "other")), 2000),
		opened(t, sortedDisk(filled(0, 0, 400), filled(1, 0, 300), file("z", "other")), 800),
		{Disk: sortedDisk(segFile(0, 0, 1), file("b1", segmentByHand(1, 1, 2, 3)+"torn"), file("m+", "new")), Room: 300, Active: 1, Seq: 3},
		{Disk: diskOf(segFile(1, 0, 3), segFile(0, 0, 3)), Room: 300},
		{},
	}
	for place, e := range engines {
		why := "engine " + strconv.Itoa(place)
		came, files, dir := roomyEngine(e)
		filesBefore, dirBefore := copyDisk(diskOf(files...)), slices.Clone(dir)
		given := textsOfEngine(came)

		live := impl.LiveBytes(came)
		acts1, okActs := impl.MergeActs(came)
		acts2, _ := impl.MergeActs(came)
		mustShareNoText(t, why+": MergeActs", slices.Concat(textsOfActs(acts1), textsOfActs(acts2)), given)
		merged1, actsMerged1, okMerged := impl.Merge(came)
		merged2, actsMerged2, _ := impl.Merge(came)
		mustShareNoText(t, why+": Merge", slices.Concat(textsOfEngine(merged1), textsOfActs(actsMerged1), textsOfEngine(merged2), textsOfActs(actsMerged2)), given)

		scribble(merged1, acts1, nil)
		scribble(impl.Engine{}, actsMerged1, nil)
		mustLive(t, why+", once more", came, live)
		mustMergeBy(t, why+", once more", came, acts2, okActs)
		mustMerge(t, why+", once more", came, merged2, actsMerged2, okMerged)
		if !sameDisk(diskOf(files...), filesBefore) || !slices.Equal(dir, dirBefore) {
			t.Errorf("%s: what came in is changed", why)
		}
	}
}

func TestBehindSharesNothing(t *testing.T) {
	e, _ := grown(t, 2000, 4, 20)
	merge, _ := impl.MergeActs(e)
	for _, list := range [][]impl.Act{nil, merge, {add("b3", "torn"), keep("b3")}, {add("z", "other"), add("y", "more")}, {{}}} {
		room := append(ownActs(list...), impl.Act{Kind: 7, Name: "room"}, impl.Act{Kind: 8, Name: "room"})
		acts := room[:len(list)]
		leftRoom := []int{3, -1, 9, 500, 7, 7}
		left := leftRoom[:4]
		for whole := -1; whole <= len(list)+1; whole++ {
			why := fmt.Sprintf("%d of %d acts", whole, len(list))
			came, files, dir := roomyEngine(e)
			filesBefore, dirBefore, roomBefore := copyDisk(diskOf(files...)), slices.Clone(dir), slices.Clone(room)
			first, ok := impl.Behind(came, acts, whole, left)
			second, _ := impl.Behind(came, acts, whole, left)
			mustShareNoText(t, why, slices.Concat(textsOfEngine(first), textsOfEngine(second)), slices.Concat(textsOfEngine(came), textsOfActs(acts)))
			scribble(first, nil, nil)
			mustBeBehind(t, why+", once more", came, acts, whole, left, second, ok)
			if !sameDisk(diskOf(files...), filesBefore) || !slices.Equal(dir, dirBefore) || !slices.Equal(room, roomBefore) || !slices.Equal(leftRoom, []int{3, -1, 9, 500, 7, 7}) {
				t.Errorf("%s: what came in is changed", why)
			}
		}
	}
}

// What a merge leaves out is not on the disk any more.
func TestMergesLeaveOutWhatCountsNoMore(t *testing.T) {
	e := formatted(t, 5000)
	for n := range 30 {
		list := []impl.Change{put("key", "secret"+strconv.Itoa(n)), put("pad", someText(40))}
		e, _, _ = impl.PutBatch(e, list)
	}
	e, _, _ = impl.PutBatch(e, []impl.Change{gone("key")})
	for e.Active < 8 {
		e, _, _ = impl.PutBatch(e, []impl.Change{put("other", someText(60))})
	}
	merged := mustMergeTwice(t, "secrets", e)
	for _, f := range merged.Disk.Files {
		if strings.Contains(f.Text, "secret") {
			t.Errorf("%s still has what counts no more", f.Name)
		}
	}
	if keys := slices.Sorted(maps.Keys(tableOf(t, merged))); !slices.Equal(keys, []string{"other", "pad"}) {
		t.Errorf("keys %v", keys)
	}
}
