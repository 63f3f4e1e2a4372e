package tests

import (
	"fmt"
	"maps"
	"math"
	"slices"
	"strconv"
	"strings"
	"testing"

	"loop.example/g00124/impl"
)

func sameEngine(a, b impl.Engine) bool {
	return sameDisk(a.Disk, b.Disk) && a.Room == b.Room && a.Active == b.Active && a.Seq == b.Seq && slices.Equal(a.Dir, b.Dir)
}

func copyEngine(e impl.Engine) impl.Engine {
	own := impl.Engine{Disk: copyDisk(e.Disk), Room: e.Room, Active: e.Active, Seq: e.Seq}
	for _, s := range e.Dir {
		own.Dir = append(own.Dir, spot(strings.Clone(s.Key), s.Seg, s.At, s.Seq))
	}
	return own
}

// briefEngine keeps long texts out of what a failed test tells.
func briefEngine(e impl.Engine) string {
	return fmt.Sprintf("{%s room %d active %d seq %d %s}", brief(e.Disk), e.Room, e.Active, e.Seq, briefDir(e.Dir))
}

func briefActs(list []impl.Act) string {
	out := []string{strconv.Itoa(len(list)) + " acts"}
	for _, a := range list {
		out = append(out, briefAct(a))
	}
	return "[" + strings.Join(out, "; ") + "]"
}

func usedByHand(d impl.Disk) int {
	used := 0
	for _, f := range d.Files {
		used += len(f.Text)
	}
	return used
}

// plainNumber tells which segment a file's name is of, by trying all.
func plainNumber(name string) int {
	for n := range 100 {
		if name == "b"+strconv.Itoa(n) {
			return n
		}
	}
	return -1
}

// plainOpen is the rule again, by plain searches: what the program answers is held against it.
func plainOpen(d impl.Disk, room int) (impl.Engine, []impl.Act, bool) {
	numbers, seqs, ok := plainSegments(d)
	if room < 100 || room > 20000 || !ok || !rising(seqs) {
		return impl.Engine{}, nil, false
	}
	active := numbers[len(numbers)-1]
	var acts, mend []impl.Act
	for _, f := range d.Files {
		n := plainNumber(f.Name)
		if f.Name == "m+" || n >= 0 && !slices.Contains(numbers, n) {
			acts = append(acts, drop(f.Name))
			n = -1
		}
		_, _, end, _ := plainReadSegment(n, f.Text)
		torn := n >= 0 && end < len(f.Text)
		if f.Kept < len(f.Text) || torn && n != active {
			return impl.Engine{}, nil, false
		}
		if torn {
			mend = []impl.Act{add("m+", f.Text[:end]), keep("m+"), move("m+", f.Name)}
		}
	}
	acts = append(acts, mend...)
	e := impl.Engine{Disk: d, Room: room, Active: active}
	for _, a := range acts {
		if e.Disk, ok = plainAct(e.Disk, a); !ok {
			return impl.Engine{}, nil, false
		}
	}
	e.Dir, _ = plainDirOf(d)
	if len(seqs) > 0 {
		e.Seq = seqs[len(seqs)-1]
	}
	return e, acts, true
}

func plainEngineOk(e impl.Engine) bool {
	opened, acts, ok := plainOpen(e.Disk, e.Room)
	return ok && len(acts) == 0 && sameEngine(opened, e)
}

// plainPut is the rule again. Of MaxFiles files a new segment leaves one for NameNew.
func plainPut(e impl.Engine, list []impl.Change) (impl.Engine, []impl.Act, int) {
	b := batchOf(e.Seq+1, list...)
	if !plainEngineOk(e) || !rightByHand(b) || len(batchByHand(b)) > 9000 {
		return impl.Engine{}, nil, 1
	}
	name := "b" + strconv.Itoa(e.Active)
	acts := []impl.Act{add(name, batchFrame(b)), keep(name)}
	if len(textOf(e.Disk, name)) >= 300 {
		numbers, _, _ := plainSegments(e.Disk)
		if e.Active == 99 || len(e.Disk.Files) > 28 {
			return impl.Engine{}, nil, 2
		}
		acts = []impl.Act{add("m+", headByHand(e.Active+1, numbers[0])+batchFrame(b)), keep("m+"), move("m+", "b"+strconv.Itoa(e.Active+1))}
	}
	d := e.Disk
	for _, a := range acts {
		d, _ = plainAct(d, a)
	}
	if usedByHand(d) > e.Room {
		return impl.Engine{}, nil, 2
	}
	after, _, _ := plainOpen(d, e.Room)
	return after, acts, 0
}

func mustOpen(t *testing.T, why string, d impl.Disk, room int, want impl.Engine, wantActs []impl.Act, wantOk bool) {
	t.Helper()
	got, acts, ok := impl.OpenEngine(d, room)
	if !sameEngine(got, want) || !slices.Equal(acts, wantActs) || ok != wantOk {
		t.Errorf("%s: OpenEngine: %s %s %v, want %s %s %v", why, briefEngine(got), briefActs(acts), ok, briefEngine(want), briefActs(wantActs), wantOk)
	}
}

func mustNotOpen(t *testing.T, why string, d impl.Disk, room int) {
	t.Helper()
	mustOpen(t, why, d, room, impl.Engine{}, nil, false)
}

// mustOpenPlainly asks for just what the document's words make of a disk, whatever it is, and that a second opening has nothing to do.
func mustOpenPlainly(t *testing.T, why string, d impl.Disk, room int) (impl.Engine, []impl.Act, bool) {
	t.Helper()
	want, acts, ok := plainOpen(d, room)
	mustOpen(t, why, d, room, want, acts, ok)
	if ok {
		mustOpen(t, why+", once more", want.Disk, room, want, nil, true)
		mustBeRight(t, why, want, true)
	}
	return want, acts, ok
}

func mustBeRight(t *testing.T, why string, e impl.Engine, want bool) {
	t.Helper()
	if got := impl.EngineOk(e); got != want {
		t.Errorf("%s: EngineOk %v of %s", why, got, briefEngine(e))
	}
}

func mustPut(t *testing.T, why string, e impl.Engine, list []impl.Change, want impl.Engine, wantActs []impl.Act, wantCode int) {
	t.Helper()
	got, acts, code := impl.PutBatch(e, list)
	if !sameEngine(got, want) || !slices.Equal(acts, wantActs) || code != wantCode {
		t.Errorf("%s: PutBatch: %s %s %d, want %s %s %d", why, briefEngine(got), briefActs(acts), code, briefEngine(want), briefActs(wantActs), wantCode)
	}
}

func mustNotPut(t *testing.T, why string, e impl.Engine, list []impl.Change, code int) {
	t.Helper()
	mustPut(t, why, e, list, impl.Engine{}, nil, code)
}

func mustPutPlainly(t *testing.T, why string, e impl.Engine, list []impl.Change) (impl.Engine, []impl.Act, int) {
	t.Helper()
	want, acts, code := plainPut(e, list)
	mustPut(t, why, e, list, want, acts, code)
	return want, acts, code
}

// mustHold asks for the keys and values of a plain table, in all ways in which an engine tells of them.
func mustHold(t *testing.T, why string, e impl.Engine, table map[string]string) {
	t.Helper()
	var want []impl.Change
	for _, key := range slices.Sorted(maps.Keys(table)) {
		want = append(want, put(key, table[key]))
		if value, ok := impl.GetValue(e, key); value != table[key] || !ok {
			t.Errorf("%s: GetValue(%.25q): %.20q of %d bytes, %v, want %.20q of %d bytes", why, key, value, len(value), ok, table[key], len(table[key]))
		}
	}
	got, ok := impl.Contents(e)
	if !slices.Equal(got, want) || !ok {
		t.Errorf("%s: Contents: %s %v, want %s", why, briefBatch(batchOf(0, got...)), ok, briefBatch(batchOf(0, want...)))
	}
	mustBeRight(t, why, e, true)
	if used := impl.Used(e); used != usedByHand(e.Disk) {
		t.Errorf("%s: Used %d, want %d", why, used, usedByHand(e.Disk))
	}
}

func mustNotGet(t *testing.T, why string, e impl.Engine, key string) {
	t.Helper()
	if value, ok := impl.GetValue(e, key); value != "" || ok {
		t.Errorf("%s: GetValue(%.25q): %.20q %v", why, key, value, ok)
	}
}

// mustBeRefused asks all functions of an engine that is not right.
func mustBeRefused(t *testing.T, why string, e impl.Engine) {
	t.Helper()
	mustBeRight(t, why, e, false)
	if used := impl.Used(e); used != 0 {
		t.Errorf("%s: Used %d", why, used)
	}
	if list, ok := impl.Contents(e); len(list) > 0 || ok {
		t.Errorf("%s: Contents of %d keys, %v", why, len(list), ok)
	}
	for _, key := range []string{"a", "b", "k", "k000", ""} {
		mustNotGet(t, why, e, key)
	}
	for _, s := range e.Dir {
		mustNotGet(t, why, e, s.Key)
	}
	mustNotPut(t, why, e, []impl.Change{put("a", "x")}, 1)
	mustNotPut(t, why+", no batch", e, nil, 1)
}

// withChanges is the table behind a batch.
func withChanges(table map[string]string, list []impl.Change) map[string]string {
	after := maps.Clone(table)
	for _, change := range list {
		if change.Gone {
			delete(after, change.Key)
		} else {
			after[change.Key] = change.Value
		}
	}
	return after
}

func formatted(t *testing.T, room int) impl.Engine {
	t.Helper()
	e, ok := impl.FormatEngine(room)
	if !ok {
		t.Fatalf("FormatEngine(%d) is refused", room)
	}
	return e
}

// opened is the engine of a disk that must be one.
func opened(t *testing.T, d impl.Disk, room int) impl.Engine {
	t.Helper()
	e, _, ok := impl.OpenEngine(d, room)
	if !ok {
		t.Fatalf("OpenEngine of %s is refused", brief(d))
	}
	return e
}

// filled has just so many bytes in one segment: a head, and a batch of one key, of which the value is as long as it must be. From 24 to 2000 bytes there are such ones, but for a few at which a length takes one byte more.
func filled(n, from, bytes int) impl.File {
	for length := range impl.MaxValue + 1 {
		f := segWith(n, from, batchOf(n+1, put("k"+strconv.Itoa(n), someText(length))))
		if len(f.Text) == bytes {
			return f
		}
	}
	panic("there is no segment of " + strconv.Itoa(bytes) + " bytes")
}

func TestEngineConstants(t *testing.T) {
	if impl.MaxRoom != 20000 {
		t.Errorf("MaxRoom: %d", impl.MaxRoom)
	}
}

func TestFormatEngine(t *testing.T) {
	for _, room := range []int{100, 101, 500, 19999, impl.MaxRoom} {
		want := impl.Engine{Disk: diskOf(file("b0", headByHand(0, 0))), Room: room}
		e, ok := impl.FormatEngine(room)
		if !sameEngine(e, want) || !ok {
			t.Errorf("FormatEngine(%d): %s %v", room, briefEngine(e), ok)
		}
		mustHold(t, "formatted", e, nil)
		mustNotGet(t, "formatted", e, "a")
		mustOpen(t, "formatted", e.Disk, room, want, nil, true)
		if impl.Used(e) != 8 {
			t.Errorf("FormatEngine(%d): Used %d", room, impl.Used(e))
		}
	}
	for _, room := range wrongRooms() {
		if e, ok := impl.FormatEngine(room); !sameEngine(e, impl.Engine{}) || ok {
			t.Errorf("FormatEngine(%d): %s %v", room, briefEngine(e), ok)
		}
	}
}

func wrongRooms() []int {
	return []int{math.MinInt, -100, -1, 0, 1, 98, 99, impl.MaxRoom + 1, impl.MaxRoom + 2, 65636, 1<<32 + 100, math.MaxInt}
}

// Each step is told by hand: the engine that comes, and the acts.
func TestBatchesThatArePut(t *testing.T) {
	e := formatted(t, 500)
	lists := [][]impl.Change{
		{put("b", "x"), put("d", "y")},
		{put("b", "z")},
		{put("a", ""), gone("d"), put("e", someText(40))},
		{gone("never")},
		{put("d", "again")},
		{gone("a"), gone("b"), gone("d"), gone("e")},
	}
	head := headByHand(0, 0)
	first, second, third := 8, 8+len(batchFrame(batchOf(1, lists[0]...))), 8+len(batchFrames([]impl.Batch{batchOf(1, lists[0]...), batchOf(2, lists[1]...)}))
	fifth := third + len(batchFrames([]impl.Batch{batchOf(3, lists[2]...), batchOf(4, lists[3]...)}))
	dirs := [][]impl.Spot{
		{spot("b", 0, first, 1), spot("d", 0, first, 1)},
		{spot("b", 0, second, 2), spot("d", 0, first, 1)},
		{spot("a", 0, third, 3), spot("b", 0, second, 2), spot("e", 0, third, 3)},
		{spot("a", 0, third, 3), spot("b", 0, second, 2), spot("e", 0, third, 3)},
		{spot("a", 0, third, 3), spot("b", 0, second, 2), spot("d", 0, fifth, 5), spot("e", 0, third, 3)},
		nil,
	}
	text := head
	table := map[string]string{}
	for place, list := range lists {
		why := "batch " + strconv.Itoa(place)
		frame := batchFrame(batchOf(place+1, list...))
		text += frame
		want := impl.Engine{Disk: diskOf(file("b0", text)), Room: 500, Seq: place + 1, Dir: dirs[place]}
		mustPut(t, why, e, list, want, []impl.Act{add("b0", frame), keep("b0")}, 0)
		mustPutPlainly(t, why, e, list)
		table = withChanges(table, list)
		mustHold(t, why, want, table)
		mustOpen(t, why, want.Disk, 500, want, nil, true)
		mustOpen(t, why+", in another room", want.Disk, 501, impl.Engine{Disk: want.Disk, Room: 501, Seq: place + 1, Dir: dirs[place]}, nil, true)
		for _, key := range []string{"", "never", "c", "aa", "bb", "B", "b\x00", strings.Repeat("b", impl.MaxKey+1), "b0"} {
			mustNotGet(t, why, want, key)
		}
		e = want
	}
}

// The file of Active has just so many bytes when the batch comes.
func TestASegmentThatIsFull(t *testing.T) {
	list := []impl.Change{put("z", "new")}
	for _, c := range []struct {
		bytes int
		fresh bool
	}{{50, false}, {impl.SegBytes - 2, false}, {impl.SegBytes - 1, false}, {impl.SegBytes, true}, {impl.SegBytes + 1, true}, {2000, true}} {
		for _, files := range [][]impl.File{
			{filled(0, 0, c.bytes)},
			{filled(0, 0, 24), filled(1, 0, c.bytes)},
			{filled(0, 0, 400), filled(1, 0, 400), filled(2, 0, c.bytes)},
			{filled(5, 5, 400), filled(9, 5, 30), filled(10, 5, c.bytes)},
			{filled(5, 2, 400), filled(7, 3, 30), filled(11, 0, c.bytes)},
			{filled(98, 98, c.bytes)},
			{filled(0, 0, c.bytes), file("a", "other"), file("b100", "other"), file("z", someText(400))},
		} {
			d := sortedDisk(files...)
			numbers, _, _ := plainSegments(d)
			why := fmt.Sprintf("%d bytes in %s", c.bytes, brief(d))
			e := opened(t, d, 5000)
			frame := batchFrame(batchOf(e.Seq+1, list...))
			name := "b" + strconv.Itoa(e.Active)
			want, acts, _ := plainPut(e, list)
			wantActs := []impl.Act{add(name, frame), keep(name)}
			wantActive, wantAt := e.Active, c.bytes
			if c.fresh {
				to := "b" + strconv.Itoa(e.Active+1)
				head := headByHand(e.Active+1, numbers[0])
				wantActs = []impl.Act{add("m+", head+frame), keep("m+"), move("m+", to)}
				wantActive, wantAt = e.Active+1, len(head)
			}
			mustPut(t, why, e, list, want, wantActs, 0)
			if !slices.Equal(acts, wantActs) || want.Active != wantActive || want.Seq != e.Seq+1 || !slices.Contains(want.Dir, spot("z", wantActive, wantAt, e.Seq+1)) {
				t.Errorf("%s: active %d, seq %d, dir %s, %s", why, want.Active, want.Seq, briefDir(want.Dir), briefActs(acts))
			}
			mustOpen(t, why, want.Disk, 5000, want, nil, true)
			value, ok := impl.GetValue(want, "z")
			if value != "new" || !ok || len(want.Dir) != len(e.Dir)+1 {
				t.Errorf("%s: GetValue %q %v", why, value, ok)
			}
		}
	}
}

// A segment grows by as many bytes as a batch has, however full it is then; the one behind it begins with its own head.
func TestBatchesPastSegBytes(t *testing.T) {
	e := formatted(t, 6000)
	table := map[string]string{}
	for n := range 40 {
		list := []impl.Change{put("k"+strconv.Itoa(n%7), someText(n*13%200)), put("l", strconv.Itoa(n)), gone("m" + strconv.Itoa(n))}
		next, _, code := mustPutPlainly(t, "a batch", e, list)
		if code != 0 {
			t.Fatalf("batch %d: code %d", n, code)
		}
		table = withChanges(table, list)
		e = next
		mustHold(t, "behind "+strconv.Itoa(n)+" batches", e, table)
		mustOpen(t, "opened again", e.Disk, 6000, e, nil, true)
	}
	if e.Active < 8 || e.Seq != 40 {
		t.Errorf("only %d segments, seq %d", e.Active+1, e.Seq)
	}
}

func TestOpenEngine(t *testing.T) {
	for _, c := range []struct {
		why    string
		d      impl.Disk
		active int
		seq    int
		acts   []impl.Act
	}{
		{"a head alone", sortedDisk(segFile(0, 0)), 0, 0, nil},
		{"one batch", sortedDisk(segFile(0, 0, 1)), 0, 1, nil},
		{"one batch of seq 0", sortedDisk(segFile(0, 0, 0)), 0, 0, nil},
		{"one batch of MaxNumber", sortedDisk(segFile(0, 0, impl.MaxNumber)), 0, impl.MaxNumber, nil},
		{"several batches", sortedDisk(segFile(0, 0, 1, 4, 300)), 0, 300, nil},
		{"several segments", sortedDisk(segFile(0, 0, 1, 2), segFile(1, 0, 3), segFile(2, 0, 4)), 2, 4, nil},
		{"by numbers, not by names", sortedDisk(segFile(2, 0, 1, 2), segFile(9, 0, 3), segFile(10, 0, 4)), 10, 4, nil},
		{"the last one has no batch", sortedDisk(segFile(0, 0, 1, 2), segFile(1, 0)), 1, 2, nil},
		{"the last ones have no batch", sortedDisk(segFile(0, 0, 7), segFile(1, 0), segFile(2, 0)), 2, 7, nil},
		{"none has a batch", sortedDisk(segFile(0, 0), segFile(1, 0), segFile(2, 0)), 2, 0, nil},
		{"the first one has no batch", sortedDisk(segFile(0, 0), segFile(1, 0, 5)), 1, 5, nil},
		{"MaxSegment", sortedDisk(segFile(99, 99, 5)), 99, 5, nil},
		{"far apart", sortedDisk(segFile(3, 1, 5), segFile(99, 2, 6)), 99, 6, nil},
		{"a new file", sortedDisk(segFile(0, 0, 1), file("m+", "torn")), 0, 1, []impl.Act{drop("m+")}},
		{"an empty new file", sortedDisk(segFile(0, 0, 1), file("m+", "")), 0, 1, []impl.Act{drop("m+")}},
		{"a new file that is a segment", sortedDisk(segFile(0, 0, 1), file("m+", segmentByHand(1, 1, 2))), 0, 1, []impl.Act{drop("m+")}},
		{"a segment that counts no more", sortedDisk(segFile(0, 0, 1), segFile(1, 1, 1, 2)), 1, 2, []impl.Act{drop("b0")}},
		{"segments that count no more", sortedDisk(segFile(0, 0, 1), segFile(1, 0, 2), segFile(2, 2, 1, 2), segFile(3, 0, 3)), 3, 3, []impl.Act{drop("b0"), drop("b1")}},
		{"in order of files, not of numbers", sortedDisk(segFile(2, 0, 1), segFile(10, 0, 2), segFile(11, 11, 3)), 11, 3, []impl.Act{drop("b10"), drop("b2")}},
		{"with greater seqs", sortedDisk(segFile(0, 0, 9, 10), segFile(1, 1, 2)), 1, 2, []impl.Act{drop("b0")}},
		{"the only one that counts has no batch", sortedDisk(segFile(0, 0, 9, 10), segFile(1, 1)), 1, 0, []impl.Act{drop("b0")}},
		{"with torn bytes", sortedDisk(file("b0", segmentByHand(0, 0, 1)+"torn"), segFile(1, 1, 2)), 1, 2, []impl.Act{drop("b0")}},
		{"with a wrong head", sortedDisk(file("b0", "torn"), file("b1", headByHand(9, 9)), segFile(2, 2, 2)), 2, 2, []impl.Act{drop("b0"), drop("b1")}},
		{"without bytes", sortedDisk(file("b0", ""), segFile(1, 1, 2)), 1, 2, []impl.Act{drop("b0")}},
		{"just below a from that is no segment", sortedDisk(segFile(1, 0, 1), segFile(3, 0, 2), segFile(5, 2, 3)), 5, 3, []impl.Act{drop("b1")}},
		{"and a new file", sortedDisk(segFile(0, 0, 1), segFile(1, 1, 2), file("m+", "x")), 1, 2, []impl.Act{drop("b0"), drop("m+")}},
		{"other files", sortedDisk(segFile(0, 0, 1), file("a", "x"), file("b", "y"), file("b00", "z"), file("b100", headByHand(99, 99)), file("m", ""), file("m+1", "n")), 0, 1, nil},
		{"other files, and some to drop", sortedDisk(file("a", "x"), segFile(3, 0, 1), file("b03", segmentByHand(3, 0, 1)), segFile(4, 4, 1), file("c", ""), file("m+", ""), file("z", "z")), 4, 1, []impl.Act{drop("b3"), drop("m+")}},
		{"torn bytes", sortedDisk(file("b0", segmentByHand(0, 0, 1)+"torn")), 0, 1, []impl.Act{add("m+", segmentByHand(0, 0, 1)), keep("m+"), move("m+", "b0")}},
		{"a torn byte behind a head", sortedDisk(file("b7", headByHand(7, 2)+"\x00")), 7, 0, []impl.Act{add("m+", headByHand(7, 2)), keep("m+"), move("m+", "b7")}},
		{"torn bytes behind the last", sortedDisk(segFile(0, 0, 1), file("b1", segmentByHand(1, 0, 2, 3)+"torn")), 1, 3, []impl.Act{add("m+", segmentByHand(1, 0, 2, 3)), keep("m+"), move("m+", "b1")}},
		{"torn bytes behind the last by number", sortedDisk(segFile(9, 0, 1), file("b10", segmentByHand(10, 0, 2)+"torn")), 10, 2, []impl.Act{add("m+", segmentByHand(10, 0, 2)), keep("m+"), move("m+", "b10")}},
		{"torn bytes and a new file", sortedDisk(file("b0", segmentByHand(0, 0, 1)+"torn"), file("m+", "new")), 0, 1, []impl.Act{drop("m+"), add("m+", segmentByHand(0, 0, 1)), keep("m+"), move("m+", "b0")}},
		{"torn bytes and one that counts no more", sortedDisk(segFile(0, 0, 1), file("b1", segmentByHand(1, 1, 2)+"torn")), 1, 2, []impl.Act{drop("b0"), add("m+", segmentByHand(1, 1, 2)), keep("m+"), move("m+", "b1")}},
		{"all at once", sortedDisk(file("a", "a"), file("b0", "b"), segFile(2, 2, 5), file("b3", segmentByHand(3, 0, 6)+"torn"), file("c", "c"), file("m+", "m"), file("n", "n")), 3, 6, []impl.Act{drop("b0"), drop("m+"), add("m+", segmentByHand(3, 0, 6)), keep("m+"), move("m+", "b3")}},
	} {
		e, acts, ok := mustOpenPlainly(t, c.why, c.d, 300)
		if !ok || e.Active != c.active || e.Seq != c.seq || e.Room != 300 || !slices.Equal(acts, c.acts) {
			t.Errorf("%s: %s %s %v", c.why, briefEngine(e), briefActs(acts), ok)
		}
		for _, room := range []int{100, impl.MaxRoom} {
			e.Room = room
			mustOpen(t, c.why, c.d, room, e, acts, true)
		}
		for _, room := range wrongRooms() {
			mustNotOpen(t, c.why+", a wrong room", c.d, room)
		}
		after, done := impl.DoActs(c.d, acts)
		if !sameDisk(after, e.Disk) || done != len(acts) || !impl.AllKept(after) {
			t.Errorf("%s: %d acts make %s, not %s", c.why, done, brief(after), brief(e.Disk))
		}
		if _, there := impl.FileAt(e.Disk, impl.NameNew); there {
			t.Errorf("%s: %s is left", c.why, impl.NameNew)
		}
	}
}

// Whatever stands behind the batches of the last segment is cut away; behind another one it is refused.
func TestTornBytesBehindSegments(t *testing.T) {
	last := segmentByHand(6, 4, 3, 4)
	want := []impl.Act{add("m+", last), keep("m+"), move("m+", "b6")}
	for why, behind := range bytesThatDoNotGoOn() {
		d := sortedDisk(segFile(5, 0, 1, 2), file("b6", last+behind))
		acts := want
		if behind == "" {
			acts = nil
		}
		whole := opened(t, sortedDisk(segFile(5, 0, 1, 2), file("b6", last)), 300)
		mustOpen(t, why, d, 300, whole, acts, true)
		if behind == "" {
			continue
		}
		d = sortedDisk(file("b6", last+behind), segFile(7, 0, 8))
		mustNotOpen(t, why+", behind the first", d, 300)
		mustNotOpen(t, why+", behind all", sortedDisk(file("b6", last+behind), file("b7", segmentByHand(7, 0, 8)+"torn")), 300)
		mustNotOpen(t, why+", between others", sortedDisk(segFile(5, 0, 1), file("b6", last+behind), segFile(10, 0, 8)), 300)
		mustNotOpen(t, why+", ahead of one without batches", sortedDisk(file("b6", last+behind), segFile(7, 0)), 300)
		e := opened(t, sortedDisk(segFile(7, 7, 8)), 300)
		mustOpen(t, why+", behind one that counts no more", sortedDisk(file("b6", last+behind), segFile(7, 7, 8)), 300, e, []impl.Act{drop("b6")}, true)
	}
}

// A disk with as many files as it may have has no room for a new one, unless one of them is dropped.
func TestDisksWithoutRoomToMend(t *testing.T) {
	torn := file("b1", segmentByHand(1, 1, 2)+"torn")
	mend := []impl.Act{add("m+", segmentByHand(1, 1, 2)), keep("m+"), move("m+", "b1")}
	for _, c := range []struct {
		why   string
		files []impl.File
		other int
		acts  []impl.Act
		ok    bool
	}{
		{"MaxFiles - 1 files", []impl.File{torn}, impl.MaxFiles - 2, mend, true},
		{"MaxFiles files", []impl.File{torn}, impl.MaxFiles - 1, nil, false},
		{"MaxFiles files, one of them new", []impl.File{torn, file("m+", "new")}, impl.MaxFiles - 2, append([]impl.Act{drop("m+")}, mend...), true},
		{"MaxFiles files, one of them counts no more", []impl.File{segFile(0, 0, 1), torn}, impl.MaxFiles - 2, append([]impl.Act{drop("b0")}, mend...), true},
		{"MaxFiles files, one of them counts", []impl.File{file("b0", ""), segFile(1, 1, 2), file("b2", segmentByHand(2, 0, 3)+"torn")}, impl.MaxFiles - 3, []impl.Act{drop("b0"), add("m+", segmentByHand(2, 0, 3)), keep("m+"), move("m+", "b2")}, true},
		{"MaxFiles files, not torn", []impl.File{segFile(1, 1, 2)}, impl.MaxFiles - 1, nil, true},
		{"MaxFiles + 1 files", []impl.File{segFile(1, 1, 2)}, impl.MaxFiles, nil, false},
	} {
		d := sortedDisk(append(c.files, fullDisk(c.other).Files...)...)
		e, acts, ok := mustOpenPlainly(t, c.why, d, 300)
		if !slices.Equal(acts, c.acts) || ok != c.ok {
			t.Errorf("%s: %s %s %v", c.why, briefEngine(e), briefActs(acts), ok)
		}
	}
}

func TestDisksThatAreNoEngine(t *testing.T) {
	b0, b1 := segFile(0, 0, 1), segFile(1, 0, 2)
	unkept := func(f impl.File, kept int) impl.File {
		f.Kept = kept
		return f
	}
	list := append(wrongDisks(), rightDisks()...)
	list = append(list, []namedDisk{
		{"no segment but a new file", sortedDisk(file("m+", segmentByHand(0, 0, 1)))},
		{"a wrong head", sortedDisk(file("b0", headByHand(1, 0)))},
		{"a wrong head of the last", sortedDisk(b0, file("b1", headByHand(2, 0)))},
		{"no head", sortedDisk(b0, file("b1", ""))},
		{"a head that is cut", sortedDisk(b0, file("b1", headByHand(1, 0)[:7]))},
		{"names not ascending", diskOf(b1, b0)},
		{"by numbers, not by names", diskOf(segFile(2, 0, 1), segFile(10, 0, 2))},
		{"seqs that stay", sortedDisk(segFile(0, 0, 1, 2), segFile(1, 0, 2))},
		{"seqs that fall", sortedDisk(segFile(0, 0, 1, 3), segFile(1, 0, 2))},
		{"seqs that fall over an empty one", sortedDisk(segFile(0, 0, 3), segFile(1, 0), segFile(2, 0, 2))},
		{"seqs that fall by numbers", sortedDisk(segFile(2, 0, 2), segFile(10, 0, 1))},
		{"a last byte that is not kept", sortedDisk(b0, unkept(b1, len(b1.Text)-1))},
		{"nothing kept", sortedDisk(unkept(b0, 0))},
		{"the first one is not kept", sortedDisk(unkept(b0, 3), b1)},
		{"torn bytes that are not kept", sortedDisk(unkept(file("b0", b0.Text+"torn"), len(b0.Text)))},
		{"another file is not kept", sortedDisk(b0, impl.File{Name: "c", Text: "123", Kept: 2})},
		{"a new file is not kept", sortedDisk(b0, impl.File{Name: "m+", Text: "123", Kept: 2})},
		{"one that counts no more is not kept", sortedDisk(unkept(b0, 3), segFile(1, 1, 2))},
		{"kept below 0", sortedDisk(unkept(b0, -1))},
		{"kept above its length", sortedDisk(unkept(b0, len(b0.Text)+1))},
		{"a text of more than MaxText bytes", diskOf(file("b0", b0.Text+someText(impl.MaxText)))},
	}...)
	for _, c := range list {
		for _, room := range []int{100, 300, impl.MaxRoom, 0} {
			mustNotOpen(t, c.why, c.d, room)
			mustBeRefused(t, c.why, impl.Engine{Disk: c.d, Room: room})
		}
		if _, _, ok := plainOpen(c.d, 300); ok {
			t.Errorf("%s: by the words it is an engine", c.why)
		}
	}
	mustBeRefused(t, "nothing", impl.Engine{})
}

// An engine may have more bytes than its room, and more keys than a right directory: nothing more is put into the first.
func TestEnginesWithMoreThanTheirRoom(t *testing.T) {
	for _, c := range []struct {
		bytes, room, code int
	}{{100, 100, 2}, {101, 100, 2}, {299, 100, 2}, {300, 100, 2}, {2000, 101, 2}, {89, 100, 2}, {88, 100, 0}} {
		f := filled(0, 0, c.bytes)
		_, batches, _, _ := plainReadSegment(0, f.Text)
		e := opened(t, sortedDisk(f), c.room)
		mustHold(t, "more than its room", e, withChanges(map[string]string{}, batches[0].Changes))
		list := []impl.Change{put("a", "")}
		if _, _, code := mustPutPlainly(t, "more than its room", e, list); code != c.code {
			t.Errorf("%d bytes in %d: code %d", c.bytes, c.room, code)
		}
	}
	var batches []impl.Batch
	table := map[string]string{}
	for n := range 9 {
		b := batchOf(n + 1)
		for key := range impl.MaxChanges {
			b.Changes = append(b.Changes, put(fmt.Sprintf("k%d%02d", n, key), strconv.Itoa(key)))
		}
		batches = append(batches, b)
		table = withChanges(table, b.Changes)
	}
	e := opened(t, sortedDisk(segWith(0, 0, batches[:4]...), segWith(1, 0, batches[4:]...)), impl.MaxRoom)
	if len(e.Dir) != 360 || impl.DirOk(e.Dir) {
		t.Errorf("%d keys", len(e.Dir))
	}
	mustHold(t, "more than 200 keys", e, table)
	next, _, code := mustPutPlainly(t, "more than 200 keys", e, []impl.Change{put("a", "x"), gone("k000")})
	delete(table, "k000")
	table["a"] = "x"
	if code != 0 {
		t.Errorf("more than 200 keys: code %d", code)
	}
	mustHold(t, "more than 200 keys", next, table)
}

// changedEngines has each field of a right engine as another one.
func changedEngines(e impl.Engine) map[string]impl.Engine {
	list := map[string]impl.Engine{}
	change := func(why string, make func(*impl.Engine)) {
		other := copyEngine(e)
		make(&other)
		list[why] = other
	}
	for _, room := range wrongRooms() {
		change("room of "+strconv.Itoa(room), func(o *impl.Engine) { o.Room = room })
	}
	for _, n := range []int{-1, 1, 100, math.MinInt / 2} {
		change("active more by "+strconv.Itoa(n), func(o *impl.Engine) { o.Active += n })
		change("seq more by "+strconv.Itoa(n), func(o *impl.Engine) { o.Seq += n })
	}
	change("no dir", func(o *impl.Engine) { o.Dir = nil })
	change("another key first", func(o *impl.Engine) { o.Dir[0].Key = "A" })
	change("another seg", func(o *impl.Engine) { o.Dir[0].Seg++ })
	change("another at", func(o *impl.Engine) { o.Dir[0].At-- })
	change("another seq of a spot", func(o *impl.Engine) { o.Dir[0].Seq++ })
	change("the last spot is another one", func(o *impl.Engine) { o.Dir[len(o.Dir)-1].Seq-- })
	change("a spot less", func(o *impl.Engine) { o.Dir = o.Dir[:len(o.Dir)-1] })
	change("the first spot less", func(o *impl.Engine) { o.Dir = o.Dir[1:] })
	change("a spot more", func(o *impl.Engine) { o.Dir = append(o.Dir, spot("~", 0, 8, 1)) })
	change("a spot twice", func(o *impl.Engine) { o.Dir = append(o.Dir, o.Dir[len(o.Dir)-1]) })
	change("the spots the other way round", func(o *impl.Engine) { slices.Reverse(o.Dir) })
	change("no disk", func(o *impl.Engine) { o.Disk = impl.Disk{} })
	change("no files", func(o *impl.Engine) { o.Disk.Files = []impl.File{} })
	change("a new file", func(o *impl.Engine) { o.Disk = sortedDisk(append(o.Disk.Files, file("m+", ""))...) })
	change("a torn byte", func(o *impl.Engine) {
		name := "b" + strconv.Itoa(o.Active)
		for place, f := range o.Disk.Files {
			if f.Name == name {
				o.Disk.Files[place] = file(name, f.Text+"\x00")
			}
		}
	})
	change("a further batch", func(o *impl.Engine) {
		name := "b" + strconv.Itoa(o.Active)
		for place, f := range o.Disk.Files {
			if f.Name == name {
				o.Disk.Files[place] = file(name, f.Text+batchFrame(batchOf(o.Seq+1, gone("none"))))
			}
		}
	})
	change("a further segment", func(o *impl.Engine) {
		o.Disk = sortedDisk(append(o.Disk.Files, file("b"+strconv.Itoa(o.Active+1), headByHand(o.Active+1, 0)))...)
	})
	change("a segment that counts no more", func(o *impl.Engine) {
		o.Disk = sortedDisk(append(o.Disk.Files, file("b0", headByHand(0, 0)))...)
	})
	change("a byte that is not kept", func(o *impl.Engine) { o.Disk.Files[0].Kept-- })
	change("the last file is not kept", func(o *impl.Engine) { o.Disk.Files[len(o.Disk.Files)-1].Kept = 0 })
	change("a byte that is another", func(o *impl.Engine) {
		f := o.Disk.Files[0]
		o.Disk.Files[0] = file(f.Name, turnByte(f.Text, len(f.Text)-1, 1))
	})
	change("no first file", func(o *impl.Engine) { o.Disk.Files = o.Disk.Files[1:] })
	change("no last file", func(o *impl.Engine) { o.Disk.Files = o.Disk.Files[:len(o.Disk.Files)-1] })
	change("files the other way round", func(o *impl.Engine) { slices.Reverse(o.Disk.Files) })
	return list
}

func someEngine(t *testing.T) impl.Engine {
	t.Helper()
	return opened(t, sortedDisk(
		segWith(2, 2, batchOf(3, put("a", "1"), put("b", "2")), batchOf(5, gone("a"), put("c", someText(20)))),
		segWith(3, 2, batchOf(7, put("d", ""), put("e", "5"))),
	), 1000)
}

func TestEngineOk(t *testing.T) {
	e := someEngine(t)
	table := map[string]string{"b": "2", "c": someText(20), "d": "", "e": "5"}
	mustHold(t, "as it is", e, table)
	for _, room := range []int{100, 101, 5000, impl.MaxRoom} {
		e.Room = room
		mustHold(t, "another room", e, table)
	}
	for why, other := range changedEngines(e) {
		mustBeRefused(t, why, other)
		if plainEngineOk(other) {
			t.Errorf("%s: by the words it is right", why)
		}
	}
	empty := formatted(t, 100)
	for _, dir := range [][]impl.Spot{nil, {}} {
		empty.Dir = dir
		mustHold(t, "an empty list and nil are the same", empty, nil)
	}
	with := copyEngine(e)
	with.Disk = sortedDisk(append(with.Disk.Files, file("a", "other"), file("z", ""))...)
	mustHold(t, "other files beside", with, table)
}

func TestUsed(t *testing.T) {
	for _, c := range []struct {
		why  string
		d    impl.Disk
		want int
	}{
		{"a head", sortedDisk(segFile(0, 0)), 8},
		{"two heads", sortedDisk(segFile(0, 0), segFile(1, 0)), 16},
		{"a head and others", sortedDisk(segFile(0, 0), file("a", "123"), file("z", someText(2000))), 2011},
		{"a full disk", sortedDisk(append(fullDisk(29).Files, segFile(0, 0))...), 8 + 29*4},
		{"a batch", sortedDisk(filled(0, 0, 77)), 77},
		{"more than MaxRoom", sortedDisk(segFile(0, 0), file("a", someText(20000)), file("z", someText(20000))), 40008},
	} {
		for _, room := range []int{100, impl.MaxRoom} {
			if got := impl.Used(opened(t, c.d, room)); got != c.want {
				t.Errorf("%s: Used %d, want %d", c.why, got, c.want)
			}
		}
	}
}

// A key that is there is got in any segment; a batch is looked at for it alone.
func TestGetValue(t *testing.T) {
	for _, c := range rightBatches() {
		table := map[string]string{"behind": "1"}
		d := sortedDisk(segWith(7, 0, c.b), segWith(70, 1, batchOf(c.b.Seq+1, put("behind", "1"))))
		if c.b.Seq == impl.MaxNumber {
			d = sortedDisk(segWith(7, 0, batchOf(1, put("behind", "1"))), segWith(70, 1, c.b))
		}
		mustHold(t, c.why, opened(t, d, 300), withChanges(table, c.b.Changes))
		for _, change := range c.b.Changes {
			if change.Gone {
				mustNotGet(t, c.why, opened(t, d, 300), change.Key)
			}
		}
	}
}

func TestListsThatAreNoBatch(t *testing.T) {
	engines := map[string]impl.Engine{
		"formatted":          formatted(t, 100),
		"with room":          formatted(t, impl.MaxRoom),
		"some":               someEngine(t),
		"full":               opened(t, sortedDisk(filled(0, 0, 100)), 100),
		"no further segment": opened(t, sortedDisk(filled(99, 0, 300)), 1000),
	}
	for name, e := range engines {
		for _, c := range wrongBatches() {
			if len(c.b.Changes) == 0 || !rightByHand(batchOf(1, c.b.Changes...)) {
				mustNotPut(t, name+": "+c.why, e, c.b.Changes, 1)
			}
		}
		mustNotPut(t, name+": nil", e, nil, 1)
	}
	var long []impl.Change
	for n := range impl.MaxChanges {
		long = append(long, put(fmt.Sprintf("k%02d", n), someText(impl.MaxValue)))
	}
	mustNotPut(t, "a batch that has no text", engines["with room"], long, 1)
	mustNotPut(t, "a batch that has no text, in an engine that is full", engines["full"], long, 1)
	for _, length := range []int{impl.MaxRecord - 1, impl.MaxRecord, impl.MaxRecord + 1} {
		b := batchOfLength(length)
		wantCode := 0
		if length > impl.MaxRecord {
			wantCode = 1
		}
		if _, _, code := mustPutPlainly(t, "a text at its limit", engines["with room"], b.Changes); code != wantCode {
			t.Errorf("a text of %d bytes: code %d", length, code)
		}
	}
	for _, c := range rightBatches() {
		mustPutPlainly(t, c.why, engines["with room"], c.b.Changes)
		mustPutPlainly(t, c.why, engines["some"], c.b.Changes)
	}
}

func TestSeqsOfBatchesThatArePut(t *testing.T) {
	list := []impl.Change{put("z", "x")}
	for _, seq := range []int{0, 1, 126, 127, 128, 16383, impl.MaxNumber - 2, impl.MaxNumber - 1} {
		e := opened(t, sortedDisk(segFile(0, 0, seq)), 300)
		next, _, code := mustPutPlainly(t, "the next seq", e, list)
		if next.Seq != seq+1 || code != 0 {
			t.Errorf("behind %d: seq %d, code %d", seq, next.Seq, code)
		}
	}
	for _, d := range []impl.Disk{
		sortedDisk(segFile(0, 0, impl.MaxNumber)),
		sortedDisk(segFile(0, 0, impl.MaxNumber), segFile(1, 0)),
		sortedDisk(segFile(0, 0, 5), segFile(1, 0, 6, impl.MaxNumber)),
	} {
		e := opened(t, d, 300)
		mustNotPut(t, "there is no next seq", e, list, 1)
	}
	// That there is no next seq counts ahead of all that makes an engine full.
	b := batchOf(impl.MaxNumber, put("a", someText(400)))
	mustNotPut(t, "no next seq, and no further segment", opened(t, sortedDisk(segWith(99, 0, b)), 100), list, 1)
}

// listOfFrame has a batch of just so many bytes in a frame, for Seqs below 128. A longer key is there for where a length takes one byte more.
func listOfFrame(t *testing.T, bytes int) []impl.Change {
	t.Helper()
	for _, key := range []string{"f", "ff", "fff"} {
		for length := range bytes {
			list := []impl.Change{put(key, someText(length))}
			if len(batchFrame(batchOf(1, list...))) == bytes {
				return list
			}
		}
	}
	t.Fatalf("no frame has %d bytes", bytes)
	return nil
}

// The batch makes Used just Room, or one byte more.
func TestEnginesThatAreFull(t *testing.T) {
	for _, c := range []struct {
		why   string
		files []impl.File
		room  int
		head  int
	}{
		{"formatted", []impl.File{segFile(0, 0)}, 100, 0},
		{"formatted, with room", []impl.File{segFile(0, 0)}, 900, 0},
		{"SegBytes - 1", []impl.File{filled(0, 0, 299)}, 400, 0},
		{"SegBytes: a head comes, too", []impl.File{filled(0, 0, 300)}, 400, 8},
		{"several", []impl.File{filled(0, 0, 400), filled(1, 0, 350), filled(2, 0, 100)}, 1000, 0},
		{"several, and a head", []impl.File{filled(0, 0, 400), filled(1, 0, 350), filled(2, 0, 300)}, 1200, 8},
		{"other files", []impl.File{filled(0, 0, 100), file("a", someText(500)), file("z", someText(1000))}, 1800, 0},
		{"other files, and a head", []impl.File{filled(0, 0, 400), file("a", someText(500)), file("z", someText(1000))}, 2100, 8},
		{"MaxRoom", []impl.File{filled(0, 0, 100), file("a", someText(19000))}, impl.MaxRoom, 0},
	} {
		d := sortedDisk(c.files...)
		free := c.room - usedByHand(d) - c.head
		e := opened(t, d, c.room)
		for _, over := range []int{-30, -1, 0, 1, 2, 30} {
			list := listOfFrame(t, free+over)
			next, acts, code := mustPutPlainly(t, c.why, e, list)
			if over > 0 {
				mustNotPut(t, c.why, e, list, 2)
				continue
			}
			if code != 0 || len(acts) == 0 || impl.Used(next) != c.room+over {
				t.Errorf("%s, %d bytes more than there is room: code %d, %s, Used %d", c.why, over, code, briefActs(acts), impl.Used(next))
			}
			if value, ok := impl.GetValue(next, list[0].Key); value != list[0].Value || !ok {
				t.Errorf("%s: GetValue %.20q %v", c.why, value, ok)
			}
			if over == 0 {
				mustNotPut(t, c.why+", just full", next, []impl.Change{gone("a")}, 2)
			}
		}
		e.Room = impl.MaxRoom
		if _, _, code := mustPutPlainly(t, c.why+", in more room", e, listOfFrame(t, free+1)); code != 0 && c.room < impl.MaxRoom {
			t.Errorf("%s, in more room: code %d", c.why, code)
		}
	}
}

func TestTheLastSegment(t *testing.T) {
	list := []impl.Change{put("z", "x")}
	for _, c := range []struct {
		n, bytes, code int
	}{{98, 299, 0}, {98, 300, 0}, {98, 301, 0}, {99, 24, 0}, {99, 298, 0}, {99, 299, 0}, {99, 300, 2}, {99, 301, 2}, {99, 2000, 2}} {
		for _, files := range [][]impl.File{
			{filled(c.n, 0, c.bytes)},
			{filled(c.n, c.n, c.bytes)},
			{filled(0, 0, 400), filled(c.n, 0, c.bytes)},
			{filled(97, 97, 400), filled(c.n, 0, c.bytes)},
		} {
			e := opened(t, sortedDisk(files...), 5000)
			why := fmt.Sprintf("segment %d of %d bytes", c.n, c.bytes)
			if next, _, code := mustPutPlainly(t, why, e, list); code != c.code || code == 0 && !impl.EngineOk(next) {
				t.Errorf("%s: code %d, want %d", why, code, c.code)
			}
		}
	}
}

// A new segment is made as long as one file is left for NameNew beside it, with which torn bytes are mended.
func TestFilesThatAreLeftForASegment(t *testing.T) {
	list := []impl.Change{put("z", "x")}
	for _, c := range []struct {
		files, bytes, code int
	}{{1, 300, 0}, {27, 300, 0}, {28, 300, 0}, {29, 300, 2}, {30, 300, 2}, {28, 299, 0}, {29, 299, 0}, {30, 299, 0}, {30, 24, 0}} {
		e := opened(t, sortedDisk(append(fullDisk(c.files-1).Files, filled(0, 0, c.bytes))...), 5000)
		next, acts, code := mustPutPlainly(t, "other files", e, list)
		if code != c.code {
			t.Errorf("%d files, %d bytes: code %d, want %d", c.files, c.bytes, code, c.code)
		}
		if code == 0 && c.bytes >= impl.SegBytes {
			mustBeWholeOrNot(t, "a further segment", e, next, acts)
			last, acts, _ := mustPutPlainly(t, "into that segment", next, list)
			mustBeWholeOrNot(t, "into that segment", next, last, acts)
		}
	}
}

// leftovers has what the power may leave: nothing is told of the files, or of each file but one that it loses all that it can; of that one any number of bytes is left.
func leftovers(d impl.Disk) [][]int {
	list := [][]int{nil, {-1}}
	for place, f := range d.Files {
		for bytes := f.Kept; bytes <= len(f.Text)+1; bytes++ {
			left := make([]int, place+1)
			left[place] = bytes
			list = append(list, left)
		}
	}
	return append(list, slices.Repeat([]int{math.MaxInt}, impl.MaxFiles))
}

// mustBeWholeOrNot cuts the acts of one batch at every place: the engine is opened again as it was ahead of it or as it is behind it, and once more without acts. It is behind it when all bytes of the batch are there.
func mustBeWholeOrNot(t *testing.T, why string, before, after impl.Engine, acts []impl.Act) {
	t.Helper()
	wholes, nots := 0, 0
	for whole := range len(acts) + 1 {
		d, done := impl.DoActs(before.Disk, acts[:whole])
		if done < whole {
			t.Fatalf("%s: act %d is false", why, done)
		}
		for _, left := range leftovers(d) {
			cut, ok := impl.CutActs(before.Disk, acts, whole, left)
			if !ok {
				t.Fatalf("%s: CutActs is false", why)
			}
			e, _, ok := impl.OpenEngine(cut, before.Room)
			if !ok {
				t.Fatalf("%s: cut behind %d acts, left %v: not opened: %s", why, whole, left, brief(cut))
			}
			switch {
			case sameEngine(e, after):
				wholes++
			case sameEngine(e, before):
				nots++
			default:
				t.Fatalf("%s: cut behind %d acts, left %v: %s is neither %s nor %s", why, whole, left, briefEngine(e), briefEngine(before), briefEngine(after))
			}
			if whole == len(acts) && !sameEngine(e, after) {
				t.Errorf("%s: all acts are done, and the batch is not there", why)
			}
			if whole == 0 && !sameEngine(e, before) {
				t.Errorf("%s: no act is done, and the batch is there", why)
			}
			mustOpen(t, why+", once more", e.Disk, before.Room, e, nil, true)
		}
	}
	if wholes == 0 || nots == 0 {
		t.Errorf("%s: %d times whole, %d times not", why, wholes, nots)
	}
}

// In each state of a life, the power goes within the acts of the next batch, at every place.
func TestWhateverThePowerLeavesOfABatch(t *testing.T) {
	e := formatted(t, 2000)
	table := map[string]string{}
	for n := range 14 {
		list := []impl.Change{put("k"+strconv.Itoa(n%5), someText(n*17%90)), put("l", strconv.Itoa(n)), gone("m")}
		if n%3 == 0 {
			list = append(list, put("n", "x"))
		} else {
			list = append(list, gone("n"))
		}
		next, acts, code := impl.PutBatch(e, list)
		if code != 0 {
			t.Fatalf("batch %d: code %d", n, code)
		}
		mustBeWholeOrNot(t, "batch "+strconv.Itoa(n), e, next, acts)
		table = withChanges(table, list)
		mustHold(t, "batch "+strconv.Itoa(n), next, table)
		e = next
	}
	if e.Active < 2 {
		t.Errorf("only %d segments", e.Active+1)
	}
}

// Of torn bytes nothing is left for the next batch: what is put behind a cut is as if the cut batch had not been.
func TestWhatIsPutBehindACut(t *testing.T) {
	e, _, _ := impl.PutBatch(formatted(t, 2000), []impl.Change{put("a", "1"), put("b", "1")})
	lost := []impl.Change{put("a", "lost"), gone("b"), put("c", someText(30))}
	next := []impl.Change{put("a", "2"), put("d", "2")}
	want, _, _ := impl.PutBatch(e, next)
	_, acts, _ := impl.PutBatch(e, lost)
	text := textOf(e.Disk, "b0")
	for bytes := range len(acts[0].Text) {
		cut, _ := impl.CutActs(e.Disk, acts, 1, []int{len(text) + bytes})
		back := opened(t, cut, 2000)
		got, _, code := impl.PutBatch(back, next)
		if !sameEngine(got, want) || code != 0 {
			t.Errorf("%d bytes are left: %s %d", bytes, briefEngine(got), code)
		}
		mustHold(t, "behind a cut", got, map[string]string{"a": "2", "b": "1", "d": "2"})
	}
}

// What was made by FormatEngine and PutBatch can be opened whatever the power leaves, up to the batch that is refused.
func TestEnginesThatArePutUntilTheyAreFull(t *testing.T) {
	for _, c := range []struct {
		room, bytes int
	}{{100, 5}, {333, 1}, {700, 200}, {1500, 90}, {4000, 130}, {impl.MaxRoom, 75}, {impl.MaxRoom, 290}, {impl.MaxRoom, 1500}} {
		e := formatted(t, c.room)
		table := map[string]string{}
		for n := 0; ; n++ {
			list := []impl.Change{put("k"+strconv.Itoa(n%9), someText(c.bytes))}
			next, acts, code := impl.PutBatch(e, list)
			if code != 0 {
				mustNotPut(t, "full", e, list, 2)
				mustHold(t, "full", e, table)
				break
			}
			if used := impl.Used(next); used > c.room {
				t.Fatalf("room %d, values of %d bytes: Used %d", c.room, c.bytes, used)
			}
			// Of long lives the last states are enough: those in which files run out.
			if n < 3 || next.Active > 26 {
				mustBeWholeOrNot(t, fmt.Sprintf("room %d, values of %d bytes, batch %d", c.room, c.bytes, n), e, next, acts)
			}
			table = withChanges(table, list)
			e = next
		}
		room, files := c.room-impl.Used(e), len(e.Disk.Files)
		frame := len(batchFrame(batchOf(e.Seq+1, put("k0", someText(c.bytes))))) + 8
		if room >= frame && files < 29 {
			t.Errorf("room %d, values of %d bytes: full with %d bytes and %d files", c.room, c.bytes, room, files)
		}
	}
}

func TestContentsAreInOrder(t *testing.T) {
	list := []impl.Change{put("\x00", "1"), put("B", "2"), put("a", "3"), put("a\x00", "4"), put("aa", "5"), put("\u00e9", "6"), put("\xff", "7")}
	for _, order := range [][]int{{0, 1, 2, 3, 4, 5, 6}, {6, 5, 4, 3, 2, 1, 0}, {3, 0, 6, 1, 5, 2, 4}} {
		e := formatted(t, 300)
		for _, place := range order {
			e, _, _ = impl.PutBatch(e, list[place:place+1])
		}
		if got, ok := impl.Contents(e); !slices.Equal(got, list) || !ok {
			t.Errorf("put as %v: %s %v", order, briefBatch(batchOf(0, got...)), ok)
		}
	}
}

// In drawn disks just that is opened which the words open.
func TestDrawnDisksThatAreOpened(t *testing.T) {
	draw := &drawer{state: 11}
	right, wrong, dropped, mended := 0, 0, 0, 0
	for range 2500 {
		d := draw.segmentDisk()
		if len(d.Files) > 0 && draw.below(25) == 0 {
			d.Files[draw.below(len(d.Files))].Kept--
		}
		room := 100 + draw.below(3000)
		if draw.below(40) == 0 {
			room = draw.below(100)
		}
		e, acts, ok := mustOpenPlainly(t, "a drawn disk: "+brief(d), d, room)
		if !ok {
			wrong++
			continue
		}
		right++
		for _, a := range acts {
			if a.Kind == impl.ActDrop {
				dropped++
			}
			if a.Kind == impl.ActMove {
				mended++
			}
		}
		mustPutPlainly(t, "a drawn engine", e, draw.batch().Changes)
	}
	if right < 400 || wrong < 400 || dropped < 100 || mended < 50 {
		t.Errorf("only %d right disks, %d wrong ones, %d drops, %d mended", right, wrong, dropped, mended)
	}
}

// A drawn life: each batch is put as the plain rule puts it, what is got is what a plain table has, and whatever the power leaves of a batch it is there whole or not at all.
func TestEnginesInDrawnLives(t *testing.T) {
	draw := &drawer{state: 12}
	puts, fulls, wrongs, cuts, kept := 0, 0, 0, 0, 0
	for range 30 {
		room := 100 + draw.below(2500)
		e := formatted(t, room)
		table := map[string]string{}
		for range 60 {
			list := draw.batch().Changes
			next, acts, code := mustPutPlainly(t, "a drawn batch", e, list)
			if code > 0 {
				if code == 2 {
					fulls++
				} else {
					wrongs++
				}
				mustHold(t, "what is refused leaves nothing behind", e, table)
				continue
			}
			puts++
			if draw.below(4) == 0 {
				cuts++
				left := []int{}
				for range len(e.Disk.Files) + 2 {
					left = append(left, draw.below(600)-100)
				}
				cut, _ := impl.CutActs(e.Disk, acts, draw.below(len(acts)+1), left)
				back, _, ok := mustOpenPlainly(t, "a drawn cut", cut, room)
				if !ok || !sameEngine(back, e) && !sameEngine(back, next) {
					t.Fatalf("a drawn cut: %s %v", briefEngine(back), ok)
				}
				if sameEngine(back, e) {
					continue
				}
				kept++
			}
			e = next
			table = withChanges(table, list)
			mustHold(t, "a drawn life", e, table)
		}
	}
	if puts < 300 || fulls < 200 || wrongs < 100 || cuts < 60 || kept < 20 || kept > cuts-20 {
		t.Errorf("only %d puts, %d full, %d wrong, %d cuts of which %d were kept", puts, fulls, wrongs, cuts, kept)
	}
}

// roomyEngine stands in lists with room behind them, so that writing there is told, too.
func roomyEngine(e impl.Engine) (impl.Engine, []impl.File, []impl.Spot) {
	files := make([]impl.File, 0, len(e.Disk.Files)+8)
	files = append(files, copyDisk(e.Disk).Files...)
	for n := range 8 {
		files = append(files, impl.File{Name: "room" + strconv.Itoa(n), Text: "room", Kept: n})
	}
	came := e
	came.Disk.Files = files[:len(e.Disk.Files)]
	var dir []impl.Spot
	came.Dir, dir = roomyDir(e.Dir)
	return came, files, dir
}

func textsOfEngine(e impl.Engine) []string {
	var texts []string
	for _, f := range e.Disk.Files {
		texts = append(texts, f.Name, f.Text)
	}
	for _, s := range e.Dir {
		texts = append(texts, s.Key)
	}
	return texts
}

func textsOfActs(list []impl.Act) []string {
	var texts []string
	for _, a := range list {
		texts = append(texts, a.Name, a.Text, a.To)
	}
	return texts
}

func mustShareNoText(t *testing.T, why string, told, came []string) {
	t.Helper()
	for place, text := range told {
		for _, other := range slices.Concat(told[:place], came) {
			if sharesBytes(text, other) {
				t.Errorf("%s: %.20q and %.20q share memory", why, text, other)
			}
		}
	}
}

// scribble writes over all that an answer has, and over the room behind it.
func scribble(e impl.Engine, acts []impl.Act, changes []impl.Change) {
	for place := range e.Disk.Files[:cap(e.Disk.Files)] {
		e.Disk.Files[:cap(e.Disk.Files)][place] = impl.File{Name: "gone", Kept: -1}
	}
	for place := range e.Dir[:cap(e.Dir)] {
		e.Dir[:cap(e.Dir)][place] = spot("gone", -1, -1, -1)
	}
	for place := range acts[:cap(acts)] {
		acts[:cap(acts)][place] = impl.Act{Kind: -1}
	}
	for place := range changes[:cap(changes)] {
		changes[:cap(changes)][place] = gone("gone")
	}
}

func TestEnginesShareNothing(t *testing.T) {
	engines := []impl.Engine{
		formatted(t, 100),
		someEngine(t),
		opened(t, sortedDisk(filled(0, 0, 400), filled(1, 0, 300), file("z", "other")), 1000),
		{Disk: sortedDisk(segFile(0, 0, 1), file("b1", segmentByHand(1, 1, 2, 3)+"torn"), file("m+", "new"), file("z", "other")), Room: 300, Active: 1, Seq: 3},
		{Disk: sortedDisk(segFile(0, 0, 1), file("b1", "torn")), Room: 300},
		{Disk: diskOf(segFile(1, 0, 3), segFile(0, 0, 3)), Room: 300},
		{},
	}
	for place, e := range engines {
		for _, list := range [][]impl.Change{{put("a", "x"), gone("b"), put("e", someText(30))}, {put("b", "x"), put("a", "y")}, nil} {
			why := fmt.Sprintf("engine %d, %d changes", place, len(list))
			came, files, dir := roomyEngine(e)
			b, changes := roomyBatch(batchOf(0, list...))
			filesBefore, dirBefore, changesBefore := copyDisk(diskOf(files...)), slices.Clone(dir), slices.Clone(changes)
			given := textsOfEngine(came)
			for _, change := range b.Changes {
				given = append(given, change.Key, change.Value)
			}

			opened1, acts1, ok1 := impl.OpenEngine(came.Disk, came.Room)
			opened2, acts2, _ := impl.OpenEngine(came.Disk, came.Room)
			mustShareNoText(t, why+": OpenEngine", slices.Concat(textsOfEngine(opened1), textsOfActs(acts1), textsOfEngine(opened2), textsOfActs(acts2)), given)
			put1, actsPut1, code1 := impl.PutBatch(came, b.Changes)
			put2, actsPut2, _ := impl.PutBatch(came, b.Changes)
			mustShareNoText(t, why+": PutBatch", slices.Concat(textsOfEngine(put1), textsOfActs(actsPut1), textsOfEngine(put2), textsOfActs(actsPut2)), given)
			contents1, okContents := impl.Contents(came)
			contents2, _ := impl.Contents(came)
			mustShareNoText(t, why+": Contents", toldTexts([]impl.Batch{{Changes: contents1}, {Changes: contents2}}), given)
			for _, s := range came.Dir {
				value1, _ := impl.GetValue(came, s.Key)
				value2, _ := impl.GetValue(came, s.Key)
				mustShareNoText(t, why+": GetValue", []string{value1, value2}, given)
			}
			used, right := impl.Used(came), impl.EngineOk(came)

			scribble(opened1, acts1, nil)
			scribble(put1, actsPut1, contents1)
			mustOpen(t, why+", once more", came.Disk, came.Room, opened2, acts2, ok1)
			mustPut(t, why+", once more", came, b.Changes, put2, actsPut2, code1)
			contents3, _ := impl.Contents(came)
			if !slices.Equal(contents2, contents3) || okContents != right || impl.Used(came) != used || impl.EngineOk(came) != right {
				t.Errorf("%s: what is answered changes", why)
			}
			if !sameDisk(diskOf(files...), filesBefore) || !slices.Equal(dir, dirBefore) || !slices.Equal(changes, changesBefore) {
				t.Errorf("%s: what came in is changed", why)
			}
		}
	}
}

func TestFormattedEnginesShareNothing(t *testing.T) {
	first, _ := impl.FormatEngine(200)
	second, _ := impl.FormatEngine(200)
	mustShareNoText(t, "FormatEngine", slices.Concat(textsOfEngine(first), textsOfEngine(second)), nil)
	scribble(first, nil, nil)
	mustHold(t, "another one", second, nil)
	mustHold(t, "one more", formatted(t, 200), nil)
}
