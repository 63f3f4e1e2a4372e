package tests

import (
	"math"
	"slices"
	"strconv"
	"strings"
	"testing"

	"loop.example/g00124/impl"
)

func diskOf(files ...impl.File) impl.Disk { return impl.Disk{Files: files} }

// fullDisk has so many files, the names of which leave room between one and the next.
func fullDisk(count int) impl.Disk {
	var d impl.Disk
	for n := range count {
		d.Files = append(d.Files, impl.File{Name: "f" + string(rune('A'+n)), Text: "text", Kept: 4})
	}
	return d
}

func sameDisk(a, b impl.Disk) bool { return slices.Equal(a.Files, b.Files) }

func copyDisk(d impl.Disk) impl.Disk {
	var own impl.Disk
	for _, f := range d.Files {
		own.Files = append(own.Files, impl.File{Name: strings.Clone(f.Name), Text: strings.Clone(f.Text), Kept: f.Kept})
	}
	return own
}

// brief keeps long texts out of what a failed test tells.
func brief(d impl.Disk) string {
	var out []string
	for _, f := range d.Files {
		text := strconv.Quote(f.Text)
		if len(f.Text) > 20 {
			text = strconv.Itoa(len(f.Text)) + " bytes"
		}
		out = append(out, strconv.Quote(f.Name)+" "+text+" "+strconv.Itoa(f.Kept))
	}
	return "[" + strings.Join(out, "; ") + "]"
}

func wantDisk(t *testing.T, what string, got impl.Disk, ok bool, want impl.Disk, wantOk bool) {
	t.Helper()
	if ok != wantOk || !sameDisk(got, want) {
		t.Errorf("%s: %s %v, want %s %v", what, brief(got), ok, brief(want), wantOk)
	}
}

func TestFileConstants(t *testing.T) {
	got := []int{impl.MaxFiles, impl.MaxName, impl.ActAdd, impl.ActKeep, impl.ActMove, impl.ActDrop}
	if !slices.Equal(got, []int{30, 8, 1, 2, 3, 4}) {
		t.Errorf("constants: %v", got)
	}
}

type namedDisk struct {
	why string
	d   impl.Disk
}

func rightDisks() []namedDisk {
	return []namedDisk{
		{"no files", impl.Disk{}},
		{"an empty list of files", impl.Disk{Files: []impl.File{}}},
		{"a file without text", diskOf(impl.File{Name: "a"})},
		{"nothing kept", diskOf(impl.File{Name: "a", Text: "123"})},
		{"some kept", diskOf(impl.File{Name: "a", Text: "123", Kept: 2})},
		{"all kept", diskOf(impl.File{Name: "a", Text: "123", Kept: 3})},
		{"a name of MaxName bytes", diskOf(impl.File{Name: "12345678", Text: "1"})},
		{"a name of the byte 0", diskOf(impl.File{Name: "\x00", Text: "1"})},
		{"a beginning is less", diskOf(impl.File{Name: "a"}, impl.File{Name: "a\x00"}, impl.File{Name: "aa"}, impl.File{Name: "b"})},
		{"bytes, not letters", diskOf(impl.File{Name: "B"}, impl.File{Name: "a"}, impl.File{Name: "\u00e9"}, impl.File{Name: "\xff"})},
		{"a text of MaxText bytes", diskOf(impl.File{Name: "a", Text: someText(impl.MaxText), Kept: impl.MaxText})},
		{"three files", diskOf(impl.File{Name: "a", Text: "123", Kept: 1}, impl.File{Name: "b", Text: "45", Kept: 2}, impl.File{Name: "c", Text: "6"})},
		{"MaxFiles files", fullDisk(impl.MaxFiles)},
	}
}

func wrongDisks() []namedDisk {
	return []namedDisk{
		{"MaxFiles + 1 files", fullDisk(impl.MaxFiles + 1)},
		{"no name", diskOf(impl.File{Name: "", Text: "1"})},
		{"a name of MaxName + 1 bytes", diskOf(impl.File{Name: "123456789", Text: "1"})},
		{"a name of nine bytes in four letters", diskOf(impl.File{Name: "\u20ac\u00e9\u00e9\u00e9"})},
		{"the same name twice", diskOf(impl.File{Name: "a", Text: "1"}, impl.File{Name: "a", Text: "2"})},
		{"the same name twice, at the end", diskOf(impl.File{Name: "a"}, impl.File{Name: "b"}, impl.File{Name: "b"})},
		{"names not ascending", diskOf(impl.File{Name: "b", Text: "1"}, impl.File{Name: "a", Text: "2"})},
		{"a beginning behind", diskOf(impl.File{Name: "aa"}, impl.File{Name: "a"})},
		{"names not ascending, at the end", diskOf(impl.File{Name: "a"}, impl.File{Name: "c"}, impl.File{Name: "b"})},
		{"a text of MaxText + 1 bytes", diskOf(impl.File{Name: "a", Text: someText(impl.MaxText + 1), Kept: 1})},
		{"kept of -1", diskOf(impl.File{Name: "a", Text: "123", Kept: -1})},
		{"kept of the text's length and one more", diskOf(impl.File{Name: "a", Text: "123", Kept: 4})},
		{"kept without text", diskOf(impl.File{Name: "a", Kept: 1})},
		{"least kept", diskOf(impl.File{Name: "a", Text: "123", Kept: math.MinInt})},
		{"most kept", diskOf(impl.File{Name: "a", Text: "123", Kept: math.MaxInt})},
		{"the last one alone is wrong", diskOf(impl.File{Name: "a", Text: "1", Kept: 1}, impl.File{Name: "b", Text: "2", Kept: 2})},
	}
}

func TestDiskOk(t *testing.T) {
	for _, c := range rightDisks() {
		if !impl.DiskOk(c.d) {
			t.Errorf("%s: not right", c.why)
		}
	}
	for _, c := range wrongDisks() {
		if impl.DiskOk(c.d) {
			t.Errorf("%s: right", c.why)
		}
	}
}

func TestAllKept(t *testing.T) {
	for _, c := range rightDisks() {
		want := true
		for _, f := range c.d.Files {
			want = want && f.Kept == len(f.Text)
		}
		if got := impl.AllKept(c.d); got != want {
			t.Errorf("%s: %v, want %v", c.why, got, want)
		}
	}
	for _, c := range wrongDisks() {
		if impl.AllKept(c.d) {
			t.Errorf("%s: all kept", c.why)
		}
	}
	for _, c := range []namedDisk{
		{"all kept, but the same name twice", diskOf(impl.File{Name: "a"}, impl.File{Name: "a"})},
		{"all kept, but too much", diskOf(impl.File{Name: "a", Text: someText(impl.MaxText + 1), Kept: impl.MaxText + 1})},
		{"all kept, but too many", fullDisk(impl.MaxFiles + 1)},
		{"the last byte of the last file is not kept", diskOf(impl.File{Name: "a", Text: "1", Kept: 1}, impl.File{Name: "b", Text: "23", Kept: 1})},
		{"the first file is not kept", diskOf(impl.File{Name: "a", Text: "1"}, impl.File{Name: "b", Text: "23", Kept: 2})},
	} {
		if impl.AllKept(c.d) {
			t.Errorf("%s: all kept", c.why)
		}
	}
}

func TestFileAt(t *testing.T) {
	d := diskOf(impl.File{Name: "a", Text: "123", Kept: 1}, impl.File{Name: "aa"}, impl.File{Name: "b", Text: "45\x00", Kept: 3}, impl.File{Name: "z", Text: someText(impl.MaxText)})
	for _, c := range []struct {
		name, text string
		ok         bool
	}{
		{"a", "123", true},
		{"aa", "", true},
		{"b", "45\x00", true},
		{"z", someText(impl.MaxText), true},
		{"", "", false},
		{"A", "", false},
		{"aaa", "", false},
		{"a\x00", "", false},
		{"c", "", false},
		{"zz", "", false},
		{"123456789", "", false},
	} {
		if text, ok := impl.FileAt(d, c.name); text != c.text || ok != c.ok {
			t.Errorf("FileAt %q: %.20q %v, want %.20q %v", c.name, text, ok, c.text, c.ok)
		}
	}
	if text, ok := impl.FileAt(impl.Disk{}, "a"); text != "" || ok {
		t.Errorf("FileAt of no files: %q %v", text, ok)
	}
	if text, ok := impl.FileAt(impl.Disk{}, ""); text != "" || ok {
		t.Errorf("FileAt of no files and no name: %q %v", text, ok)
	}
}

// No sentence asks FileAt for a right disk: it tells of the file that has the name, whatever else is there.
func TestFileAtOfDisksThatAreNotRight(t *testing.T) {
	for _, c := range wrongDisks() {
		for place, f := range c.d.Files {
			if place > 0 && f.Name == c.d.Files[place-1].Name {
				continue
			}
			if text, ok := impl.FileAt(c.d, f.Name); text != f.Text || !ok {
				t.Errorf("%s: FileAt %q: %.20q %v", c.why, f.Name, text, ok)
			}
		}
		if text, ok := impl.FileAt(c.d, "none"); text != "" || ok {
			t.Errorf("%s: FileAt of a name that is not there: %q %v", c.why, text, ok)
		}
	}
}

func add(name, text string) impl.Act {
	return impl.Act{Kind: impl.ActAdd, Name: name, Text: text}
}
func keep(name string) impl.Act     { return impl.Act{Kind: impl.ActKeep, Name: name} }
func move(name, to string) impl.Act { return impl.Act{Kind: impl.ActMove, Name: name, To: to} }
func drop(name string) impl.Act     { return impl.Act{Kind: impl.ActDrop, Name: name} }

// someFiles has a file with some, one with all and one with nothing kept, and one without text.
func someFiles() impl.Disk {
	return diskOf(impl.File{Name: "b", Text: "123", Kept: 1}, impl.File{Name: "d", Text: "45", Kept: 2}, impl.File{Name: "f", Text: "6"}, impl.File{Name: "h"})
}

func TestDoAct(t *testing.T) {
	b, d := impl.File{Name: "b", Text: "123", Kept: 1}, impl.File{Name: "d", Text: "45", Kept: 2}
	f, h := impl.File{Name: "f", Text: "6"}, impl.File{Name: "h"}
	for _, c := range []struct {
		why  string
		a    impl.Act
		want impl.Disk
	}{
		{"to a file with some kept", add("b", "xy"), diskOf(impl.File{Name: "b", Text: "123xy", Kept: 1}, d, f, h)},
		{"to a file with all kept", add("d", "\x00"), diskOf(b, impl.File{Name: "d", Text: "45\x00", Kept: 2}, f, h)},
		{"to a file with nothing kept", add("f", "\xff\xc3"), diskOf(b, d, impl.File{Name: "f", Text: "6\xff\xc3"}, h)},
		{"to a file without text", add("h", "7"), diskOf(b, d, f, impl.File{Name: "h", Text: "7"})},
		{"nothing to a file", add("b", ""), diskOf(b, d, f, h)},
		{"a new file, first", add("a", "7"), diskOf(impl.File{Name: "a", Text: "7"}, b, d, f, h)},
		{"a new file, between", add("dd", "7"), diskOf(b, d, impl.File{Name: "dd", Text: "7"}, f, h)},
		{"a new file, last", add("i", "7"), diskOf(b, d, f, h, impl.File{Name: "i", Text: "7"})},
		{"a new file without text", add("c", ""), diskOf(b, impl.File{Name: "c"}, d, f, h)},
		{"a new file with a name of MaxName bytes", add("12345678", "7"), diskOf(impl.File{Name: "12345678", Text: "7"}, b, d, f, h)},
		{"some kept: all is", keep("b"), diskOf(impl.File{Name: "b", Text: "123", Kept: 3}, d, f, h)},
		{"all kept: it stays", keep("d"), diskOf(b, d, f, h)},
		{"nothing kept: all is", keep("f"), diskOf(b, d, impl.File{Name: "f", Text: "6", Kept: 1}, h)},
		{"nothing to keep", keep("h"), diskOf(b, d, f, h)},
		{"to a new name, first", move("d", "a"), diskOf(impl.File{Name: "a", Text: "45", Kept: 2}, b, f, h)},
		{"to a new name, in its own place", move("d", "e"), diskOf(b, impl.File{Name: "e", Text: "45", Kept: 2}, f, h)},
		{"to a new name, last", move("d", "z"), diskOf(b, f, h, impl.File{Name: "z", Text: "45", Kept: 2})},
		{"to a new name of MaxName bytes", move("d", "12345678"), diskOf(impl.File{Name: "12345678", Text: "45", Kept: 2}, b, f, h)},
		{"onto a file ahead", move("d", "b"), diskOf(impl.File{Name: "b", Text: "45", Kept: 2}, f, h)},
		{"onto a file behind", move("d", "f"), diskOf(b, impl.File{Name: "f", Text: "45", Kept: 2}, h)},
		{"a file without text onto another", move("h", "b"), diskOf(impl.File{Name: "b"}, d, f)},
		{"the first is gone", drop("b"), diskOf(d, f, h)},
		{"one between is gone", drop("d"), diskOf(b, f, h)},
		{"the last is gone", drop("h"), diskOf(b, d, f)},
	} {
		got, ok := impl.DoAct(someFiles(), c.a)
		wantDisk(t, c.why, got, ok, c.want, true)
	}
}

func wrongActs() []impl.Act {
	return []impl.Act{
		{},
		{Name: "b"},
		{Kind: 0, Name: "b", Text: "7"},
		{Kind: 5, Name: "b"},
		{Kind: -1, Name: "b"},
		{Kind: math.MaxInt, Name: "b"},
		{Kind: math.MinInt, Name: "b"},
		{Kind: 1 << 32, Name: "b"},
		{Kind: 1<<32 + impl.ActKeep, Name: "b"},
		add("", "7"),
		add("", ""),
		add("123456789", "7"),
		{Kind: impl.ActAdd, Name: "b", Text: "7", To: "c"},
		{Kind: impl.ActAdd, Name: "b", Text: "7", To: "b"},
		{Kind: impl.ActAdd, Name: "c", To: "c"},
		add("b", someText(impl.MaxText-2)),
		add("c", someText(impl.MaxText+1)),
		keep(""),
		keep("c"),
		keep("123456789"),
		{Kind: impl.ActKeep, Name: "b", Text: "7"},
		{Kind: impl.ActKeep, Name: "b", To: "c"},
		move("b", "c"),
		move("f", "c"),
		move("b", "d"),
		move("d", "d"),
		move("h", "h"),
		move("d", ""),
		move("d", "123456789"),
		move("c", "a"),
		move("c", "b"),
		move("c", "c"),
		move("", "a"),
		move("", ""),
		{Kind: impl.ActMove, Name: "d", To: "e", Text: "7"},
		{Kind: impl.ActMove, Name: "d", To: "b", Text: "45"},
		drop(""),
		drop("c"),
		{Kind: impl.ActDrop, Name: "b", Text: "123"},
		{Kind: impl.ActDrop, Name: "b", To: "b"},
	}
}

func TestDoActOfWrongActs(t *testing.T) {
	for _, a := range wrongActs() {
		got, ok := impl.DoAct(someFiles(), a)
		wantDisk(t, briefAct(a), got, ok, impl.Disk{}, false)
	}
}

func briefAct(a impl.Act) string {
	text := strconv.Quote(a.Text)
	if len(a.Text) > 20 {
		text = strconv.Itoa(len(a.Text)) + " bytes"
	}
	return "act " + strconv.Itoa(a.Kind) + " " + strconv.Quote(a.Name) + " " + text + " " + strconv.Quote(a.To)
}

func TestDoActOfNoFiles(t *testing.T) {
	got, ok := impl.DoAct(impl.Disk{}, add("a", "1"))
	wantDisk(t, "the first file", got, ok, diskOf(impl.File{Name: "a", Text: "1"}), true)
	got, ok = impl.DoAct(impl.Disk{}, add("a", ""))
	wantDisk(t, "the first file, without text", got, ok, diskOf(impl.File{Name: "a"}), true)
	for _, a := range []impl.Act{keep("a"), move("a", "b"), drop("a"), {}} {
		got, ok = impl.DoAct(impl.Disk{}, a)
		wantDisk(t, briefAct(a), got, ok, impl.Disk{}, false)
	}
	got, ok = impl.DoAct(diskOf(impl.File{Name: "a", Text: "1"}), drop("a"))
	wantDisk(t, "the only file is gone", got, ok, impl.Disk{}, true)
}

func TestDoActAtTheLimits(t *testing.T) {
	full := fullDisk(impl.MaxFiles)
	nearly := fullDisk(impl.MaxFiles - 1)
	last := full.Files[impl.MaxFiles-1].Name
	got, ok := impl.DoAct(nearly, add(last, "x"))
	wantDisk(t, "file MaxFiles", got, ok, diskOf(append(copyDisk(nearly).Files, impl.File{Name: last, Text: "x"})...), true)
	got, ok = impl.DoAct(full, add("new", ""))
	wantDisk(t, "file MaxFiles + 1", got, ok, impl.Disk{}, false)
	grown := copyDisk(full)
	grown.Files[3].Text += "x"
	got, ok = impl.DoAct(full, add(full.Files[3].Name, "x"))
	wantDisk(t, "to one of MaxFiles files", got, ok, grown, true)
	moved := copyDisk(full)
	moved.Files[impl.MaxFiles-1].Name = "zz"
	got, ok = impl.DoAct(full, move(last, "zz"))
	wantDisk(t, "one of MaxFiles files to a new name", got, ok, moved, true)

	for _, old := range []int{0, 1, impl.MaxText - 1, impl.MaxText} {
		d := diskOf(impl.File{Name: "a", Text: someText(old), Kept: old / 2})
		more := strings.Repeat("m", impl.MaxText-old)
		got, ok = impl.DoAct(d, add("a", more))
		wantDisk(t, "up to MaxText bytes", got, ok, diskOf(impl.File{Name: "a", Text: someText(old) + more, Kept: old / 2}), true)
		got, ok = impl.DoAct(d, add("a", more+"m"))
		wantDisk(t, "to MaxText + 1 bytes", got, ok, impl.Disk{}, false)
		got, ok = impl.DoAct(d, add("b", someText(impl.MaxText)))
		wantDisk(t, "a new file of MaxText bytes", got, ok, diskOf(d.Files[0], impl.File{Name: "b", Text: someText(impl.MaxText)}), true)
	}
}

func TestActsOfDisksThatAreNotRight(t *testing.T) {
	acts := []impl.Act{add("a", "1"), add("new", ""), keep("a"), move("a", "n"), drop("a"), drop("fB"), drop("123456789"), drop(""), {}}
	for _, c := range wrongDisks() {
		for _, a := range acts {
			got, ok := impl.DoAct(c.d, a)
			wantDisk(t, c.why+", "+briefAct(a), got, ok, impl.Disk{}, false)
			got, done := impl.DoActs(c.d, []impl.Act{a, a})
			wantDisk(t, c.why+", acts", got, done == 0, c.d, true)
			for whole := range 3 {
				got, ok = impl.CutActs(c.d, []impl.Act{a, a}, whole, []int{1, 1})
				wantDisk(t, c.why+", cut", got, ok, impl.Disk{}, false)
			}
		}
		got, done := impl.DoActs(c.d, nil)
		wantDisk(t, c.why+", no acts", got, done == 0, c.d, true)
		for _, left := range [][]int{nil, {0}, {1, 1, 1}, {math.MaxInt}} {
			got, ok := impl.LoseDisk(c.d, left)
			wantDisk(t, c.why+", lost", got, ok, impl.Disk{}, false)
		}
	}
}

func TestDoActs(t *testing.T) {
	list := []impl.Act{add("n", "12"), add("n", "3"), keep("n"), add("n", "4"), keep("n"), move("n", "b"), drop("d"), add("d", "9")}
	behind := []impl.Disk{
		someFiles(),
		diskOf(append(someFiles().Files, impl.File{Name: "n", Text: "12"})...),
		diskOf(append(someFiles().Files, impl.File{Name: "n", Text: "123"})...),
		diskOf(append(someFiles().Files, impl.File{Name: "n", Text: "123", Kept: 3})...),
		diskOf(append(someFiles().Files, impl.File{Name: "n", Text: "1234", Kept: 3})...),
		diskOf(append(someFiles().Files, impl.File{Name: "n", Text: "1234", Kept: 4})...),
		diskOf(impl.File{Name: "b", Text: "1234", Kept: 4}, impl.File{Name: "d", Text: "45", Kept: 2}, impl.File{Name: "f", Text: "6"}, impl.File{Name: "h"}),
		diskOf(impl.File{Name: "b", Text: "1234", Kept: 4}, impl.File{Name: "f", Text: "6"}, impl.File{Name: "h"}),
		diskOf(impl.File{Name: "b", Text: "1234", Kept: 4}, impl.File{Name: "d", Text: "9"}, impl.File{Name: "f", Text: "6"}, impl.File{Name: "h"}),
	}
	for count := range len(list) + 1 {
		got, done := impl.DoActs(someFiles(), list[:count])
		wantDisk(t, "the first acts", got, done == count, behind[count], true)
		for _, wrong := range []impl.Act{{}, move("f", "a"), drop("none"), add("b", someText(impl.MaxText)), {Kind: impl.ActKeep, Name: "f", Text: "x"}} {
			with := slices.Concat(list[:count], []impl.Act{wrong}, list[count:])
			got, done = impl.DoActs(someFiles(), with)
			wantDisk(t, "acts behind one that is false", got, done == count, behind[count], true)
		}
	}
	for _, wrong := range wrongActs() {
		got, done := impl.DoActs(someFiles(), []impl.Act{wrong, keep("b"), wrong})
		wantDisk(t, briefAct(wrong)+" ahead", got, done == 0, someFiles(), true)
		got, done = impl.DoActs(someFiles(), []impl.Act{add("x", "1"), wrong, keep("x")})
		wantDisk(t, briefAct(wrong)+" between", got, done == 1, withNewFile("x", "1"), true)
	}
	got, done := impl.DoActs(impl.Disk{}, nil)
	wantDisk(t, "no files, no acts", got, done == 0, impl.Disk{}, true)
}

func withNewFile(name, text string) impl.Disk {
	return diskOf(append(someFiles().Files, impl.File{Name: name, Text: text})...)
}

func TestLoseDisk(t *testing.T) {
	d := diskOf(impl.File{Name: "a", Text: "12345", Kept: 2}, impl.File{Name: "b", Text: "678", Kept: 3}, impl.File{Name: "c", Text: "90"})
	for _, c := range []struct {
		left    []int
		a, b, c string
	}{
		{nil, "12", "678", ""},
		{[]int{}, "12", "678", ""},
		{[]int{0}, "12", "678", ""},
		{[]int{1}, "12", "678", ""},
		{[]int{2}, "12", "678", ""},
		{[]int{3}, "123", "678", ""},
		{[]int{5}, "12345", "678", ""},
		{[]int{6}, "12345", "678", ""},
		{[]int{math.MaxInt, math.MaxInt, math.MaxInt}, "12345", "678", "90"},
		{[]int{-1, -1, -1}, "12", "678", ""},
		{[]int{math.MinInt, math.MinInt, math.MinInt}, "12", "678", ""},
		{[]int{0, 0, 1}, "12", "678", "9"},
		{[]int{4, 2}, "1234", "678", ""},
		{[]int{4, 2, 2}, "1234", "678", "90"},
		{[]int{4, 2, 2, 9, -1, 0}, "1234", "678", "90"},
		{[]int{0, 0, 0, 5, 5, 5}, "12", "678", ""},
	} {
		want := diskOf(impl.File{Name: "a", Text: c.a, Kept: len(c.a)}, impl.File{Name: "b", Text: c.b, Kept: len(c.b)}, impl.File{Name: "c", Text: c.c, Kept: len(c.c)})
		got, ok := impl.LoseDisk(d, c.left)
		wantDisk(t, "lost", got, ok, want, true)
	}
	got, ok := impl.LoseDisk(impl.Disk{}, []int{1, 2})
	wantDisk(t, "no files", got, ok, impl.Disk{}, true)
	got, ok = impl.LoseDisk(diskOf(impl.File{Name: "a", Text: someText(impl.MaxText)}), []int{impl.MaxText - 1})
	wantDisk(t, "all but the last byte", got, ok, diskOf(impl.File{Name: "a", Text: someText(impl.MaxText)[:impl.MaxText-1], Kept: impl.MaxText - 1}), true)
}

func TestCutActs(t *testing.T) {
	list := []impl.Act{add("n", "12"), keep("n"), add("n", "34"), drop("b"), {}, keep("n")}
	d := diskOf(impl.File{Name: "b", Text: "567", Kept: 1})
	b := impl.File{Name: "b", Text: "5", Kept: 1}
	for _, c := range []struct {
		whole int
		left  []int
		want  impl.Disk
		ok    bool
	}{
		{-1, nil, impl.Disk{}, false},
		{math.MinInt, nil, impl.Disk{}, false},
		{0, nil, diskOf(b), true},
		{0, []int{2, 2}, diskOf(impl.File{Name: "b", Text: "56", Kept: 2}), true},
		{1, nil, diskOf(b, impl.File{Name: "n"}), true},
		{1, []int{0, 1}, diskOf(b, impl.File{Name: "n", Text: "1", Kept: 1}), true},
		{2, nil, diskOf(b, impl.File{Name: "n", Text: "12", Kept: 2}), true},
		{3, []int{0, 3}, diskOf(b, impl.File{Name: "n", Text: "123", Kept: 3}), true},
		{3, []int{0, -3}, diskOf(b, impl.File{Name: "n", Text: "12", Kept: 2}), true},
		{4, []int{4}, diskOf(impl.File{Name: "n", Text: "1234", Kept: 4}), true},
		{4, []int{-1, 9}, diskOf(impl.File{Name: "n", Text: "12", Kept: 2}), true},
		{5, nil, impl.Disk{}, false},
		{6, nil, impl.Disk{}, false},
		{7, nil, impl.Disk{}, false},
		{math.MaxInt, nil, impl.Disk{}, false},
	} {
		got, ok := impl.CutActs(d, list, c.whole, c.left)
		wantDisk(t, "cut at "+strconv.Itoa(c.whole), got, ok, c.want, c.ok)
	}
	got, ok := impl.CutActs(d, list[:4], 4, nil)
	wantDisk(t, "as many as there are", got, ok, diskOf(impl.File{Name: "n", Text: "12", Kept: 2}), true)
	got, ok = impl.CutActs(d, list[:3], 4, nil)
	wantDisk(t, "one more than there are, with more behind in the list's room", got, ok, impl.Disk{}, false)
	got, ok = impl.CutActs(d, nil, 0, nil)
	wantDisk(t, "none of none", got, ok, diskOf(b), true)
	got, ok = impl.CutActs(d, nil, 1, nil)
	wantDisk(t, "one of none", got, ok, impl.Disk{}, false)
	got, ok = impl.CutActs(d, nil, -1, nil)
	wantDisk(t, "-1 of none", got, ok, impl.Disk{}, false)
}

// plainAct is the rule again, by a list that is gone through: what the program answers is held against it.
func plainAct(d impl.Disk, a impl.Act) (impl.Disk, bool) {
	place := slices.IndexFunc(d.Files, func(f impl.File) bool { return f.Name == a.Name })
	after := copyDisk(d)
	switch a.Kind {
	case impl.ActAdd:
		if a.To != "" {
			return impl.Disk{}, false
		}
		if place < 0 {
			place = len(after.Files)
			after.Files = append(after.Files, impl.File{Name: a.Name})
		}
		after.Files[place].Text += a.Text
	case impl.ActKeep:
		if place < 0 || a.To != "" || a.Text != "" {
			return impl.Disk{}, false
		}
		after.Files[place].Kept = len(after.Files[place].Text)
	case impl.ActMove:
		if place < 0 || a.Text != "" || a.To == a.Name || d.Files[place].Kept != len(d.Files[place].Text) {
			return impl.Disk{}, false
		}
		after.Files[place].Name = a.To
		after.Files = slices.DeleteFunc(after.Files, func(f impl.File) bool { return f.Name == a.To })
		after.Files = append(after.Files, impl.File{Name: a.To, Text: d.Files[place].Text, Kept: d.Files[place].Kept})
	case impl.ActDrop:
		if place < 0 || a.To != "" || a.Text != "" {
			return impl.Disk{}, false
		}
		after.Files = slices.Delete(after.Files, place, place+1)
	default:
		return impl.Disk{}, false
	}
	slices.SortFunc(after.Files, func(x, y impl.File) int { return strings.Compare(x.Name, y.Name) })
	if !impl.DiskOk(after) {
		return impl.Disk{}, false
	}
	return after, true
}

// drawer draws the same numbers in every run.
type drawer struct{ state uint64 }

func (w *drawer) below(n int) int {
	w.state = w.state*6364136223846793005 + 1442695040888963407
	return int(w.state>>33) % n
}

func (w *drawer) name() string {
	names := []string{"a", "b", "c", "d", "e", "f", "g", "aa", "b0", "m+", "12345678", "123456789", ""}
	if w.below(3) > 0 {
		return names[w.below(7)]
	}
	if w.below(3) > 0 {
		return "n" + strconv.Itoa(w.below(40))
	}
	return names[w.below(len(names))]
}

func (w *drawer) act() impl.Act {
	a := impl.Act{Kind: 1 + w.below(4), Name: w.name()}
	if w.below(40) == 0 {
		a.Kind = w.below(7) - 1
	}
	if w.below(3) == 0 {
		a.Kind = impl.ActAdd
	}
	if a.Kind == impl.ActAdd || w.below(30) == 0 {
		a.Text = someText(w.below(6))
		if w.below(10) == 0 {
			a.Text = someText(w.below(impl.MaxText))
		}
	}
	if a.Kind == impl.ActMove || w.below(30) == 0 {
		a.To = w.name()
	}
	return a
}

// A drawn life: each act is done as the plain rule does it, and the power takes no more than it may.
func TestFilesInDrawnLives(t *testing.T) {
	draw := &drawer{state: 3}
	for range 40 {
		d := impl.Disk{}
		var list []impl.Act
		for range 150 {
			a := draw.act()
			want, wantOk := plainAct(d, a)
			got, ok := impl.DoAct(d, a)
			wantDisk(t, briefAct(a)+" on "+brief(d), got, ok, want, wantOk)
			if !ok {
				continue
			}
			if !impl.DiskOk(got) {
				t.Fatalf("%s makes a disk that is not right: %s", briefAct(a), brief(got))
			}
			list = append(list, a)
			d = got
			left := make([]int, draw.below(len(d.Files)+3))
			for place := range left {
				left[place] = draw.below(12) - 2
			}
			lostIsRight(t, d, left)
			if t.Failed() {
				return
			}
		}
		whole, done := impl.DoActs(impl.Disk{}, list)
		wantDisk(t, "all acts at once", whole, done == len(list), d, true)
		cut, ok := impl.CutActs(impl.Disk{}, list, len(list), nil)
		lost, _ := impl.LoseDisk(d, nil)
		wantDisk(t, "all acts, then the power goes", cut, ok, lost, true)
	}
}

func lostIsRight(t *testing.T, d impl.Disk, left []int) {
	t.Helper()
	lost, ok := impl.LoseDisk(d, left)
	if !ok || len(lost.Files) != len(d.Files) || !impl.AllKept(lost) {
		t.Fatalf("LoseDisk of %s: %s %v", brief(d), brief(lost), ok)
	}
	for place, f := range d.Files {
		told := 0
		if place < len(left) {
			told = left[place]
		}
		l := lost.Files[place]
		if l.Name != f.Name || !strings.HasPrefix(l.Text, f.Text[:f.Kept]) || !strings.HasPrefix(f.Text, l.Text) {
			t.Fatalf("LoseDisk of %s: %s: what is kept is lost, or what is left is no beginning", brief(d), brief(lost))
		}
		if len(l.Text) != f.Kept && len(l.Text) != told && len(l.Text) != len(f.Text) {
			t.Fatalf("LoseDisk of %s with %v: %s", brief(d), left, brief(lost))
		}
	}
}

// What is moved is there wholly, whatever the power leaves behind that.
func TestWhatIsMovedIsWhollyKept(t *testing.T) {
	for _, to := range []string{"a", "old", "z"} {
		d := diskOf(impl.File{Name: "new", Text: "12", Kept: 1}, impl.File{Name: "old", Text: "before", Kept: 6})
		if _, ok := impl.DoAct(d, move("new", to)); ok {
			t.Errorf("a file that is not all kept was moved to %q", to)
		}
		list := []impl.Act{add("new", "34"), keep("new"), move("new", to)}
		for _, left := range [][]int{nil, {-1, -1, -1}, {0, 0, 0}, {1, 1, 1}, {99, 99, 99}} {
			got, ok := impl.CutActs(d, list, 3, left)
			text, there := impl.FileAt(got, to)
			if !ok || text != "1234" || !there {
				t.Errorf("moved to %q: %s %v", to, brief(got), ok)
			}
			if _, there = impl.FileAt(got, "new"); there {
				t.Errorf("moved to %q, and still there: %s", to, brief(got))
			}
			before, ok := impl.CutActs(d, list, 2, left)
			if text, _ := impl.FileAt(before, "old"); !ok || text != "before" {
				t.Errorf("ahead of the move: %s %v", brief(before), ok)
			}
		}
	}
}

// The files stand in a list with room behind them, so that writing there is told, too.
func roomyDisk() (impl.Disk, []impl.File) {
	room := make([]impl.File, 0, 12)
	for _, f := range someFiles().Files {
		room = append(room, copyDisk(diskOf(f)).Files...)
	}
	for n := range 8 {
		room = append(room, impl.File{Name: "room" + strconv.Itoa(n), Text: "room", Kept: n})
	}
	return impl.Disk{Files: room[:4]}, room
}

func sharesFiles(a, b impl.Disk) bool {
	for x := range a.Files {
		for y := range b.Files {
			f, g := &a.Files[x], &b.Files[y]
			if f == g || sharesBytes(f.Name, g.Name) || sharesBytes(f.Text, g.Text) || sharesBytes(f.Name, g.Text) || sharesBytes(f.Text, g.Name) {
				return true
			}
		}
	}
	return false
}

func sharesActs(d impl.Disk, list []impl.Act) bool {
	var parts impl.Disk
	for _, a := range list {
		parts.Files = append(parts.Files, impl.File{Name: a.Name, Text: a.Text}, impl.File{Name: a.To})
	}
	return sharesFiles(d, parts)
}

func ownActs(list ...impl.Act) []impl.Act {
	var own []impl.Act
	for _, a := range list {
		own = append(own, impl.Act{Kind: a.Kind, Name: strings.Clone(a.Name), Text: strings.Clone(a.Text), To: strings.Clone(a.To)})
	}
	return own
}

func TestFilesLeaveTheirArgumentsAlone(t *testing.T) {
	lists := [][]impl.Act{
		nil,
		{add("b", "xyz")},
		{add("h", "xyz")},
		{add("new", "xyz")},
		{add("b", "")},
		{add("new", "")},
		{keep("b")},
		{move("d", "new")},
		{move("d", "b")},
		{drop("b")},
		{keep("b"), move("b", "c"), add("c", "9"), drop("h"), add("h", "7"), {}},
		{{}},
	}
	for _, list := range lists {
		list = ownActs(list...)
		acts := ownActs(list...)
		d, room := roomyDisk()
		before := slices.Clone(room)
		left := []int{3, 1, 1, 0, 7}
		answers := []impl.Disk{}
		e, done := impl.DoActs(d, list)
		answers = append(answers, e)
		for whole := range done + 1 {
			e, _ = impl.CutActs(d, list, whole, left)
			answers = append(answers, e)
		}
		for _, a := range list {
			e, _ = impl.DoAct(d, a)
			answers = append(answers, e)
		}
		e, _ = impl.LoseDisk(d, left)
		answers = append(answers, e)
		for place, answer := range answers {
			if sharesFiles(answer, d) || sharesActs(answer, list) {
				t.Errorf("answer %d of %v shares memory with what came in", place, acts)
			}
			for _, other := range answers[:place] {
				if sharesFiles(answer, other) {
					t.Errorf("two answers of %v share memory", acts)
				}
			}
			for n := range answer.Files {
				answer.Files[n] = impl.File{Name: "gone", Text: "gone", Kept: 9}
			}
		}
		impl.DiskOk(d)
		impl.AllKept(d)
		text, _ := impl.FileAt(d, "b")
		if sharesBytes(text, d.Files[0].Text) {
			t.Error("FileAt shares the file's bytes")
		}
		if !slices.Equal(room, before) || !slices.Equal(list, acts) || !slices.Equal(left, []int{3, 1, 1, 0, 7}) {
			t.Errorf("%v changed what came in: %s", acts, brief(impl.Disk{Files: room}))
		}
	}
}

func TestDoActsOfADiskThatIsNotRightSharesNothing(t *testing.T) {
	for _, c := range wrongDisks() {
		d := copyDisk(c.d)
		got, _ := impl.DoActs(d, nil)
		if sharesFiles(got, d) {
			t.Errorf("%s: DoActs shares memory with the disk", c.why)
		}
		for place := range got.Files {
			got.Files[place] = impl.File{}
		}
		if !sameDisk(d, c.d) {
			t.Errorf("%s: DoActs changed the disk", c.why)
		}
	}
}
