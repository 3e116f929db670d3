package tests

import (
	"fmt"
	"math"
	"slices"
	"strconv"
	"strings"
	"testing"

	"loop.example/g00130/impl"
)

// tell cuts what it tells, since a Text may be long.
func tell(v any) string {
	text := fmt.Sprintf("%+q", fmt.Sprintf("%+v", v))
	return text[:min(len(text), 300)]
}

func diskOf(files ...impl.File) impl.Disk { return impl.Disk{Files: files} }

func sameDisk(a, b impl.Disk) bool { return slices.Equal(a.Files, b.Files) }

// fullDisk has so many files, each of two bytes, of which one is kept.
func fullDisk(count int) impl.Disk {
	d := impl.Disk{}
	for i := range count {
		d.Files = append(d.Files, impl.File{Name: "n" + string([]byte{byte(i)}), Text: "xy", Kept: 1})
	}
	return d
}

func smallDisk() impl.Disk {
	return diskOf(
		impl.File{Name: "b", Text: "12345", Kept: 2},
		impl.File{Name: "d", Text: "678", Kept: 3},
		impl.File{Name: "f"},
	)
}

// wrongDisks are disks that break one rule each, but for the files ahead of and behind the wrong one.
func wrongDisks() map[string]impl.Disk {
	long := strings.Repeat("t", impl.MaxText+1)
	return map[string]impl.Disk{
		"a file too many":        fullDisk(impl.MaxFiles + 1),
		"one Name twice":         diskOf(impl.File{Name: "b"}, impl.File{Name: "b"}),
		"one Name twice, later":  diskOf(impl.File{Name: "a"}, impl.File{Name: "b", Text: "1", Kept: 1}, impl.File{Name: "b", Text: "2", Kept: 1}),
		"Names out of order":     diskOf(impl.File{Name: "d"}, impl.File{Name: "b"}),
		"Names by their length":  diskOf(impl.File{Name: "b"}, impl.File{Name: "aa"}),
		"the last out of order":  diskOf(impl.File{Name: "b"}, impl.File{Name: "d"}, impl.File{Name: "c"}),
		"a beginning behind":     diskOf(impl.File{Name: "bb"}, impl.File{Name: "b"}),
		"bytes taken as signed":  diskOf(impl.File{Name: "\x80"}, impl.File{Name: "\x7f"}),
		"no Name":                diskOf(impl.File{Text: "1", Kept: 1}),
		"no Name, and a right":   diskOf(impl.File{}, impl.File{Name: "b"}),
		"a Name too long":        diskOf(impl.File{Name: "123456789"}),
		"a Name too long, last":  diskOf(impl.File{Name: "1"}, impl.File{Name: "123456789"}),
		"a Text too long":        diskOf(impl.File{Name: "b", Text: long, Kept: 5}),
		"a Text too long, last":  diskOf(impl.File{Name: "b"}, impl.File{Name: "d", Text: long, Kept: len(long)}),
		"Kept below 0":           diskOf(impl.File{Name: "b", Text: "123", Kept: -1}),
		"Kept far below 0":       diskOf(impl.File{Name: "b", Text: "123", Kept: math.MinInt}),
		"Kept above the length":  diskOf(impl.File{Name: "b", Text: "123", Kept: 4}),
		"Kept of nothing":        diskOf(impl.File{Name: "b", Kept: 1}),
		"Kept far above":         diskOf(impl.File{Name: "b", Text: "123", Kept: math.MaxInt}),
		"Kept above, in the end": diskOf(impl.File{Name: "b", Text: "1", Kept: 1}, impl.File{Name: "d", Text: "123", Kept: 4}),
	}
}

func rightDisks() map[string]impl.Disk {
	long := strings.Repeat("t", impl.MaxText)
	return map[string]impl.Disk{
		"nil":                   {},
		"no files":              {Files: []impl.File{}},
		"a file less":           fullDisk(impl.MaxFiles - 1),
		"as many as may be":     fullDisk(impl.MaxFiles),
		"a Name of one byte":    diskOf(impl.File{Name: "\x00"}),
		"a Name of eight bytes": diskOf(impl.File{Name: "12345678", Text: "1"}),
		"a beginning ahead":     diskOf(impl.File{Name: "b"}, impl.File{Name: "b\x00"}, impl.File{Name: "bb"}),
		"bytes above 127":       diskOf(impl.File{Name: "\x7f"}, impl.File{Name: "\x80"}, impl.File{Name: "\xff"}),
		"a Text of all bytes":   diskOf(impl.File{Name: "b", Text: long, Kept: 5}, impl.File{Name: "d", Text: long, Kept: len(long)}),
		"nothing kept":          diskOf(impl.File{Name: "b", Text: "123"}),
		"a part kept":           smallDisk(),
		"all kept":              diskOf(impl.File{Name: "b", Text: "123", Kept: 3}, impl.File{Name: "d"}),
	}
}

func TestDiskOk(t *testing.T) {
	for what, d := range rightDisks() {
		if !impl.DiskOk(d) {
			t.Errorf("%s: the disk is not right", what)
		}
	}
	for what, d := range wrongDisks() {
		if impl.DiskOk(d) {
			t.Errorf("%s: the disk is right", what)
		}
	}
}

func TestAllKept(t *testing.T) {
	for what, d := range rightDisks() {
		want := true
		for _, f := range d.Files {
			want = want && f.Kept == len(f.Text)
		}
		if impl.AllKept(d) != want {
			t.Errorf("%s: AllKept is %v", what, !want)
		}
	}
	for what, d := range wrongDisks() {
		if impl.AllKept(d) {
			t.Errorf("%s: all is kept of a disk that is not right", what)
		}
	}
	for at := range 3 { // one file alone of which a byte is not kept, wherever it stands
		d := diskOf(impl.File{Name: "b", Text: "12", Kept: 2}, impl.File{Name: "d", Text: "34", Kept: 2}, impl.File{Name: "f", Text: "56", Kept: 2})
		if !impl.AllKept(d) {
			t.Fatal("all is kept, and AllKept is false")
		}
		d.Files[at].Kept = 1
		if impl.AllKept(d) {
			t.Errorf("a byte of file %d is not kept, and AllKept is true", at)
		}
	}
}

func TestFileAt(t *testing.T) {
	d := smallDisk()
	for _, f := range d.Files {
		if text, ok := impl.FileAt(d, f.Name); !ok || text != f.Text {
			t.Errorf("FileAt(%q) = %q, %v", f.Name, text, ok)
		}
	}
	for _, name := range []string{"", "a", "c", "e", "g", "bb", "b\x00", "B", "123456789", strings.Repeat("b", 300)} {
		if text, ok := impl.FileAt(d, name); ok || text != "" {
			t.Errorf("FileAt(%q) = %q, %v; want nothing, false", name, text, ok)
		}
		if text, ok := impl.FileAt(impl.Disk{}, name); ok || text != "" {
			t.Errorf("FileAt(%q) of no files = %q, %v; want nothing, false", name, text, ok)
		}
	}
	full := fullDisk(impl.MaxFiles)
	if text, ok := impl.FileAt(full, full.Files[impl.MaxFiles-1].Name); !ok || text != "xy" {
		t.Errorf("FileAt of the last of all files = %q, %v", text, ok)
	}
}

func wantAct(t *testing.T, d impl.Disk, a impl.Act, want impl.Disk) {
	t.Helper()
	if got, ok := impl.DoAct(d, a); !ok || !sameDisk(got, want) {
		t.Errorf("DoAct(%s, %s) = %s, %v; want %s, true", tell(d), tell(a), tell(got), ok, tell(want))
	}
}

func wantNoAct(t *testing.T, d impl.Disk, a impl.Act, why string) {
	t.Helper()
	if got, ok := impl.DoAct(d, a); ok || len(got.Files) != 0 {
		t.Errorf("%s: DoAct(%s, %s) = %s, %v; want no files, false", why, tell(d), tell(a), tell(got), ok)
	}
}

func actAdd(name, text string) impl.Act {
	return impl.Act{Kind: impl.ActAdd, Name: name, Text: text}
}

func actKeep(name string) impl.Act { return impl.Act{Kind: impl.ActKeep, Name: name} }

func actMove(name, to string) impl.Act {
	return impl.Act{Kind: impl.ActMove, Name: name, To: to}
}

func actDrop(name string) impl.Act { return impl.Act{Kind: impl.ActDrop, Name: name} }

func TestActNumbers(t *testing.T) {
	if impl.ActAdd != 1 || impl.ActKeep != 2 || impl.ActMove != 3 || impl.ActDrop != 4 || impl.MaxFiles != 30 || impl.MaxName != 8 {
		t.Error("the constants are others than the document's")
	}
}

func TestActAdd(t *testing.T) {
	b, d, f := smallDisk().Files[0], smallDisk().Files[1], smallDisk().Files[2]
	more := func(file impl.File, text string) impl.File {
		return impl.File{Name: file.Name, Text: file.Text + text, Kept: file.Kept}
	}
	wantAct(t, smallDisk(), actAdd("b", "\x00z"), diskOf(more(b, "\x00z"), d, f))
	wantAct(t, smallDisk(), actAdd("d", "z"), diskOf(b, more(d, "z"), f))
	wantAct(t, smallDisk(), actAdd("f", "z"), diskOf(b, d, more(f, "z")))
	wantAct(t, smallDisk(), actAdd("d", ""), smallDisk())
	for at, name := range []string{"a", "c", "e", "g"} {
		for _, text := range []string{"", "z", "zz"} {
			made := impl.File{Name: name, Text: text}
			wantAct(t, smallDisk(), actAdd(name, text), diskOf(slices.Insert(smallDisk().Files, at, made)...))
		}
	}
	wantAct(t, impl.Disk{}, actAdd("12345678", "1"), diskOf(impl.File{Name: "12345678", Text: "1"}))
	wantAct(t, impl.Disk{}, actAdd("\xff", ""), diskOf(impl.File{Name: "\xff"}))
	for _, name := range []string{"", "123456789", strings.Repeat("n", 300)} {
		wantNoAct(t, smallDisk(), actAdd(name, "1"), "a Name that none may have")
		wantNoAct(t, impl.Disk{}, actAdd(name, ""), "a Name that none may have")
	}
}

func TestActAddLimits(t *testing.T) {
	whole := strings.Repeat("t", impl.MaxText)
	for _, size := range []int{0, 1, impl.MaxText / 2, impl.MaxText - 1, impl.MaxText} {
		d := diskOf(impl.File{Name: "b", Text: whole[:size], Kept: size / 2}, impl.File{Name: "d", Text: whole, Kept: 7})
		want := diskOf(impl.File{Name: "b", Text: whole, Kept: size / 2}, d.Files[1])
		wantAct(t, d, actAdd("b", whole[size:]), want)
		wantNoAct(t, d, actAdd("b", whole[size:]+"t"), "a byte too many")
	}
	wantAct(t, impl.Disk{}, actAdd("b", whole), diskOf(impl.File{Name: "b", Text: whole}))
	wantNoAct(t, impl.Disk{}, actAdd("b", whole+"t"), "a byte too many of a new file")

	d := fullDisk(impl.MaxFiles)
	wantNoAct(t, d, actAdd("a", "1"), "a new file ahead of all that there may be")
	wantNoAct(t, d, actAdd("n\x0a\x00", ""), "a new file among all that there may be")
	wantNoAct(t, d, actAdd("z", ""), "a new file behind all that there may be")
	want := fullDisk(impl.MaxFiles)
	want.Files[11].Text = "xyz"
	wantAct(t, d, actAdd(want.Files[11].Name, "z"), want)
	less := fullDisk(impl.MaxFiles - 1)
	wantAct(t, less, actAdd("z", "1"), diskOf(append(fullDisk(impl.MaxFiles-1).Files, impl.File{Name: "z", Text: "1"})...))
}

func TestActKeep(t *testing.T) {
	b, d, f := smallDisk().Files[0], smallDisk().Files[1], smallDisk().Files[2]
	wantAct(t, smallDisk(), actKeep("b"), diskOf(impl.File{Name: "b", Text: "12345", Kept: 5}, d, f))
	wantAct(t, smallDisk(), actKeep("d"), smallDisk())
	wantAct(t, smallDisk(), actKeep("f"), smallDisk())
	wantAct(t, diskOf(b), actKeep("b"), diskOf(impl.File{Name: "b", Text: "12345", Kept: 5}))
}

func TestActMove(t *testing.T) {
	b, d, f := smallDisk().Files[0], smallDisk().Files[1], smallDisk().Files[2]
	wantNoAct(t, smallDisk(), actMove("b", "c"), "not all is kept")
	wantNoAct(t, smallDisk(), actMove("b", "d"), "not all is kept")
	wantNoAct(t, diskOf(impl.File{Name: "b", Text: "1"}), actMove("b", "c"), "nothing is kept")
	named := func(name string) impl.File { return impl.File{Name: name, Text: d.Text, Kept: d.Kept} }
	wantAct(t, smallDisk(), actMove("d", "a"), diskOf(named("a"), b, f))
	wantAct(t, smallDisk(), actMove("d", "c"), diskOf(b, named("c"), f))
	wantAct(t, smallDisk(), actMove("d", "g"), diskOf(b, f, named("g")))
	wantAct(t, smallDisk(), actMove("d", "12345678"), diskOf(named("12345678"), b, f))
	wantAct(t, smallDisk(), actMove("d", "b"), diskOf(named("b"), f))
	wantAct(t, smallDisk(), actMove("d", "f"), diskOf(b, named("f")))
	wantAct(t, smallDisk(), actMove("f", "b"), diskOf(impl.File{Name: "b"}, d))
	wantNoAct(t, smallDisk(), actMove("d", "d"), "To is Name")
	wantNoAct(t, smallDisk(), actMove("f", "f"), "To is Name, without Text")
	wantNoAct(t, smallDisk(), actMove("d", ""), "no To")
	wantNoAct(t, smallDisk(), actMove("d", "123456789"), "To is too long")

	full := fullDisk(impl.MaxFiles)
	full.Files[3].Kept = 2
	want := slices.Delete(slices.Clone(full.Files), 3, 4)
	wantAct(t, full, actMove(full.Files[3].Name, "z"), diskOf(append(want, impl.File{Name: "z", Text: "xy", Kept: 2})...))
}

func TestActDrop(t *testing.T) {
	b, d, f := smallDisk().Files[0], smallDisk().Files[1], smallDisk().Files[2]
	wantAct(t, smallDisk(), actDrop("b"), diskOf(d, f))
	wantAct(t, smallDisk(), actDrop("d"), diskOf(b, f))
	wantAct(t, smallDisk(), actDrop("f"), diskOf(b, d))
	wantAct(t, diskOf(b), actDrop("b"), impl.Disk{})
	wantAct(t, fullDisk(impl.MaxFiles), actDrop("n\x1d"), fullDisk(impl.MaxFiles-1))
}

func TestActsThatAreNone(t *testing.T) {
	for _, name := range []string{"", "a", "c", "g", "bb", "b\x00", "123456789"} {
		wantNoAct(t, smallDisk(), actKeep(name), "no such file")
		wantNoAct(t, smallDisk(), actMove(name, "z"), "no such file")
		wantNoAct(t, smallDisk(), actMove(name, "d"), "no such file")
		wantNoAct(t, smallDisk(), actDrop(name), "no such file")
		wantNoAct(t, impl.Disk{}, actDrop(name), "no such file")
	}
	for _, kind := range []int{0, -1, 5, 6, 12, math.MinInt, math.MaxInt} {
		for _, name := range []string{"", "b", "d", "z"} {
			wantNoAct(t, smallDisk(), impl.Act{Kind: kind, Name: name}, "no Kind")
			wantNoAct(t, smallDisk(), impl.Act{Kind: kind, Name: name, Text: "1"}, "no Kind")
			wantNoAct(t, smallDisk(), impl.Act{Kind: kind, Name: name, To: "z"}, "no Kind")
		}
	}
	for _, to := range []string{"a", "b", "d", "123456789"} {
		wantNoAct(t, smallDisk(), impl.Act{Kind: impl.ActAdd, Name: "d", Text: "1", To: to}, "To of ActAdd")
		wantNoAct(t, smallDisk(), impl.Act{Kind: impl.ActAdd, Name: "z", To: to}, "To of ActAdd")
		wantNoAct(t, smallDisk(), impl.Act{Kind: impl.ActKeep, Name: "d", To: to}, "To of ActKeep")
		wantNoAct(t, smallDisk(), impl.Act{Kind: impl.ActDrop, Name: "d", To: to}, "To of ActDrop")
	}
	for _, text := range []string{"\x00", "678", strings.Repeat("t", impl.MaxText+1)} {
		wantNoAct(t, smallDisk(), impl.Act{Kind: impl.ActKeep, Name: "d", Text: text}, "Text of ActKeep")
		wantNoAct(t, smallDisk(), impl.Act{Kind: impl.ActMove, Name: "d", Text: text, To: "z"}, "Text of ActMove")
		wantNoAct(t, smallDisk(), impl.Act{Kind: impl.ActDrop, Name: "d", Text: text}, "Text of ActDrop")
	}
}

func TestActsOfWrongDisks(t *testing.T) {
	for what, d := range wrongDisks() {
		acts := []impl.Act{actAdd("b", ""), actAdd("z", "1")}
		for _, f := range d.Files { // some of these would mend the disk
			acts = append(acts, actKeep(f.Name), actDrop(f.Name), actMove(f.Name, "z"), actAdd(f.Name, "1"))
		}
		for _, a := range acts {
			wantNoAct(t, d, a, what)
			if got, done := impl.DoActs(d, []impl.Act{a}); done != 0 || !sameDisk(got, d) {
				t.Errorf("%s: DoActs is %d files, %d; want the disk as it was, 0", what, len(got.Files), done)
			}
			if got, ok := impl.CutActs(d, []impl.Act{a}, 1, nil); ok || len(got.Files) != 0 {
				t.Errorf("%s: CutActs is %d files, %v; want none, false", what, len(got.Files), ok)
			}
		}
		if got, done := impl.DoActs(d, nil); done != 0 || !sameDisk(got, d) {
			t.Errorf("%s: DoActs of no acts is %d files, %d; want the disk as it was, 0", what, len(got.Files), done)
		}
		for _, left := range [][]int{nil, {1}, {9, 9, 9}} {
			if got, ok := impl.LoseDisk(d, left); ok || len(got.Files) != 0 {
				t.Errorf("%s: LoseDisk is %d files, %v; want none, false", what, len(got.Files), ok)
			}
			if got, ok := impl.CutActs(d, nil, 0, left); ok || len(got.Files) != 0 {
				t.Errorf("%s: CutActs of no acts is %d files, %v; want none, false", what, len(got.Files), ok)
			}
		}
	}
}

func TestDoActs(t *testing.T) {
	list := []impl.Act{actAdd("b", "6"), actKeep("b"), actMove("b", "d"), actDrop("f"), actAdd("a", "new")}
	trail := []impl.Disk{
		smallDisk(),
		diskOf(impl.File{Name: "b", Text: "123456", Kept: 2}, impl.File{Name: "d", Text: "678", Kept: 3}, impl.File{Name: "f"}),
		diskOf(impl.File{Name: "b", Text: "123456", Kept: 6}, impl.File{Name: "d", Text: "678", Kept: 3}, impl.File{Name: "f"}),
		diskOf(impl.File{Name: "d", Text: "123456", Kept: 6}, impl.File{Name: "f"}),
		diskOf(impl.File{Name: "d", Text: "123456", Kept: 6}),
		diskOf(impl.File{Name: "a", Text: "new"}, impl.File{Name: "d", Text: "123456", Kept: 6}),
	}
	for count := range len(list) + 1 {
		if got, done := impl.DoActs(smallDisk(), list[:count]); done != count || !sameDisk(got, trail[count]) {
			t.Errorf("DoActs of %d = %v, %d; want %v", count, got, done, trail[count])
		}
		for _, no := range []impl.Act{{}, actDrop("none"), actAdd("", "1"), {Kind: impl.ActKeep, Name: "d", Text: "1"}} {
			broken := slices.Insert(slices.Clone(list), count, no)
			if got, done := impl.DoActs(smallDisk(), broken); done != count || !sameDisk(got, trail[count]) {
				t.Errorf("DoActs with a false act at %d = %v, %d; want %v", count, got, done, trail[count])
			}
		}
	}
	for what, d := range rightDisks() {
		for _, none := range [][]impl.Act{nil, {}, {actDrop("none")}} {
			if got, done := impl.DoActs(d, none); done != 0 || !sameDisk(got, d) {
				t.Errorf("%s: DoActs of no true act is another disk, or %d", what, done)
			}
		}
	}
}

func wantLost(t *testing.T, d impl.Disk, left []int, want impl.Disk) {
	t.Helper()
	got, ok := impl.LoseDisk(d, left)
	if !ok || !sameDisk(got, want) || !impl.AllKept(got) {
		t.Errorf("LoseDisk(%s, %v) = %s, %v; want %s, true", tell(d), left, tell(got), ok, tell(want))
	}
	for _, again := range [][]int{nil, {}, left, {0, 0, 0}, {-1, 99, 1}} {
		if more, ok := impl.LoseDisk(got, again); !ok || !sameDisk(more, want) {
			t.Errorf("of %s, where all is kept, LoseDisk left %s, %v", tell(got), tell(more), ok)
		}
	}
}

func TestLoseDisk(t *testing.T) {
	kept := func(name, text string) impl.File { return impl.File{Name: name, Text: text, Kept: len(text)} }
	d, f := kept("d", "678"), kept("f", "")
	for _, c := range []struct {
		left int
		text string
	}{
		{math.MinInt, "12"}, {-6, "12"}, {-1, "12"}, {0, "12"}, {1, "12"}, {2, "12"}, {3, "123"},
		{4, "1234"}, {5, "12345"}, {6, "12345"}, {math.MaxInt, "12345"},
	} {
		want := diskOf(kept("b", c.text), d, f)
		wantLost(t, smallDisk(), []int{c.left}, want)
		wantLost(t, smallDisk(), []int{c.left, 0, 0}, want)
		wantLost(t, smallDisk(), []int{c.left, -5, 9, 4, 1, math.MaxInt}, want)
		wantLost(t, smallDisk(), []int{c.left, math.MaxInt}, want)
	}
	wantLost(t, smallDisk(), nil, diskOf(kept("b", "12"), d, f))
	wantLost(t, smallDisk(), []int{}, diskOf(kept("b", "12"), d, f))
	wantLost(t, impl.Disk{}, nil, impl.Disk{})
	wantLost(t, impl.Disk{}, []int{1, 2}, impl.Disk{})
	two := diskOf(impl.File{Name: "a", Text: "123"}, impl.File{Name: "b", Text: "456"})
	wantLost(t, two, nil, diskOf(kept("a", ""), kept("b", "")))
	wantLost(t, two, []int{2}, diskOf(kept("a", "12"), kept("b", "")))
	wantLost(t, two, []int{0, 1}, diskOf(kept("a", ""), kept("b", "4")))
	wantLost(t, two, []int{3, -1}, diskOf(kept("a", "123"), kept("b", "")))
	wantLost(t, two, []int{-1, 4, 5}, diskOf(kept("a", ""), kept("b", "456")))
}

func TestCutActs(t *testing.T) {
	list := []impl.Act{actAdd("b", "6"), actAdd("a", "new"), actKeep("b"), actMove("b", "d"), actDrop("f")}
	left := []int{1, 4}
	for whole := range len(list) + 1 {
		before, done := impl.DoActs(smallDisk(), list[:whole])
		want, _ := impl.LoseDisk(before, left)
		if got, ok := impl.CutActs(smallDisk(), list, whole, left); done != whole || !ok || !sameDisk(got, want) {
			t.Errorf("CutActs at %d = %v, %v; want %v", whole, got, ok, want)
		}
	}
	// Its place is that of the disk behind the acts: a new file ahead takes the first number.
	want := diskOf(impl.File{Name: "a", Text: "n", Kept: 1}, impl.File{Name: "b", Text: "1234", Kept: 4}, impl.File{Name: "d", Text: "678", Kept: 3}, impl.File{Name: "f"})
	if got, ok := impl.CutActs(smallDisk(), list, 2, left); !ok || !sameDisk(got, want) {
		t.Errorf("CutActs at 2 = %v, %v; want %v", got, ok, want)
	}
	for _, whole := range []int{-1, len(list) + 1, math.MinInt, math.MaxInt} {
		if got, ok := impl.CutActs(smallDisk(), list, whole, left); ok || len(got.Files) != 0 {
			t.Errorf("CutActs at %d = %v, %v; want no files, false", whole, got, ok)
		}
	}
	if got, ok := impl.CutActs(smallDisk(), list[:2:len(list)], 3, left); ok || len(got.Files) != 0 {
		t.Errorf("CutActs at an act in the room behind the list = %v, %v; want no files, false", got, ok)
	}
	for _, whole := range []int{-1, 1} {
		if got, ok := impl.CutActs(smallDisk(), nil, whole, nil); ok || len(got.Files) != 0 {
			t.Errorf("CutActs of no acts at %d = %v, %v; want no files, false", whole, got, ok)
		}
	}
	for at := range len(list) + 1 {
		broken := slices.Insert(slices.Clone(list), at, actDrop("none"))
		for whole := range len(broken) + 1 {
			got, ok := impl.CutActs(smallDisk(), broken, whole, left)
			want, _ := impl.CutActs(smallDisk(), list, min(whole, at), left)
			if whole > at { // the false one is among the first
				want = impl.Disk{}
			}
			if ok != (whole <= at) || !sameDisk(got, want) {
				t.Errorf("CutActs at %d, with a false act at %d, = %v, %v; want %v", whole, at, got, ok, want)
			}
		}
	}
}

// actByWords follows the document's words with a list of files, without a map.
func actByWords(d impl.Disk, a impl.Act) (impl.Disk, bool) {
	files := slices.Clone(d.Files)
	at := slices.IndexFunc(files, func(f impl.File) bool { return f.Name == a.Name })
	if a.Kind == impl.ActAdd && at < 0 {
		at = len(files)
		files = append(files, impl.File{Name: a.Name})
	}
	if !impl.DiskOk(d) || at < 0 || a.Kind != impl.ActMove && a.To != "" || a.Kind != impl.ActAdd && a.Text != "" {
		return impl.Disk{}, false
	}
	switch a.Kind {
	case impl.ActAdd:
		files[at].Text += a.Text
	case impl.ActKeep:
		files[at].Kept = len(files[at].Text)
	case impl.ActMove:
		if files[at].Kept != len(files[at].Text) || a.To == a.Name {
			return impl.Disk{}, false
		}
		moved := impl.File{Name: a.To, Text: files[at].Text, Kept: files[at].Kept}
		files = slices.DeleteFunc(files, func(f impl.File) bool { return f.Name == a.Name || f.Name == a.To })
		files = append(files, moved)
	case impl.ActDrop:
		files = slices.Delete(files, at, at+1)
	default:
		return impl.Disk{}, false
	}
	slices.SortFunc(files, func(one, other impl.File) int { return strings.Compare(one.Name, other.Name) })
	if !impl.DiskOk(impl.Disk{Files: files}) {
		return impl.Disk{}, false
	}
	return impl.Disk{Files: files}, true
}

// drawnNumber goes on by a fixed rule, so that each run draws the same lives.
type drawnNumber uint64

func (n *drawnNumber) below(limit int) int {
	*n = *n*6364136223846793005 + 1442695040888963407
	return int(uint64(*n)>>33) % limit
}

func (n *drawnNumber) act(names int) impl.Act {
	a := impl.Act{Kind: 1 + n.below(4), Name: "f" + strconv.Itoa(n.below(names))}
	switch {
	case a.Kind == impl.ActAdd:
		a.Text = everyByte()[n.below(99):][:n.below(7)]
	case a.Kind == impl.ActMove:
		a.To = "f" + strconv.Itoa(n.below(names))
	case a.Kind == impl.ActDrop && n.below(3) > 0: // so that files live for a while
		a.Kind = impl.ActKeep
	}
	switch n.below(40) {
	case 0:
		a.Kind = n.below(7) - 1
	case 1:
		a.Text = "?"
	case 2:
		a.To = "f1"
	case 3:
		a.Name = ""
	}
	return a
}

func TestDrawnActs(t *testing.T) {
	drawn := drawnNumber(3)
	for _, names := range []int{2, 5, 60} {
		d, list, truths := impl.Disk{}, []impl.Act{}, 0
		for range 3000 {
			a := drawn.act(names)
			want, ok := actByWords(d, a)
			got, same := impl.DoAct(d, a)
			if same != ok || !sameDisk(got, want) {
				t.Fatalf("DoAct(%s, %s) = %s, %v; want %s, %v", tell(d), tell(a), tell(got), same, tell(want), ok)
			}
			if !ok {
				continue
			}
			if !impl.DiskOk(got) {
				t.Fatalf("DoAct(%s, %s) = %s, which is not right", tell(d), tell(a), tell(got))
			}
			d, list, truths = got, append(list, a), truths+1
		}
		if got, done := impl.DoActs(impl.Disk{}, list); done != truths || !sameDisk(got, d) {
			t.Errorf("DoActs of %d true acts is another disk, or %d", truths, done)
		}
	}
}

// What is kept is never lost; of what is not kept a beginning is left.
func TestWhatIsKeptIsNeverLost(t *testing.T) {
	drawn, d, lost := drawnNumber(7), impl.Disk{}, 0
	for range 4000 {
		if next, ok := impl.DoAct(d, drawn.act(12)); ok {
			d = next
		}
		left := []int{}
		for range drawn.below(15) {
			left = append(left, drawn.below(12)-2)
		}
		got, ok := impl.LoseDisk(d, left)
		if !ok || len(got.Files) != len(d.Files) || !impl.AllKept(got) {
			t.Fatalf("LoseDisk(%s, %v) = %s, %v", tell(d), left, tell(got), ok)
		}
		for i, f := range got.Files {
			was := d.Files[i]
			told := 0
			if i < len(left) {
				told = min(max(left[i], 0), len(was.Text))
			}
			if f.Name != was.Name || !strings.HasPrefix(was.Text, f.Text) || !strings.HasPrefix(f.Text, was.Text[:was.Kept]) {
				t.Fatalf("of %s, LoseDisk left %s", tell(was), tell(f))
			}
			if len(f.Text) != max(told, was.Kept) {
				t.Fatalf("of %s, of which %d are told, LoseDisk left %s", tell(was), told, tell(f))
			}
			lost += len(was.Text) - len(f.Text)
		}
		if drawn.below(50) == 0 {
			d = got
		}
	}
	if lost == 0 {
		t.Error("nothing was ever lost")
	}
}

// filesWithin are the files, with others in the spare room behind them.
func filesWithin(files []impl.File) []impl.File {
	room := slices.Clone(files)
	for range 4 {
		room = append(room, impl.File{Name: "spare", Text: "room", Kept: 1})
	}
	return room[:len(files):len(room)]
}

func diskShares(whole, part impl.Disk) bool {
	for i := range whole.Files {
		for j := range part.Files {
			one, other := &whole.Files[i], &part.Files[j]
			if one == other || sharesMemory(one.Name, other.Name) || sharesMemory(one.Text, other.Text) {
				return true
			}
		}
	}
	return false
}

func TestFilesLeaveArgumentsAlone(t *testing.T) {
	list := []impl.Act{
		actAdd(strings.Repeat("a", 4), strings.Repeat("new", 3)), actAdd("b", strings.Repeat("6", 3)), actKeep("b"),
		actMove("b", strings.Repeat("d", 2)), actDrop("f"), actDrop("none"),
	}
	left := []int{1, 2, 3, 4}
	for _, from := range []impl.Disk{smallDisk(), fullDisk(impl.MaxFiles - 2), diskOf(impl.File{Name: "z", Text: "99", Kept: 1}, impl.File{Name: "b"})} {
		d := impl.Disk{Files: filesWithin(from.Files)}
		acts := append(slices.Clone(list), impl.Act{Kind: 9})[:len(list)]
		numbers := append(slices.Clone(left), 77)[:len(left)]
		for _, answer := range everyFileAnswer(d, acts, numbers) {
			if diskShares(d, answer) {
				t.Errorf("an answer shares memory with the disk %s", tell(d))
			}
			for _, a := range acts {
				for _, f := range answer.Files {
					if sharesMemory(a.Name, f.Name) || sharesMemory(a.To, f.Name) || sharesMemory(a.Text, f.Text) {
						t.Errorf("%s of an answer shares memory with the act %s", tell(f), tell(a))
					}
				}
			}
			for i := range answer.Files {
				answer.Files[i] = impl.File{Name: "!"}
			}
		}
		wantUntouched := impl.Disk{Files: filesWithin(from.Files)}
		if !slices.Equal(d.Files[:cap(d.Files)], wantUntouched.Files[:len(from.Files)+4]) {
			t.Errorf("the files, or the room behind them, are now %s", tell(d.Files[:cap(d.Files)]))
		}
		if !slices.Equal(acts, list) || acts[:len(list)+1][len(list)].Kind != 9 {
			t.Errorf("the acts, or the room behind them, are now %s", tell(acts[:len(list)+1]))
		}
		if !slices.Equal(numbers, left) || numbers[:len(left)+1][len(left)] != 77 {
			t.Errorf("the numbers, or the room behind them, are now %v", numbers[:len(left)+1])
		}
	}
	d := smallDisk()
	d.Files[0].Text = strings.Repeat("12345", 2)
	if text, ok := impl.FileAt(d, "b"); !ok || sharesMemory(d.Files[0].Text, text) {
		t.Error("what FileAt answers is the Text of the file")
	}
}

// everyFileAnswer has the disks that the functions answer, of each beginning of the acts too.
func everyFileAnswer(d impl.Disk, acts []impl.Act, left []int) []impl.Disk {
	answers := []impl.Disk{}
	for _, a := range acts {
		answer, _ := impl.DoAct(d, a)
		answers = append(answers, answer)
	}
	for whole := range len(acts) + 1 {
		answer, _ := impl.DoActs(d, acts[:whole])
		cut, _ := impl.CutActs(d, acts, whole, left)
		answers = append(answers, answer, cut)
	}
	lost, _ := impl.LoseDisk(d, left)
	none, _ := impl.LoseDisk(d, nil)
	return append(answers, lost, none)
}
