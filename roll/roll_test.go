package roll_test

import (
	"bytes"
	"encoding/binary"
	"fmt"
	"math"
	"math/rand"
	"slices"
	"testing"

	"mirador/api"
	"mirador/disk"
	"mirador/frame"
	"mirador/roll"
)

// The chapters' limits and sizes, as numbers of the test's own.
const (
	maxDisk  = 65536
	files    = 3
	headSize = 8
	fuse     = 50 // more calls than any one of the roll's makes
)

// noFiles are numbers of no file: just outside, and far away, and such as are a file's when they are cut to fewer bits.
var noFiles = []int{-1, files, -2, -3, files + 1, 255, 256, -256, 1 << 16, 1 << 32, 1<<32 + 1, -1 << 32, math.MaxInt, math.MinInt, math.MinInt + 1}

// brief is a thing's text, cut where it is long.
func brief(x any) string {
	s := fmt.Sprint(x)
	return s[:min(len(s), 300)]
}

// summed is the sum of bytes by the words of layer 11's chapter, bit by bit.
func summed(b []byte) uint32 {
	sum := uint32(0xFFFFFFFF)
	for _, x := range b {
		sum ^= uint32(x)
		for range 8 {
			odd := sum%2 == 1
			sum /= 2
			if odd {
				sum ^= 0x82F63B78
			}
		}
	}
	return sum ^ 0xFFFFFFFF
}

// frameOf is a body's frame by the words of layer 19's chapter.
func frameOf(body []byte) []byte {
	number := binary.BigEndian.AppendUint32(nil, uint32(len(body)))
	sum := summed(slices.Concat(number, body))
	return slices.Concat(binary.BigEndian.AppendUint32(number, sum), body)
}

// rowOf are the frames of bodies, one behind the other.
func rowOf(bodies ...[]byte) []byte {
	var b []byte
	for _, body := range bodies {
		b = append(b, frameOf(body)...)
	}
	return b
}

// wholeAt tells how many bytes the body has whose whole frame stands at the beginning, 0: there is none.
func wholeAt(b []byte) int {
	if len(b) < headSize {
		return 0
	}
	many := uint64(binary.BigEndian.Uint32(b))
	if many < 1 || many > maxDisk || uint64(len(b)) < headSize+many {
		return 0
	}
	if !bytes.Equal(b[:headSize], frameOf(b[headSize : headSize+many])[:headSize]) {
		return 0
	}
	return int(many)
}

// bodiesOf are the bodies of what a file holds, and the size at which its tail begins.
func bodiesOf(b []byte) ([][]byte, int) {
	var l [][]byte
	at := 0
	for {
		many := wholeAt(b[at:])
		if many == 0 {
			return l, at
		}
		l = append(l, b[at+headSize:at+headSize+many])
		at += headSize + many
	}
}

// openBy does to a disk that New made what the chapter's words say of Open.
func openBy(d *disk.Disk, file int) api.Errno {
	if file < 0 || file > 2 {
		return api.ErrArg
	}
	if d.Down() {
		return api.ErrDown
	}
	if _, end := bodiesOf(d.Read(file)); end != len(d.Read(file)) {
		if e := d.Cut(file, end); e != api.OK {
			return e
		}
	}
	if d.Units(file) != 0 {
		return d.Sync(file)
	}
	return api.OK
}

// appendBy does to a disk what the chapter's words say of Append.
func appendBy(d *disk.Disk, file int, body []byte) api.Errno {
	if len(body) == 0 || len(body) > maxDisk {
		return api.ErrArg
	}
	if e := d.Append(file, frameOf(body)); e != api.OK {
		return e
	}
	return d.Sync(file)
}

// clearBy does to a disk what the chapter's words say of Clear.
func clearBy(d *disk.Disk, file int) api.Errno {
	if e := d.Cut(file, 0); e != api.OK {
		return e
	}
	return d.Sync(file)
}

// sameDisk fails, unless two disks tell the same, and do so behind crashes with each number of units, too.
func sameDisk(t *testing.T, what string, got, want *disk.Disk) {
	t.Helper()
	if got.Used() != want.Used() || got.Room() != want.Room() || got.Fuse() != want.Fuse() || got.Down() != want.Down() {
		t.Fatalf("%s: used %d, room %d, fuse %d, down %v; not %d, %d, %d, %v", what, got.Used(), got.Room(), got.Fuse(), got.Down(), want.Used(), want.Room(), want.Fuse(), want.Down())
	}
	units := 0
	for f := range files {
		if !bytes.Equal(got.Read(f), want.Read(f)) || !bytes.Equal(got.Kept(f), want.Kept(f)) || got.Units(f) != want.Units(f) {
			t.Fatalf("%s: the file %d holds %s, kept %s, %d units; not %s, %s, %d", what, f, brief(got.Read(f)), brief(got.Kept(f)), got.Units(f), brief(want.Read(f)), brief(want.Kept(f)), want.Units(f))
		}
		units = max(units, got.Units(f))
	}
	for n := range units + 1 {
		g, w := got.Clone(), want.Clone()
		g.Crash(n, n, n)
		w.Crash(n, n, n)
		for f := range files {
			if !bytes.Equal(g.Read(f), w.Read(f)) {
				t.Fatalf("%s: behind a crash with %d units the file %d holds %s, not %s", what, n, f, brief(g.Read(f)), brief(w.Read(f)))
			}
		}
	}
}

// want fails, unless an answer is this one.
func want(t *testing.T, what string, got, want api.Errno) {
	t.Helper()
	if got != want {
		t.Fatalf("%s: %d, not %d", what, got, want)
	}
}

// newDisk is a disk with this room.
func newDisk(t *testing.T, room int) *disk.Disk {
	t.Helper()
	d, e := disk.New(room)
	want(t, "disk.New", e, api.OK)
	return d
}

// busy is a disk with this room, whose files but this one have something kept, and something that is not: 12 bytes in all.
func busy(t *testing.T, room, file int) *disk.Disk {
	t.Helper()
	d := newDisk(t, room)
	for f := range files {
		if f != file {
			want(t, "Append", d.Append(f, []byte{1, 2, 3, byte(f)}), api.OK)
			want(t, "Sync", d.Sync(f), api.OK)
			want(t, "Append", d.Append(f, []byte{5, 6}), api.OK)
			want(t, "Cut", d.Cut(f, 3), api.OK)
		}
	}
	return d
}

// laid lays bytes to a file that are kept, and bytes that are not.
func laid(t *testing.T, d *disk.Disk, file int, kept, more []byte) {
	t.Helper()
	if len(kept) > 0 {
		want(t, "Append", d.Append(file, kept), api.OK)
		want(t, "Sync", d.Sync(file), api.OK)
	}
	if len(more) > 0 {
		want(t, "Append", d.Append(file, more), api.OK)
	}
}

// goDown lets a disk go down, by a call that does nothing.
func goDown(t *testing.T, d *disk.Disk) {
	t.Helper()
	d.Arm(1)
	want(t, "Sync with a fuse of 1", d.Sync(0), api.ErrDown)
}

// opened is a roll of a file.
func opened(t *testing.T, d *disk.Disk, file int) *roll.Roll {
	t.Helper()
	r, e := roll.Open(d, file)
	if r == nil || e != api.OK {
		t.Fatalf("Open of the file %d: %v, %d", file, r != nil, e)
	}
	return r
}

// refused opens no roll.
func refused(t *testing.T, what string, d *disk.Disk, file int, e api.Errno) {
	t.Helper()
	if r, got := roll.Open(d, file); r != nil || got != e {
		t.Fatalf("%s: Open of the file %d: a roll is %v, %d, not %d", what, file, r != nil, got, e)
	}
}

// tells fails, unless a roll tells just these bodies, and so many bytes, and changes nothing by that.
func tells(t *testing.T, what string, r *roll.Roll, size int, bodies ...[]byte) {
	t.Helper()
	if got := r.Bodies(); !slices.EqualFunc(got, bodies, bytes.Equal) {
		t.Fatalf("%s: the bodies %s, not %s", what, brief(got), brief(bodies))
	}
	if r.Len() != len(bodies) || r.Size() != size {
		t.Fatalf("%s: Len %d, Size %d; not %d, %d", what, r.Len(), r.Size(), len(bodies), size)
	}
}

// tellsFile fails, unless a roll tells what a file of the disk holds by the chapter's words.
func tellsFile(t *testing.T, what string, r *roll.Roll, d *disk.Disk, file int) {
	t.Helper()
	b := d.Read(file)
	bodies, _ := bodiesOf(b)
	tells(t, what, r, len(b), bodies...)
}

// counted fails, unless so many calls counted since the disk was armed with the test's fuse.
func counted(t *testing.T, what string, d *disk.Disk, calls int) {
	t.Helper()
	if d.Fuse() != fuse-calls {
		t.Fatalf("%s: %d calls counted, not %d", what, fuse-d.Fuse(), calls)
	}
}

// drawn are bytes that a draw of the test's own makes.
func drawn(r *rand.Rand, n int) []byte {
	b := make([]byte, n)
	r.Read(b)
	return b
}

// drawnBodies are so many bodies of few bytes.
func drawnBodies(r *rand.Rand, n int) [][]byte {
	var l [][]byte
	for range n {
		l = append(l, drawn(r, 1+r.Intn(6)))
	}
	return l
}

// spoil writes over bytes and their spare room.
func spoil(b []byte) {
	all := b[:cap(b)]
	for i := range all {
		all[i] ^= 0xa5
	}
}

// unmadeDisks are disks that no call made.
func unmadeDisks() map[string]*disk.Disk {
	return map[string]*disk.Disk{"nil": nil, "zero value": {}, "new": new(disk.Disk), "a clone of nil": (*disk.Disk)(nil).Clone()}
}

// tails are bytes with which no frame begins: beginnings of frames, frames whose sum does not fit, and what tells no number of bytes.
func tails() map[string][]byte {
	more := frameOf([]byte{21, 22, 23, 24})
	good := rowOf([]byte{31}, []byte{32, 33})
	l := map[string][]byte{
		"the number 0":                     make([]byte, 4),
		"the number 0, and a frame behind": slices.Concat(make([]byte, 8), good),
		"more bytes 0":                     make([]byte, 30),
		"one more than MaxDisk":            {0, 1, 0, 1, 0, 0, 0, 0, 1, 2, 3},
		"the greatest number":              bytes.Repeat([]byte{255}, 12),
		"MaxDisk, and too few":             append(frameOf(make([]byte, maxDisk))[:headSize], 0, 0, 0),
		"a number below 0":                 {128, 0, 0, 1, 0, 0, 0, 0, 7},
		"a torn frame, and good ones":      slices.Concat(more[:len(more)-1], good),
	}
	for n := 1; n < len(more); n++ {
		l[fmt.Sprint("the first ", n, " bytes of a frame")] = more[:n]
	}
	for at := range more {
		b := bytes.Clone(more)
		b[at] ^= 1
		l[fmt.Sprint("a frame, its byte ", at, " turned")] = b
		l[fmt.Sprint("a frame, its byte ", at, " turned, and good ones")] = slices.Concat(b, good)
	}
	return l
}

// TestP20_Example holds the chapter's example.
func TestP20_Example(t *testing.T) {
	d := newDisk(t, 100)
	want(t, "Append", opened(t, d, 0).Append([]byte{7}), api.OK)
	d.Crash()
	tells(t, "behind a crash", opened(t, d, 0), 9, []byte{7})
}

// TestP20_1_Unmade has disks that no call made, also with files that there are not.
func TestP20_1_Unmade(t *testing.T) {
	for name, d := range unmadeDisks() {
		for _, file := range append([]int{0, 1, 2}, noFiles...) {
			refused(t, name, d, file, api.ErrNil)
		}
	}
}

// TestP20_1_NoSuchFile has numbers of no file, also while the disk is down: nothing is done to any file.
func TestP20_1_NoSuchFile(t *testing.T) {
	for _, down := range []bool{false, true} {
		d := busy(t, 60, -1)
		if down {
			goDown(t, d)
		}
		d.Arm(fuse)
		was := d.Clone()
		for _, file := range noFiles {
			refused(t, fmt.Sprint("down is ", down), d, file, api.ErrArg)
			sameDisk(t, fmt.Sprint("behind Open of the file ", file), d, was)
		}
	}
}

// TestP20_1_Down has a disk that is down: nothing is done to its files, whatever they hold.
func TestP20_1_Down(t *testing.T) {
	for name, l := range map[string][2][]byte{"nothing": {}, "bodies": {rowOf([]byte{1}, []byte{2, 3}), nil}, "bodies that are not kept": {nil, rowOf([]byte{1})}, "a tail": {{0, 0, 0}, nil}, "a tail that is not kept": {rowOf([]byte{1}), {0, 0, 0, 0}}} {
		for file := range files {
			d := busy(t, 100, file)
			laid(t, d, file, l[0], l[1])
			goDown(t, d)
			d.Arm(fuse)
			was := d.Clone()
			refused(t, name, d, file, api.ErrDown)
			sameDisk(t, name, d, was)
			d.Crash()
			opened(t, d, file)
		}
	}
}

// TestP20_1_Whole opens files without a tail: no call counts, but one sync, if steps have units.
func TestP20_1_Whole(t *testing.T) {
	one, two := [][]byte{{7}}, [][]byte{{1, 2, 3}, {4}}
	for name, l := range map[string][2][][]byte{"nothing": {}, "one that is kept": {one, nil}, "one that is not kept": {nil, one}, "both": {one, one}, "more": {two, two}, "more that are kept": {two, nil}, "more that are not kept": {nil, two}} {
		for file := range files {
			d := busy(t, 100, file)
			kept, more := rowOf(l[0]...), rowOf(l[1]...)
			laid(t, d, file, kept, more)
			d.Arm(fuse)
			calls := min(len(more), 1)
			was := d.Clone()
			want(t, name, openBy(was, file), api.OK)
			r := opened(t, d, file)
			counted(t, name, d, calls)
			sameDisk(t, name, d, was)
			all := slices.Concat(kept, more)
			if !bytes.Equal(d.Kept(file), all) || d.Units(file) != 0 {
				t.Errorf("%s: kept %v, not %v", name, d.Kept(file), all)
			}
			tells(t, name, r, len(all), slices.Concat(l[0], l[1])...)
		}
	}
}

// TestP20_1_Units opens files without a tail whose steps have units, but leave what is kept, and files whose steps have no units.
func TestP20_1_Units(t *testing.T) {
	row := rowOf([]byte{7}, []byte{8, 9})
	for name, c := range map[string]struct {
		do    func(d *disk.Disk)
		calls int
	}{
		"no bytes are put":          {func(d *disk.Disk) { d.Append(1, nil); d.Append(1, []byte{}) }, 0},
		"cut to what it has":        {func(d *disk.Disk) { d.Cut(1, len(row)) }, 1},
		"put and cut":               {func(d *disk.Disk) { d.Append(1, []byte{0, 0, 0}); d.Cut(1, len(row)) }, 1},
		"cut and put":               {func(d *disk.Disk) { d.Cut(1, 0); d.Append(1, row) }, 1},
		"cut to one body":           {func(d *disk.Disk) { d.Cut(1, 9) }, 1},
		"cut to nothing":            {func(d *disk.Disk) { d.Cut(1, 0) }, 1},
		"a tail that was made good": {func(d *disk.Disk) { d.Append(1, frameOf([]byte{4})[:5]); d.Append(1, frameOf([]byte{4})[5:]) }, 1},
	} {
		d := busy(t, 100, 1)
		laid(t, d, 1, row, nil)
		c.do(d)
		d.Arm(fuse)
		held := d.Read(1)
		r := opened(t, d, 1)
		counted(t, name, d, c.calls)
		if !bytes.Equal(d.Read(1), held) || !bytes.Equal(d.Kept(1), held) || d.Units(1) != 0 {
			t.Errorf("%s: it holds %v, kept %v, %d units; not %v", name, d.Read(1), d.Kept(1), d.Units(1), held)
		}
		tellsFile(t, name, r, d, 1)
	}
}

// TestP20_1_Tails opens files with each tail, behind bodies and alone, kept, not kept, and kept in part: it is cut off, and what is left is kept.
func TestP20_1_Tails(t *testing.T) {
	for name, tail := range tails() {
		for _, bodies := range [][][]byte{nil, {{7}}, {{1, 2, 3}, {4}, {5, 6}}} {
			row := rowOf(bodies...)
			all := slices.Concat(row, tail)
			for _, kept := range []int{0, len(row), len(row) + 1, len(all) - 1, len(all)} {
				d := busy(t, 200, 2)
				laid(t, d, 2, all[:kept], all[kept:])
				d.Arm(fuse)
				was := d.Clone()
				what := fmt.Sprintf("%s behind %d bodies, %d bytes kept", name, len(bodies), kept)
				want(t, what, openBy(was, 2), api.OK)
				r := opened(t, d, 2)
				counted(t, what, d, 2)
				sameDisk(t, what, d, was)
				if !bytes.Equal(d.Kept(2), row) || !bytes.Equal(d.Read(2), row) || d.Units(2) != 0 {
					t.Fatalf("%s: it holds %v, kept %v, not %v", what, d.Read(2), d.Kept(2), row)
				}
				tells(t, what, r, len(row), bodies...)
			}
		}
	}
}

// TestP20_1_Twice opens a file that had a tail again: nothing is left to be done.
func TestP20_1_Twice(t *testing.T) {
	d := newDisk(t, 60)
	laid(t, d, 0, rowOf([]byte{7}), []byte{1, 2})
	opened(t, d, 0)
	d.Arm(fuse)
	was := d.Clone()
	tells(t, "again", opened(t, d, 0), 9, []byte{7})
	counted(t, "again", d, 0)
	sameDisk(t, "again", d, was)
}

// TestP20_1_FuseAtTheCut lets the disk go down at the cut: the step is done, but nothing is kept.
func TestP20_1_FuseAtTheCut(t *testing.T) {
	for name, tail := range tails() {
		for _, row := range [][]byte{nil, rowOf([]byte{7}, []byte{8, 9})} {
			d := newDisk(t, 200)
			laid(t, d, 1, row, tail)
			d.Arm(1)
			refused(t, name, d, 1, api.ErrDown)
			if !d.Down() || !bytes.Equal(d.Read(1), row) || !bytes.Equal(d.Kept(1), row) || d.Units(1) != len(tail)+1 {
				t.Errorf("%s: it holds %v, kept %v, %d units", name, d.Read(1), d.Kept(1), d.Units(1))
			}
			refused(t, name, d, 1, api.ErrDown)
			d.Crash(0, len(tail))
			if !bytes.Equal(d.Read(1), slices.Concat(row, tail)) {
				t.Errorf("%s: without the cut it holds %v", name, d.Read(1))
			}
			bodies, _ := bodiesOf(row)
			tells(t, name, opened(t, d, 1), len(row), bodies...)
		}
	}
}

// TestP20_1_FuseAtTheSync lets the disk go down at the sync, behind a cut and without one.
func TestP20_1_FuseAtTheSync(t *testing.T) {
	row := rowOf([]byte{7}, []byte{8, 9})
	for name, tail := range tails() {
		d := newDisk(t, 200)
		laid(t, d, 1, row, tail)
		d.Arm(2)
		refused(t, name, d, 1, api.ErrDown)
		if !d.Down() || !bytes.Equal(d.Read(1), row) || !bytes.Equal(d.Kept(1), row) || d.Units(1) != len(tail)+1 {
			t.Errorf("%s: it holds %v, kept %v, %d units", name, d.Read(1), d.Kept(1), d.Units(1))
		}
	}
	d := newDisk(t, 200)
	laid(t, d, 1, nil, row)
	d.Arm(1)
	refused(t, "no tail", d, 1, api.ErrDown)
	if !d.Down() || !bytes.Equal(d.Read(1), row) || len(d.Kept(1)) != 0 || d.Units(1) != len(row) {
		t.Errorf("it holds %v, kept %v, %d units", d.Read(1), d.Kept(1), d.Units(1))
	}
}

// TestP20_1_FuseIsLeft opens with just one call more on the fuse than it needs: it is opened, and the next call that counts goes down.
func TestP20_1_FuseIsLeft(t *testing.T) {
	row := rowOf([]byte{7})
	for calls, l := range [][2][]byte{{row, nil}, {nil, row}, {row, {1, 2, 3}}} {
		d := newDisk(t, 60)
		laid(t, d, 0, l[0], l[1])
		d.Arm(calls + 1)
		r := opened(t, d, 0)
		tells(t, "opened", r, 9, []byte{7})
		want(t, "Append", r.Append([]byte{8}), api.ErrDown)
	}
}

// TestP20_1_Great opens files as great as there are, with many bodies and with one.
func TestP20_1_Great(t *testing.T) {
	for _, bodies := range [][][]byte{slices.Repeat([][]byte{{9}}, maxDisk/9), {make([]byte, maxDisk-headSize)}} {
		d := newDisk(t, maxDisk)
		row := rowOf(bodies...)
		laid(t, d, 0, row, make([]byte, maxDisk-len(row)))
		tells(t, "a great file", opened(t, d, 0), len(row), bodies...)
	}
	d := newDisk(t, maxDisk)
	laid(t, d, 0, nil, frameOf(make([]byte, maxDisk))[:maxDisk])
	tells(t, "a body that is too great for any disk", opened(t, d, 0), 0)
}

// TestP20_2_Append puts bodies of many sizes to the end: each is there with its frame, kept, behind two calls.
func TestP20_2_Append(t *testing.T) {
	draw := rand.New(rand.NewSource(1))
	for file := range files {
		d := busy(t, maxDisk, file)
		r := opened(t, d, file)
		other := d.Clone()
		var bodies [][]byte
		for _, n := range []int{1, 2, 3, 7, 8, 9, 1, 255, 256, 257, 1000, 40000} {
			body := drawn(draw, n)
			d.Arm(fuse)
			want(t, "Append", r.Append(body), api.OK)
			counted(t, "Append", d, 2)
			bodies = append(bodies, body)
			row := rowOf(bodies...)
			if !bytes.Equal(d.Read(file), row) || !bytes.Equal(d.Kept(file), row) || d.Units(file) != 0 {
				t.Fatalf("behind %d bytes: it holds %s, kept %s", n, brief(d.Read(file)), brief(d.Kept(file)))
			}
			tells(t, "behind Append", r, len(row), bodies...)
			for f := range files {
				if f != file && (!bytes.Equal(d.Read(f), other.Read(f)) || d.Units(f) != other.Units(f)) {
					t.Fatalf("Append to the file %d changed the file %d", file, f)
				}
			}
		}
		d.Crash()
		tells(t, "behind a crash", opened(t, d, file), len(rowOf(bodies...)), bodies...)
	}
}

// TestP20_2_AnyBytes puts bodies to the end that look like frames, like tails, or like nothing.
func TestP20_2_AnyBytes(t *testing.T) {
	d := newDisk(t, 1000)
	r := opened(t, d, 0)
	bodies := [][]byte{{0}, {0, 0, 0, 0}, {255}, frameOf([]byte{1, 2}), frameOf([]byte{1, 2})[:5], {0, 0, 0, 1, 0, 0, 0, 0, 9}, {0}, bytes.Repeat([]byte{255}, 20)}
	for i, body := range bodies {
		want(t, "Append", r.Append(body), api.OK)
		tells(t, "behind Append", r, len(rowOf(bodies[:i+1]...)), bodies[:i+1]...)
	}
	tells(t, "opened again", opened(t, d, 0), len(rowOf(bodies...)), bodies...)
}

// TestP20_2_None has bodies that are none: nothing counts, whether there is room, and whether the disk is up.
func TestP20_2_None(t *testing.T) {
	far := make([]byte, 1<<25)
	none := map[string][]byte{"nil": nil, "no byte": {}, "no byte, with spare room": make([]byte, 0, 9), "one byte too many": far[:maxDisk+1], "many": far[:2*maxDisk], "far too many": far, "as many as 1 in three bytes": far[:1<<24+1]}
	for _, room := range []int{21, 60, maxDisk} {
		for _, down := range []bool{false, true} {
			d := busy(t, room, 0)
			laid(t, d, 0, rowOf([]byte{7}), nil)
			r := opened(t, d, 0)
			want(t, "Append", d.Append(1, []byte{1}), api.OK)
			if down {
				goDown(t, d)
			}
			d.Arm(fuse)
			was := d.Clone()
			for name, body := range none {
				want(t, name, r.Append(body), api.ErrArg)
				sameDisk(t, name, d, was)
			}
			tells(t, "behind all that", r, 9, []byte{7})
		}
	}
}

// TestP20_2_MaxDisk has the greatest body: it may be one, but no disk has the room for its frame.
func TestP20_2_MaxDisk(t *testing.T) {
	body := make([]byte, maxDisk)
	d := newDisk(t, maxDisk)
	r := opened(t, d, 0)
	d.Arm(fuse)
	was := d.Clone()
	for n := maxDisk - headSize + 1; n <= maxDisk; n++ {
		want(t, fmt.Sprint(n, " bytes"), r.Append(body[:n]), api.ErrDisk)
	}
	sameDisk(t, "behind bodies that are too great", d, was)
	want(t, "the greatest one that there is room for", r.Append(body[:maxDisk-headSize]), api.OK)
	tells(t, "the greatest one", r, maxDisk, body[:maxDisk-headSize])
	goDown(t, d)
	want(t, "while it is down", r.Append(body), api.ErrDown)
}

// TestP20_2_Room has just room enough, and one byte too little: then nothing counts, and nothing is synced.
func TestP20_2_Room(t *testing.T) {
	for size := 1; size <= 20; size++ {
		body := bytes.Repeat([]byte{9}, size)
		for _, spare := range []int{0, 1} {
			d := busy(t, 12+9+headSize+size-spare, 0)
			laid(t, d, 0, rowOf([]byte{7}), nil)
			r := opened(t, d, 0)
			d.Arm(fuse)
			was := d.Clone()
			if spare == 1 {
				want(t, "one byte too little", r.Append(body), api.ErrDisk)
				sameDisk(t, "one byte too little", d, was)
				tells(t, "one byte too little", r, 9, []byte{7})
				continue
			}
			want(t, "just room enough", r.Append(body), api.OK)
			counted(t, "just room enough", d, 2)
			tells(t, "just room enough", r, d.Size(0), []byte{7}, body)
			if d.Used() != d.Room() {
				t.Errorf("used %d of %d", d.Used(), d.Room())
			}
			want(t, "no room at all", r.Append([]byte{1}), api.ErrDisk)
		}
	}
}

// TestP20_2_RoomWithSteps has no room for a body while the file has steps that are not synced: they stay so.
func TestP20_2_RoomWithSteps(t *testing.T) {
	d := newDisk(t, 30)
	r := opened(t, d, 0)
	laid(t, d, 0, nil, rowOf([]byte{1}, []byte{2}))
	d.Arm(fuse)
	was := d.Clone()
	want(t, "Append", r.Append([]byte{1, 2, 3, 4, 5}), api.ErrDisk)
	sameDisk(t, "no room", d, was)
	want(t, "Append", r.Append([]byte{1, 2, 3, 4}), api.OK)
	if d.Units(0) != 0 || len(d.Kept(0)) != 30 {
		t.Errorf("kept %v", d.Kept(0))
	}
}

// TestP20_2_FuseAtTheAppend lets the disk go down at the append: the step is done, but nothing is kept.
func TestP20_2_FuseAtTheAppend(t *testing.T) {
	row, more := rowOf([]byte{7}), frameOf([]byte{8, 9, 10})
	for units := range len(more) + 1 {
		d := newDisk(t, 60)
		r := opened(t, d, 2)
		want(t, "Append", r.Append([]byte{7}), api.OK)
		d.Arm(1)
		want(t, "the fuse is 1", r.Append([]byte{8, 9, 10}), api.ErrDown)
		if !d.Down() || !bytes.Equal(d.Read(2), slices.Concat(row, more)) || !bytes.Equal(d.Kept(2), row) || d.Units(2) != len(more) {
			t.Fatalf("it holds %v, kept %v", d.Read(2), d.Kept(2))
		}
		tells(t, "while it is down", r, len(row)+len(more), []byte{7}, []byte{8, 9, 10})
		want(t, "while it is down", r.Append([]byte{11}), api.ErrDown)
		d.Crash(0, 0, units)
		if units == len(more) {
			tells(t, "all units", opened(t, d, 2), len(row)+len(more), []byte{7}, []byte{8, 9, 10})
		} else {
			tells(t, fmt.Sprint(units, " units"), opened(t, d, 2), len(row), []byte{7})
		}
	}
}

// TestP20_2_FuseAtTheSync lets the disk go down at the sync: the frame is appended, but not kept.
func TestP20_2_FuseAtTheSync(t *testing.T) {
	row, more := rowOf([]byte{7}), frameOf([]byte{8, 9, 10})
	d := newDisk(t, 60)
	r := opened(t, d, 2)
	want(t, "Append", r.Append([]byte{7}), api.OK)
	d.Arm(2)
	want(t, "the fuse is 2", r.Append([]byte{8, 9, 10}), api.ErrDown)
	if !d.Down() || !bytes.Equal(d.Read(2), slices.Concat(row, more)) || !bytes.Equal(d.Kept(2), row) || d.Units(2) != len(more) {
		t.Fatalf("it holds %v, kept %v", d.Read(2), d.Kept(2))
	}
	tells(t, "while it is down", r, len(row)+len(more), []byte{7}, []byte{8, 9, 10})
	d.Crash()
	d.Arm(3)
	want(t, "the fuse is 3", r.Append([]byte{8, 9, 10}), api.OK)
	tells(t, "the fuse is 1 now", r, len(row)+len(more), []byte{7}, []byte{8, 9, 10})
}

// TestP20_2_Down has a disk that is down: nothing is done, with room and without.
func TestP20_2_Down(t *testing.T) {
	for _, room := range []int{9, 10, 60} {
		d := newDisk(t, room)
		r := opened(t, d, 0)
		want(t, "Append", r.Append([]byte{7}), api.OK)
		goDown(t, d)
		d.Arm(fuse)
		was := d.Clone()
		want(t, "Append", r.Append([]byte{8}), api.ErrDown)
		want(t, "Clear", r.Clear(), api.ErrDown)
		sameDisk(t, "while it is down", d, was)
		tells(t, "while it is down", r, 9, []byte{7})
	}
}

// TestP20_2_BehindATail appends where somebody else put a tail to the file: the words tell of no cut there.
func TestP20_2_BehindATail(t *testing.T) {
	for name, tail := range tails() {
		d := newDisk(t, 200)
		r := opened(t, d, 0)
		want(t, name, r.Append([]byte{7}), api.OK)
		laid(t, d, 0, nil, tail)
		twin := d.Clone()
		d.Arm(fuse)
		twin.Arm(fuse)
		want(t, name, r.Append([]byte{8}), appendBy(twin, 0, []byte{8}))
		counted(t, name, d, 2)
		sameDisk(t, name, d, twin)
		tellsFile(t, name, r, d, 0)
	}
}

// TestP20_2_Clear clears files with bodies, without, with a tail, and with steps that are not synced: always by a cut and a sync.
func TestP20_2_Clear(t *testing.T) {
	row := rowOf([]byte{7}, []byte{8, 9})
	for name, l := range map[string][2][]byte{"nothing": {}, "bodies": {row, nil}, "bodies that are not kept": {nil, row}, "both": {row, row}, "a tail": {row, {1, 2, 3}}, "a tail alone": {{1, 2, 3}, nil}} {
		for file := range files {
			d := busy(t, 100, file)
			r := opened(t, d, file)
			laid(t, d, file, l[0], l[1])
			d.Arm(fuse)
			twin := d.Clone()
			want(t, name, clearBy(twin, file), api.OK)
			want(t, name, r.Clear(), api.OK)
			counted(t, name, d, 2)
			sameDisk(t, name, d, twin)
			if d.Size(file) != 0 || len(d.Kept(file)) != 0 || d.Units(file) != 0 || d.Used() != 12 {
				t.Errorf("%s: it holds %v, kept %v, used %d", name, d.Read(file), d.Kept(file), d.Used())
			}
			tells(t, name, r, 0)
			want(t, name, r.Append([]byte{1}), api.OK)
			tells(t, name, r, 9, []byte{1})
		}
	}
}

// TestP20_2_ClearFuse lets the disk go down at the cut, and at the sync: the step is done, but nothing is kept.
func TestP20_2_ClearFuse(t *testing.T) {
	row, more := rowOf([]byte{7}, []byte{8, 9}), rowOf([]byte{10})
	for calls := 1; calls <= 2; calls++ {
		for units := range len(more) + 2 {
			d := newDisk(t, 60)
			r := opened(t, d, 1)
			laid(t, d, 1, row, more)
			d.Arm(calls)
			want(t, "Clear", r.Clear(), api.ErrDown)
			if !d.Down() || d.Size(1) != 0 || !bytes.Equal(d.Kept(1), row) || d.Units(1) != len(more)+1 {
				t.Fatalf("it holds %v, kept %v, %d units", d.Read(1), d.Kept(1), d.Units(1))
			}
			tells(t, "while it is down", r, 0)
			d.Crash(0, units)
			switch units {
			case len(more) + 1:
				tells(t, "it was cut", opened(t, d, 1), 0)
			case len(more):
				tells(t, "it was not cut", opened(t, d, 1), len(row)+len(more), []byte{7}, []byte{8, 9}, []byte{10})
			default:
				tells(t, "some units", opened(t, d, 1), len(row), []byte{7}, []byte{8, 9})
			}
		}
	}
}

// TestP20_3_AsItIsNow changes the file through the disk itself behind Open, and through the roll's own: what is told is what it holds then.
func TestP20_3_AsItIsNow(t *testing.T) {
	d := newDisk(t, 200)
	r := opened(t, d, 0)
	other := opened(t, d, 1)
	tells(t, "nothing", r, 0)
	row := rowOf([]byte{1}, []byte{2, 3}, []byte{4})
	laid(t, d, 0, row, nil)
	tells(t, "three frames", r, 28, []byte{1}, []byte{2, 3}, []byte{4})
	want(t, "Cut", d.Cut(0, 19), api.OK)
	tells(t, "two frames", r, 19, []byte{1}, []byte{2, 3})
	want(t, "Cut", d.Cut(0, 18), api.OK)
	tells(t, "one frame, and a tail", r, 18, []byte{1})
	want(t, "Append", d.Append(0, []byte{3}), api.OK)
	tells(t, "two frames again", r, 19, []byte{1}, []byte{2, 3})
	want(t, "Append", d.Append(0, []byte{0, 0, 0, 1}), api.OK)
	tells(t, "two frames, and a tail", r, 23, []byte{1}, []byte{2, 3})
	d.Crash()
	tells(t, "behind a crash", r, 28, []byte{1}, []byte{2, 3}, []byte{4})
	want(t, "Cut", d.Cut(0, 5), api.OK)
	tells(t, "a tail alone", r, 5)
	want(t, "Cut", d.Cut(0, 0), api.OK)
	tells(t, "nothing again", r, 0)
	want(t, "Sync", r.Sync(0), api.OK)
	tells(t, "the other file", other, 0)
}

// TestP20_3_Tails tells files with each tail that came behind Open.
func TestP20_3_Tails(t *testing.T) {
	for name, tail := range tails() {
		d := newDisk(t, 200)
		r := opened(t, d, 0)
		laid(t, d, 0, nil, tail)
		d.Arm(fuse)
		was := d.Clone()
		tells(t, name, r, len(tail))
		sameDisk(t, name, d, was)
		want(t, name, d.Cut(0, 0), api.OK)
		laid(t, d, 0, rowOf([]byte{7}, []byte{8}), tail)
		tells(t, name, r, 18+len(tail), []byte{7}, []byte{8})
	}
}

// TestP20_3_New changes bodies that were handed in, and that were told: neither the file nor another answer changes.
func TestP20_3_New(t *testing.T) {
	d := newDisk(t, 200)
	r := opened(t, d, 0)
	spare := []byte{1, 2, 3, 4, 5, 6, 7, 8, 9}
	body := spare[:3]
	want(t, "Append", r.Append(body), api.OK)
	if !bytes.Equal(spare, []byte{1, 2, 3, 4, 5, 6, 7, 8, 9}) {
		t.Errorf("a body, or its spare room, was changed: %v", spare)
	}
	spoil(body)
	want(t, "Append", r.Append(spare[3:5]), api.OK)
	row := d.Read(0)
	first, second := r.Bodies(), r.Bodies()
	spoil(first[0])
	first[1] = nil
	tells(t, "behind a change of an answer", r, 21, []byte{1, 2, 3}, []byte{4 ^ 0xa5, 5 ^ 0xa5})
	if !bytes.Equal(second[0], []byte{1, 2, 3}) || !bytes.Equal(d.Read(0), row) || !bytes.Equal(d.Kept(0), row) {
		t.Errorf("an answer was changed: %v", second)
	}
	spoil(second[0])
	if _ = append(second[0], make([]byte, 20)...); !bytes.Equal(second[1], []byte{4 ^ 0xa5, 5 ^ 0xa5}) {
		t.Errorf("two bodies share memory: %v", second)
	}
	third := r.Bodies()
	want(t, "Clear", r.Clear(), api.OK)
	if !slices.EqualFunc(third, [][]byte{{1, 2, 3}, {4 ^ 0xa5, 5 ^ 0xa5}}, bytes.Equal) {
		t.Errorf("an answer was changed by a later call: %v", third)
	}
}

// TestP20_3_TwoFiles has rolls of all files of one disk: each tells its own.
func TestP20_3_TwoFiles(t *testing.T) {
	d := newDisk(t, 100)
	var l []*roll.Roll
	for file := range files {
		l = append(l, opened(t, d, file))
	}
	for i, r := range l {
		for n := range i + 1 {
			want(t, "Append", r.Append([]byte{byte(i), byte(n)}), api.OK)
		}
	}
	tells(t, "the file 0", l[0], 10, []byte{0, 0})
	tells(t, "the file 1", l[1], 20, []byte{1, 0}, []byte{1, 1})
	tells(t, "the file 2", l[2], 30, []byte{2, 0}, []byte{2, 1}, []byte{2, 2})
	want(t, "Clear", l[1].Clear(), api.OK)
	tells(t, "the file 0", l[0], 10, []byte{0, 0})
	tells(t, "the file 1", l[1], 0)
	tells(t, "the file 2", l[2], 30, []byte{2, 0}, []byte{2, 1}, []byte{2, 2})
	d.Arm(1)
	want(t, "Append", l[0].Append([]byte{9}), api.ErrDown)
	want(t, "Append", l[1].Append([]byte{9}), api.ErrDown)
	want(t, "Clear", l[2].Clear(), api.ErrDown)
}

// TestP20_3_OneFile has two rolls of one file: both tell what either did.
func TestP20_3_OneFile(t *testing.T) {
	d := newDisk(t, 100)
	a, b := opened(t, d, 0), opened(t, d, 0)
	want(t, "Append", a.Append([]byte{1}), api.OK)
	want(t, "Append", b.Append([]byte{2}), api.OK)
	want(t, "Append", a.Append([]byte{3}), api.OK)
	for _, r := range []*roll.Roll{a, b, opened(t, d, 0)} {
		tells(t, "all three", r, 27, []byte{1}, []byte{2}, []byte{3})
	}
	want(t, "Clear", b.Clear(), api.OK)
	tells(t, "behind the other one's Clear", a, 0)
	c := *a
	want(t, "Append", c.Append([]byte{4}), api.OK)
	tells(t, "a copy's body", b, 9, []byte{4})
}

// TestP20_3_OtherDisk has rolls of one file of two disks that were one: they are apart.
func TestP20_3_OtherDisk(t *testing.T) {
	d := newDisk(t, 100)
	a := opened(t, d, 0)
	want(t, "Append", a.Append([]byte{1}), api.OK)
	b := opened(t, d.Clone(), 0)
	want(t, "Append", b.Append([]byte{2}), api.OK)
	want(t, "Append", a.Append([]byte{3}), api.OK)
	tells(t, "the one", a, 18, []byte{1}, []byte{3})
	tells(t, "the other", b, 18, []byte{1}, []byte{2})
}

// TestP20_3_Unmade asks rolls that no call made, with bodies that may be and that may not.
func TestP20_3_Unmade(t *testing.T) {
	d := newDisk(t, 100)
	laid(t, d, 0, rowOf([]byte{7}), nil)
	was := d.Clone()
	for name, r := range map[string]*roll.Roll{"nil": nil, "zero value": {}, "new": new(roll.Roll), "with a disk": {Disk: d}, "with a disk that no call made": {Disk: new(disk.Disk)}} {
		for _, body := range [][]byte{nil, {}, {1}, {1, 2, 3}, make([]byte, maxDisk), make([]byte, maxDisk+1)} {
			want(t, name, r.Append(body), api.ErrNil)
		}
		want(t, name, r.Clear(), api.ErrNil)
		tells(t, name, r, 0)
		sameDisk(t, name, d, was)
	}
}

// TestP20_Promoted asks a roll for what its disk tells, and works on that through it.
func TestP20_Promoted(t *testing.T) {
	d := newDisk(t, 100)
	r := opened(t, d, 1)
	want(t, "Append", r.Append([]byte{7}), api.OK)
	if r.Disk != d || r.Room() != 100 || r.Used() != 9 || r.Down() || r.Units(1) != 0 || !bytes.Equal(r.Read(1), frameOf([]byte{7})) {
		t.Errorf("room %d, used %d, down %v", r.Room(), r.Used(), r.Down())
	}
	r.Arm(1)
	want(t, "Cut", r.Cut(1, 0), api.ErrDown)
	r.Crash()
	tells(t, "behind a crash", r, 9, []byte{7})
}

// TestP20_Drawn does drawn calls to rolls, and to their disk, and holds each answer, and the disk behind each, against the chapter's words.
func TestP20_Drawn(t *testing.T) {
	draw := rand.New(rand.NewSource(2))
	told := map[api.Errno]int{}
	for range 400 {
		room := 1 + draw.Intn(1<<(3+draw.Intn(5)))
		d, twin := newDisk(t, room), newDisk(t, room)
		rolls := [files]*roll.Roll{}
		for file := range files {
			rolls[file] = opened(t, d, file)
		}
		for range 50 {
			file := draw.Intn(files)
			var got, by api.Errno
			what := "the disk itself"
			switch draw.Intn(9) {
			case 0, 1, 2:
				body := drawn(draw, draw.Intn(9))
				what = "Append"
				got, by = rolls[file].Append(body), appendBy(twin, file, body)
			case 3:
				what = "Clear"
				got, by = rolls[file].Clear(), clearBy(twin, file)
			case 4, 5:
				what = "Open"
				n := file
				if draw.Intn(9) == 0 {
					n = noFiles[draw.Intn(len(noFiles))]
				}
				var r *roll.Roll
				r, got = roll.Open(d, n)
				by = openBy(twin, n)
				if (r != nil) != (got == api.OK) {
					t.Fatalf("Open: a roll is %v, %d", r != nil, got)
				}
				if r != nil {
					rolls[file] = r
				}
			case 6:
				b := drawn(draw, draw.Intn(9))
				if draw.Intn(2) == 0 {
					b = frameOf(b)[:draw.Intn(len(b)+headSize+1)]
				}
				got, by = d.Append(file, b), twin.Append(file, b)
			case 7:
				n := draw.Intn(d.Size(file) + 1)
				got, by = d.Cut(file, n), twin.Cut(file, n)
			case 8:
				if d.Down() || draw.Intn(6) == 0 {
					units := []int{draw.Intn(40), draw.Intn(40), draw.Intn(40)}
					d.Crash(units...)
					twin.Crash(units...)
				}
				calls := draw.Intn(12)
				d.Arm(calls)
				twin.Arm(calls)
			}
			told[got]++
			want(t, what, got, by)
			sameDisk(t, what, d, twin)
			for file, r := range rolls {
				tellsFile(t, what, r, d, file)
			}
		}
	}
	for _, e := range []api.Errno{api.OK, api.ErrArg, api.ErrDown, api.ErrDisk} {
		if told[e] < 100 {
			t.Errorf("%d was told %d times alone", e, told[e])
		}
	}
}

// again opens a roll behind crashes: the disk goes down in Open, too, at each of so many calls, and each time some units are kept.
func again(t *testing.T, draw *rand.Rand, d *disk.Disk, file, tries int) *roll.Roll {
	t.Helper()
	for range tries {
		d.Arm(1 + draw.Intn(2))
		if _, e := roll.Open(d, file); e != api.OK && e != api.ErrDown {
			t.Fatalf("Open: %d", e)
		}
		d.Crash(draw.Intn(60), draw.Intn(60), draw.Intn(60))
	}
	return opened(t, d, file)
}

// has fails, unless a roll has just these bodies, or these and one more.
func has(t *testing.T, what string, r *roll.Roll, all [][]byte, more []byte) [][]byte {
	t.Helper()
	got := r.Bodies()
	if slices.EqualFunc(got, all, bytes.Equal) {
		return got
	}
	if more == nil || !slices.EqualFunc(got, append(slices.Clone(all), more), bytes.Equal) {
		t.Fatalf("%s: %v, not %v (and perhaps %v)", what, got, all, more)
	}
	return got
}

// TestP20_4_EachCall appends bodies while the disk goes down at each call, crashes with each number of units, and goes down once more at each call of Open, again with each number of units.
func TestP20_4_EachCall(t *testing.T) {
	bodies := [][]byte{{7}, {0, 0, 0, 0}, {1, 2, 3, 4, 5}, {9, 9}}
	for calls := 1; calls <= 2*len(bodies)+1; calls++ {
		d := newDisk(t, 60)
		r := opened(t, d, 0)
		d.Arm(calls)
		var all [][]byte
		var flying []byte
		for _, body := range bodies {
			flying = body
			if e := r.Append(body); e != api.OK {
				want(t, "Append", e, api.ErrDown)
				break
			}
			all = append(all, body)
			flying = nil
		}
		if len(all) != (calls-1)/2 {
			t.Fatalf("a fuse of %d: %d bodies", calls, len(all))
		}
		for units := range d.Units(0) + 1 {
			c := d.Clone()
			c.Crash(units)
			what := fmt.Sprintf("a fuse of %d, %d units", calls, units)
			whole := has(t, what, opened(t, c.Clone(), 0), all, flying)
			if (units == d.Units(0) && flying != nil) != (len(whole) > len(all)) {
				t.Fatalf("%s: %v", what, whole)
			}
			for fuse := 1; fuse <= 2; fuse++ {
				down := c.Clone()
				down.Arm(fuse)
				roll.Open(down, 0)
				for units := range down.Units(0) + 1 {
					c := down.Clone()
					c.Crash(units)
					r := opened(t, c, 0)
					has(t, what+", and down in Open", r, whole, nil)
					want(t, "Append behind all that", r.Append([]byte{5}), api.OK)
					c.Crash()
					has(t, what+", and one more", opened(t, c, 0), append(slices.Clone(whole), []byte{5}), nil)
				}
			}
		}
	}
}

// TestP20_4_Drawn appends and clears by draws, on a disk that crashes by draws, and opens the roll again each time: all that was answered OK is there, and at most the one body in flight behind it.
func TestP20_4_Drawn(t *testing.T) {
	draw := rand.New(rand.NewSource(3))
	whole, gone, torn := 0, 0, 0
	for range 500 {
		file := draw.Intn(files)
		d := newDisk(t, 30+draw.Intn(200))
		r := opened(t, d, file)
		var all [][]byte
		for range 30 {
			d.Arm(draw.Intn(9))
			var flying []byte
			cleared := false
			for !d.Down() && draw.Intn(8) > 0 {
				if draw.Intn(9) == 0 {
					e := r.Clear()
					cleared = e != api.OK
					if e == api.OK {
						all = nil
					}
					continue
				}
				body := drawnBodies(draw, 1)[0]
				switch r.Append(body) {
				case api.OK:
					all = append(all, body)
				case api.ErrDown:
					flying = body
				}
			}
			d.Crash(draw.Intn(20), draw.Intn(20), draw.Intn(20))
			size := d.Size(file)
			r = again(t, draw, d, file, draw.Intn(4))
			if cleared && r.Len() == 0 {
				all = nil
			}
			got := has(t, "opened again", r, all, flying)
			switch {
			case len(got) > len(all):
				whole++
			case flying != nil && size > r.Size():
				torn++
			case flying != nil:
				gone++
			}
			all = got
		}
	}
	if whole < 100 || torn < 100 || gone < 100 {
		t.Errorf("of bodies in flight %d were whole, %d torn, %d gone", whole, torn, gone)
	}
}

// TestP20_4_FramesOfLayer19 reads a roll's file with that layer, and a roll what that layer wrapped.
func TestP20_4_FramesOfLayer19(t *testing.T) {
	d := newDisk(t, 100)
	r := opened(t, d, 0)
	bodies := [][]byte{{1, 2, 3}, {4}, {5, 6}}
	for _, body := range bodies {
		want(t, "Append", r.Append(body), api.OK)
	}
	if l, end := frame.Scan(d.Read(0)); !slices.EqualFunc(l, bodies, bytes.Equal) || end != r.Size() {
		t.Errorf("%v, %d", l, end)
	}
	for _, body := range bodies {
		b, e := frame.Encode(body)
		want(t, "Encode", e, api.OK)
		want(t, "Append", d.Append(1, b), api.OK)
	}
	tells(t, "frames of layer 19", opened(t, d, 1), r.Size(), bodies...)
}
