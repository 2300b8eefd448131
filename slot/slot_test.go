package slot_test

import (
	"bytes"
	"encoding/binary"
	"fmt"
	"maps"
	"math"
	"math/rand"
	"slices"
	"testing"

	"mirador/api"
	"mirador/disk"
	"mirador/frame"
	"mirador/slot"
)

// The chapters' limits and sizes, as numbers of the test's own.
const (
	maxDisk  = 65536
	files    = 3
	headSize = 8 // of a frame
	turnSize = 8
	fuse     = 50 // more calls than any one of the slots' makes
	lastTurn = math.MaxUint64
)

// noFiles are numbers of no file: just outside, and far away, and such as are a file's when they are cut to fewer bits.
var noFiles = []int{-1, files, -2, -3, files + 1, 255, 256, -256, 1 << 16, 1 << 32, 1<<32 + 1, -1 << 32, math.MaxInt, math.MinInt, math.MinInt + 1}

// brief is a thing's text, cut where it is long.
func brief(x any) string {
	s := fmt.Sprint(x)
	return s[:min(len(s), 300)]
}

// summed is the sum of bytes by the words of layer 11's chapter, bit by bit.
func summed(b []byte) uint32 {
	sum := uint32(0xFFFFFFFF)
	for _, x := range b {
		sum ^= uint32(x)
		for range 8 {
			odd := sum%2 == 1
			sum /= 2
			if odd {
				sum ^= 0x82F63B78
			}
		}
	}
	return sum ^ 0xFFFFFFFF
}

// frameOf is a body's frame by the words of layer 19's chapter.
func frameOf(body []byte) []byte {
	number := binary.BigEndian.AppendUint32(nil, uint32(len(body)))
	sum := summed(slices.Concat(number, body))
	return slices.Concat(binary.BigEndian.AppendUint32(number, sum), body)
}

// slotOf is what a file holds that has a turn and a snapshot.
func slotOf(turn uint64, snapshot []byte) []byte {
	return frameOf(slices.Concat(binary.BigEndian.AppendUint64(nil, turn), snapshot))
}

// hasBy is the turn and the snapshot of what a file holds, by the chapter's words; the turn 0: it has none.
func hasBy(b []byte) (uint64, []byte) {
	if len(b) < headSize {
		return 0, nil
	}
	many := uint64(binary.BigEndian.Uint32(b))
	if many < turnSize || many > maxDisk || uint64(len(b)) < headSize+many {
		return 0, nil
	}
	body := b[headSize : headSize+many]
	if !bytes.Equal(b[:headSize], frameOf(body)[:headSize]) {
		return 0, nil
	}
	turn := binary.BigEndian.Uint64(body)
	if turn == 0 {
		return 0, nil
	}
	return turn, body[turnSize:]
}

// model is slots by the chapter's words, on a disk of their own.
type model struct {
	d             *disk.Disk
	first, second int
	current       int // -1: none
}

// openBy is what the chapter's words say of Open of a disk that New made.
func openBy(d *disk.Disk, first, second int) (*model, api.Errno) {
	for _, n := range []int{first, second} {
		if n < 0 || n > 2 {
			return nil, api.ErrArg
		}
	}
	if first == second {
		return nil, api.ErrArg
	}
	if d.Down() {
		return nil, api.ErrDown
	}
	m := &model{d, first, second, -1}
	best := uint64(0)
	for _, n := range []int{first, second} {
		if turn, _ := hasBy(d.Read(n)); turn > best {
			best, m.current = turn, n
		}
	}
	return m, api.OK
}

// has is the turn and the snapshot of the current file.
func (m *model) has() (uint64, []byte) {
	if m.current < 0 {
		return 0, nil
	}
	return hasBy(m.d.Read(m.current))
}

// put does what the chapter's words say of Put.
func (m *model) put(snapshot []byte) api.Errno {
	turn, _ := m.has()
	if len(snapshot) > maxDisk-turnSize || turn == lastTurn {
		return api.ErrArg
	}
	to := m.first
	if m.current == m.first {
		to = m.second
	}
	if len(m.d.Read(to)) > 0 || m.d.Units(to) > 0 {
		if e := m.d.Cut(to, 0); e != api.OK {
			return e
		}
		if e := m.d.Sync(to); e != api.OK {
			return e
		}
	}
	if e := m.d.Append(to, slotOf(turn+1, snapshot)); e != api.OK {
		return e
	}
	if e := m.d.Sync(to); e != api.OK {
		return e
	}
	m.current = to
	return api.OK
}

// sameDisk fails, unless two disks tell the same, and do so behind crashes with each number of units, too.
func sameDisk(t *testing.T, what string, got, want *disk.Disk) {
	t.Helper()
	sameNow(t, what, got, want)
	units := 0
	for f := range files {
		units = max(units, got.Units(f))
	}
	for n := range units + 1 {
		g, w := got.Clone(), want.Clone()
		g.Crash(n, n, n)
		w.Crash(n, n, n)
		for f := range files {
			if !bytes.Equal(g.Read(f), w.Read(f)) {
				t.Fatalf("%s: behind a crash with %d units the file %d holds %s, not %s", what, n, f, brief(g.Read(f)), brief(w.Read(f)))
			}
		}
	}
}

// sameNow fails, unless two disks tell the same.
func sameNow(t *testing.T, what string, got, want *disk.Disk) {
	t.Helper()
	if got.Used() != want.Used() || got.Room() != want.Room() || got.Fuse() != want.Fuse() || got.Down() != want.Down() {
		t.Fatalf("%s: used %d, room %d, fuse %d, down %v; not %d, %d, %d, %v", what, got.Used(), got.Room(), got.Fuse(), got.Down(), want.Used(), want.Room(), want.Fuse(), want.Down())
	}
	for f := range files {
		if !bytes.Equal(got.Read(f), want.Read(f)) || !bytes.Equal(got.Kept(f), want.Kept(f)) || got.Units(f) != want.Units(f) {
			t.Fatalf("%s: the file %d holds %s, kept %s, %d units; not %s, %s, %d", what, f, brief(got.Read(f)), brief(got.Kept(f)), got.Units(f), brief(want.Read(f)), brief(want.Kept(f)), want.Units(f))
		}
	}
}

// want fails, unless an answer is this one.
func want(t *testing.T, what string, got, want api.Errno) {
	t.Helper()
	if got != want {
		t.Fatalf("%s: %d, not %d", what, got, want)
	}
}

// newDisk is a disk with this room.
func newDisk(t *testing.T, room int) *disk.Disk {
	t.Helper()
	d, e := disk.New(room)
	want(t, "disk.New", e, api.OK)
	return d
}

// laid is a disk with this room whose files hold these bytes, which are kept.
func laid(t *testing.T, room int, held map[int][]byte) *disk.Disk {
	t.Helper()
	d := newDisk(t, room)
	for f, b := range held {
		want(t, "Append", d.Append(f, b), api.OK)
		want(t, "Sync", d.Sync(f), api.OK)
	}
	return d
}

// goDown lets a disk go down, by a call that does nothing.
func goDown(t *testing.T, d *disk.Disk) {
	t.Helper()
	d.Arm(1)
	want(t, "Sync with a fuse of 1", d.Sync(0), api.ErrDown)
}

// opened are slots of two files.
func opened(t *testing.T, d *disk.Disk, first, second int) *slot.Slots {
	t.Helper()
	s, e := slot.Open(d, first, second)
	if s == nil || e != api.OK {
		t.Fatalf("Open of the files %d and %d: %v, %d", first, second, s != nil, e)
	}
	return s
}

// refused opens no slots.
func refused(t *testing.T, what string, d *disk.Disk, first, second int, e api.Errno) {
	t.Helper()
	if s, got := slot.Open(d, first, second); s != nil || got != e {
		t.Fatalf("%s: Open of the files %d and %d: slots are %v, %d, not %d", what, first, second, s != nil, got, e)
	}
}

// tells fails, unless slots tell just this file, turn and snapshot; the turn 0: no snapshot.
func tells(t *testing.T, what string, s *slot.Slots, file int, turn uint64, snapshot []byte) {
	t.Helper()
	got, ok := s.Get()
	if s.File() != file || s.Turn() != turn || ok != (turn > 0) || !bytes.Equal(got, snapshot) {
		t.Fatalf("%s: the file %d, the turn %d, %s, %v; not %d, %d, %s", what, s.File(), s.Turn(), brief(got), ok, file, turn, brief(snapshot))
	}
}

// tellsAs fails, unless slots tell what a model does.
func tellsAs(t *testing.T, what string, s *slot.Slots, m *model) {
	t.Helper()
	turn, snapshot := m.has()
	tells(t, what, s, m.current, turn, snapshot)
}

// counted fails, unless so many calls counted since the disk was armed with the test's fuse.
func counted(t *testing.T, what string, d *disk.Disk, calls int) {
	t.Helper()
	if d.Fuse() != fuse-calls {
		t.Fatalf("%s: %d calls counted, not %d", what, fuse-d.Fuse(), calls)
	}
}

// drawn are bytes that a draw of the test's own makes.
func drawn(r *rand.Rand, n int) []byte {
	b := make([]byte, n)
	r.Read(b)
	return b
}

// spoil writes over bytes and their spare room.
func spoil(b []byte) {
	all := b[:cap(b)]
	for i := range all {
		all[i] ^= 0xa5
	}
}

// unmadeDisks are disks that no call made.
func unmadeDisks() map[string]*disk.Disk {
	return map[string]*disk.Disk{"nil": nil, "zero value": {}, "new": new(disk.Disk), "a clone of nil": (*disk.Disk)(nil).Clone()}
}

// pairs are all two files that slots may have, in either order.
func pairs() [][2]int {
	return [][2]int{{0, 1}, {1, 0}, {0, 2}, {2, 0}, {1, 2}, {2, 1}}
}

// without are bytes that a file holds that has no snapshot.
func without() map[string][]byte {
	good := slotOf(3, []byte{21, 22, 23})
	l := map[string][]byte{
		"no bytes":                     nil,
		"the number 0":                 make([]byte, 4),
		"bytes 0":                      make([]byte, 40),
		"one more than MaxDisk":        {0, 1, 0, 1, 0, 0, 0, 0, 1, 2, 3},
		"the greatest number":          bytes.Repeat([]byte{255}, 30),
		"the turn 0":                   slotOf(0, []byte{1, 2, 3}),
		"the turn 0, and no more":      slotOf(0, nil),
		"the turn 0, and a good frame": slices.Concat(slotOf(0, nil), good),
		"a short body, and a good one": slices.Concat(frameOf([]byte{0, 0, 0, 9}), good),
		"a byte, and a good frame":     slices.Concat([]byte{0}, good),
		"a torn frame, and a good one": slices.Concat(good[:len(good)-1], good),
	}
	for n := 1; n < turnSize; n++ {
		l[fmt.Sprint("a body of ", n, " bytes 1")] = frameOf(bytes.Repeat([]byte{1}, n))
		l[fmt.Sprint("a body of ", n, " bytes 255")] = frameOf(bytes.Repeat([]byte{255}, n))
	}
	for n := 1; n < len(good); n++ {
		l[fmt.Sprint("the first ", n, " bytes of a frame")] = good[:n]
	}
	for at := range good {
		b := bytes.Clone(good)
		b[at] ^= 1
		l[fmt.Sprint("a frame, its byte ", at, " turned")] = b
	}
	return l
}

// turns are turns that differ in each byte, and about the ends of numbers of fewer bits.
func turns() []uint64 {
	return []uint64{1, 2, 3, 255, 256, 1<<16 + 1, 1<<31 - 1, 1 << 31, 1<<32 - 1, 1 << 32, 1<<32 + 1, 1<<63 - 1, 1 << 63, 1<<63 + 1, lastTurn - 1, lastTurn}
}

// TestP21_Example holds the chapter's example.
func TestP21_Example(t *testing.T) {
	for _, p := range pairs() {
		s := opened(t, newDisk(t, 100), p[0], p[1])
		want(t, "Put of 5", s.Put([]byte{5}), api.OK)
		want(t, "Put of 6", s.Put([]byte{6}), api.OK)
		tells(t, "behind both", s, p[1], 2, []byte{6})
	}
}

// TestP21_1_Unmade has disks that no call made, also with files that there are not, and with one file twice.
func TestP21_1_Unmade(t *testing.T) {
	for name, d := range unmadeDisks() {
		for _, a := range append([]int{0, 1, 2}, noFiles...) {
			for _, b := range append([]int{0, 1, 2}, noFiles...) {
				refused(t, name, d, a, b, api.ErrNil)
			}
		}
	}
}

// TestP21_1_NoSuchFile has numbers of no file, at either place and at both, and one file twice, also while the disk is down: nothing is done to any file.
func TestP21_1_NoSuchFile(t *testing.T) {
	for _, down := range []bool{false, true} {
		d := laid(t, 100, map[int][]byte{0: slotOf(1, []byte{5}), 1: slotOf(2, nil), 2: {1, 2, 3}})
		if down {
			goDown(t, d)
		}
		d.Arm(fuse)
		was := d.Clone()
		what := fmt.Sprint("down is ", down)
		for _, n := range noFiles {
			for file := range files {
				refused(t, what, d, n, file, api.ErrArg)
				refused(t, what, d, file, n, api.ErrArg)
			}
			for _, m := range noFiles {
				refused(t, what, d, n, m, api.ErrArg)
			}
		}
		for file := range files {
			refused(t, what, d, file, file, api.ErrArg)
		}
		sameDisk(t, what, d, was)
	}
}

// TestP21_1_Down has a disk that is down: no slots, and nothing is done; behind a crash there are.
func TestP21_1_Down(t *testing.T) {
	for _, p := range pairs() {
		for _, held := range []map[int][]byte{{}, {p[0]: slotOf(4, []byte{5})}, {p[1]: slotOf(4, []byte{5})}, {p[0]: slotOf(4, nil), p[1]: slotOf(5, nil)}} {
			d := laid(t, 100, held)
			goDown(t, d)
			d.Arm(fuse)
			was := d.Clone()
			refused(t, "down", d, p[0], p[1], api.ErrDown)
			sameDisk(t, "down", d, was)
			d.Crash()
			m, e := openBy(d, p[0], p[1])
			want(t, "behind a crash", e, api.OK)
			tellsAs(t, "behind a crash", opened(t, d, p[0], p[1]), m)
		}
	}
}

// opensAs opens slots, holds them against the chapter's words, and fails, if that did anything to the disk.
func opensAs(t *testing.T, what string, d *disk.Disk, first, second int) *slot.Slots {
	t.Helper()
	d.Arm(fuse)
	was := d.Clone()
	m, e := openBy(d, first, second)
	want(t, what, e, api.OK)
	s := opened(t, d, first, second)
	tellsAs(t, what, s, m)
	counted(t, what, d, 0)
	sameNow(t, what, d, was)
	return s
}

// TestP21_1_Turns opens two files that both have a snapshot: the one of the greater turn is current, of the same turn the first one.
func TestP21_1_Turns(t *testing.T) {
	for _, p := range pairs() {
		for _, one := range turns() {
			for _, two := range turns() {
				d := laid(t, 200, map[int][]byte{p[0]: slotOf(one, []byte{1, 1}), p[1]: slotOf(two, []byte{2, 2, 2})})
				s := opensAs(t, "both", d, p[0], p[1])
				if two > one {
					tells(t, "the second is greater", s, p[1], two, []byte{2, 2, 2})
				} else {
					tells(t, "the first is not less", s, p[0], one, []byte{1, 1})
				}
			}
		}
	}
}

// TestP21_1_One opens two files of which one has a snapshot, or none: the other one has none by each way of that.
func TestP21_1_One(t *testing.T) {
	for _, p := range pairs() {
		for name, b := range without() {
			for _, turn := range turns() {
				good := slotOf(turn, []byte{9, 8})
				s := opensAs(t, name, laid(t, 200, map[int][]byte{p[0]: good, p[1]: b}), p[0], p[1])
				tells(t, name, s, p[0], turn, []byte{9, 8})
				s = opensAs(t, name, laid(t, 200, map[int][]byte{p[0]: b, p[1]: good}), p[0], p[1])
				tells(t, name, s, p[1], turn, []byte{9, 8})
			}
			s := opensAs(t, name, laid(t, 200, map[int][]byte{p[0]: b, p[1]: b}), p[0], p[1])
			tells(t, name, s, -1, 0, nil)
			s = opensAs(t, name, laid(t, 200, map[int][]byte{p[1]: b, 3 - p[0] - p[1]: slotOf(9, nil)}), p[0], p[1])
			tells(t, name, s, -1, 0, nil)
		}
	}
}

// TestP21_1_Snapshots opens files with snapshots of no byte, of few and of many, and with bytes behind the frame.
func TestP21_1_Snapshots(t *testing.T) {
	draw := rand.New(rand.NewSource(1))
	for _, n := range []int{0, 1, 2, 7, 8, 9, 255, 256, 60000, maxDisk - headSize - turnSize} {
		snapshot := drawn(draw, n)
		d := laid(t, maxDisk, map[int][]byte{2: slotOf(7, snapshot)})
		tells(t, fmt.Sprint(n, " bytes"), opensAs(t, "a snapshot", d, 1, 2), 2, 7, snapshot)
	}
	for _, more := range [][]byte{{0}, {1, 2, 3}, slotOf(9, []byte{4}), slotOf(9, []byte{4})[:7], make([]byte, 40)} {
		for _, snapshot := range [][]byte{nil, {5}, {0, 0, 0, 0}, slotOf(9, []byte{4})} {
			d := laid(t, 200, map[int][]byte{1: slices.Concat(slotOf(7, snapshot), more), 2: slotOf(6, []byte{6})})
			tells(t, "bytes behind", opensAs(t, "bytes behind", d, 1, 2), 1, 7, snapshot)
		}
	}
	far := slotOf(7, make([]byte, maxDisk))[:maxDisk]
	tells(t, "a body of more than MaxDisk", opensAs(t, "too many", laid(t, maxDisk, map[int][]byte{0: far}), 0, 1), -1, 0, nil)
}

// TestP21_1_NotKept opens files that hold what is not kept: what they hold counts, and is not synced.
func TestP21_1_NotKept(t *testing.T) {
	for _, p := range pairs() {
		d := newDisk(t, 200)
		want(t, "Append", d.Append(p[1], slotOf(3, []byte{1})), api.OK)
		tells(t, "put", opensAs(t, "put", d, p[0], p[1]), p[1], 3, []byte{1})
		want(t, "Sync", d.Sync(p[1]), api.OK)
		want(t, "Append", d.Append(p[0], slotOf(4, []byte{2})), api.OK)
		tells(t, "put to the other", opensAs(t, "put to the other", d, p[0], p[1]), p[0], 4, []byte{2})
		want(t, "Cut", d.Cut(p[0], 5), api.OK)
		tells(t, "cut", opensAs(t, "cut", d, p[0], p[1]), p[1], 3, []byte{1})
		want(t, "Cut", d.Cut(p[1], 0), api.OK)
		tells(t, "cut to nothing", opensAs(t, "cut to nothing", d, p[0], p[1]), -1, 0, nil)
		d.Crash()
		tells(t, "behind a crash", opensAs(t, "behind a crash", d, p[0], p[1]), p[1], 3, []byte{1})
	}
}

// TestP21_2_Put puts snapshots from none on: each goes to the other file, with the next turn.
func TestP21_2_Put(t *testing.T) {
	draw := rand.New(rand.NewSource(2))
	for _, p := range pairs() {
		apart := 3 - p[0] - p[1]
		d := laid(t, maxDisk, map[int][]byte{apart: slotOf(99, []byte{7})})
		want(t, "Append", d.Append(apart, []byte{1, 2, 3}), api.OK)
		s := opened(t, d, p[0], p[1])
		tells(t, "none", s, -1, 0, nil)
		held := map[int][]byte{}
		for i, n := range []int{3, 1, 0, 0, 1, 8, 9, 255, 256, 20000, 20001, 5} {
			to, snapshot := p[i%2], drawn(draw, n)
			d.Arm(fuse)
			want(t, "Put", s.Put(snapshot), api.OK)
			counted(t, fmt.Sprint("the Put ", i), d, 2+2*min(len(held[to]), 1))
			held[to] = slotOf(uint64(i+1), snapshot)
			tells(t, "behind Put", s, to, uint64(i+1), snapshot)
			for _, file := range p {
				if !bytes.Equal(d.Read(file), held[file]) || !bytes.Equal(d.Kept(file), held[file]) || d.Units(file) != 0 {
					t.Fatalf("behind the Put %d the file %d holds %s, kept %s, not %s", i, file, brief(d.Read(file)), brief(d.Kept(file)), brief(held[file]))
				}
			}
			if d.Units(apart) != 3 || len(d.Kept(apart)) != 17 {
				t.Fatalf("the file %d: %d units", apart, d.Units(apart))
			}
		}
	}
}

// TestP21_2_Bytes puts a snapshot, whose file's bytes are written out here.
func TestP21_2_Bytes(t *testing.T) {
	d := laid(t, 200, map[int][]byte{2: slotOf(0x0102030405060707, nil)})
	s := opened(t, d, 1, 2)
	want(t, "Put", s.Put([]byte{9, 10}), api.OK)
	held := d.Read(1)
	body := []byte{1, 2, 3, 4, 5, 6, 7, 8, 9, 10}
	sum := binary.BigEndian.AppendUint32(nil, summed(append([]byte{0, 0, 0, 10}, body...)))
	if !bytes.Equal(held, slices.Concat([]byte{0, 0, 0, 10}, sum, body)) {
		t.Errorf("it holds %v", held)
	}
	tells(t, "behind Put", s, 1, 0x0102030405060708, []byte{9, 10})
}

// others are ways in which the other file of a Put is: by what it is kept, and what is done then; and whether a cut is needed.
func others() map[string]struct {
	kept []byte
	do   func(d *disk.Disk, file int)
	cut  bool
} {
	old := slotOf(1, []byte{1, 2})
	return map[string]struct {
		kept []byte
		do   func(d *disk.Disk, file int)
		cut  bool
	}{
		"nothing":                     {nil, func(*disk.Disk, int) {}, false},
		"no bytes are put":            {nil, func(d *disk.Disk, f int) { d.Append(f, nil); d.Append(f, []byte{}) }, false},
		"an old snapshot":             {old, func(*disk.Disk, int) {}, true},
		"one byte":                    {[]byte{0}, func(*disk.Disk, int) {}, true},
		"a torn frame":                {old[:5], func(*disk.Disk, int) {}, true},
		"bytes that are not kept":     {nil, func(d *disk.Disk, f int) { d.Append(f, []byte{1, 2, 3}) }, true},
		"more bytes, not kept":        {old, func(d *disk.Disk, f int) { d.Append(f, []byte{1, 2, 3}) }, true},
		"a cut alone, of no bytes":    {nil, func(d *disk.Disk, f int) { d.Cut(f, 0) }, true},
		"bytes, and a cut":            {nil, func(d *disk.Disk, f int) { d.Append(f, []byte{1, 2, 3}); d.Cut(f, 0) }, true},
		"an old snapshot, and a cut":  {old, func(d *disk.Disk, f int) { d.Cut(f, 0) }, true},
		"an old snapshot, cut a bit":  {old, func(d *disk.Disk, f int) { d.Cut(f, 7) }, true},
		"it was cut, and that synced": {old, func(d *disk.Disk, f int) { d.Cut(f, 0); d.Sync(f) }, false},
	}
}

// start is a disk, and slots of it whose current file is the one, or none, of the turn 5; what the other file has is done behind Open.
func start(t *testing.T, current int, p [2]int, kept []byte, do func(d *disk.Disk, file int)) (*disk.Disk, *slot.Slots, int) {
	t.Helper()
	to := p[0]
	held := map[int][]byte{}
	if current == p[0] {
		to = p[1]
	}
	if current >= 0 {
		held[current] = slotOf(5, []byte{50, 51})
	}
	d := laid(t, 120, held)
	s := opened(t, d, p[0], p[1])
	if len(kept) > 0 {
		want(t, "Append", d.Append(to, kept), api.OK)
		want(t, "Sync", d.Sync(to), api.OK)
	}
	do(d, to)
	return d, s, to
}

// TestP21_2_Others puts a snapshot where the other file is in each way: a cut and a sync are done just where it holds bytes, or has units.
func TestP21_2_Others(t *testing.T) {
	for _, p := range pairs() {
		for _, current := range []int{-1, p[0], p[1]} {
			for name, o := range others() {
				d, s, to := start(t, current, p, o.kept, o.do)
				turn := s.Turn()
				d.Arm(fuse)
				m := &model{d.Clone(), p[0], p[1], current}
				want(t, name, m.put([]byte{8, 9}), api.OK)
				want(t, name, s.Put([]byte{8, 9}), api.OK)
				calls := 2
				if o.cut {
					calls = 4
				}
				counted(t, name, d, calls)
				sameDisk(t, name, d, m.d)
				tells(t, name, s, to, turn+1, []byte{8, 9})
				if !bytes.Equal(d.Kept(to), slotOf(turn+1, []byte{8, 9})) || d.Units(to) != 0 {
					t.Fatalf("%s: kept %v", name, d.Kept(to))
				}
			}
		}
	}
}

// TestP21_2_Fuse lets the disk go down at each call of a Put, in each way of the other file: that far it is done, and the current file stays.
func TestP21_2_Fuse(t *testing.T) {
	for _, p := range pairs() {
		for _, current := range []int{-1, p[0], p[1]} {
			for name, o := range others() {
				calls := 2
				if o.cut {
					calls = 4
				}
				for fuse := 1; fuse <= calls+1; fuse++ {
					d, s, to := start(t, current, p, o.kept, o.do)
					turn, was := s.Turn(), []byte(nil)
					if current >= 0 {
						was = []byte{50, 51}
					}
					d.Arm(fuse)
					m := &model{d.Clone(), p[0], p[1], current}
					what := fmt.Sprintf("%s, a fuse of %d", name, fuse)
					if fuse > calls {
						want(t, what, s.Put([]byte{8}), api.OK)
						tells(t, what, s, to, turn+1, []byte{8})
						want(t, what, s.Put([]byte{8}), api.ErrDown)
						tells(t, what, s, to, turn+1, []byte{8})
						continue
					}
					want(t, what, m.put([]byte{8}), api.ErrDown)
					want(t, what, s.Put([]byte{8}), api.ErrDown)
					sameDisk(t, what, d, m.d)
					tells(t, what, s, current, turn, was)
					down := d.Clone()
					want(t, what+", again", s.Put([]byte{9}), api.ErrDown)
					sameDisk(t, what+", again", d, down)
					tells(t, what+", again", s, current, turn, was)
					d.Crash()
					tells(t, what+", behind a crash", s, current, turn, was)
					m, e := openBy(d, p[0], p[1])
					want(t, what, e, api.OK)
					tellsAs(t, what, opened(t, d, p[0], p[1]), m)
				}
			}
		}
	}
}

// TestP21_2_Down puts while the disk is down: nothing is done, also where there is no room, and the current file stays.
func TestP21_2_Down(t *testing.T) {
	for _, p := range pairs() {
		for _, current := range []int{-1, p[0], p[1]} {
			for name, o := range others() {
				d, s, _ := start(t, current, p, o.kept, o.do)
				file, turn := s.File(), s.Turn()
				snapshot, _ := s.Get()
				goDown(t, d)
				d.Arm(fuse)
				was := d.Clone()
				for _, n := range []int{0, 1, 100, 1000, maxDisk - turnSize} {
					want(t, name, s.Put(make([]byte, n)), api.ErrDown)
				}
				for _, n := range []int{maxDisk - turnSize + 1, maxDisk} {
					want(t, name, s.Put(make([]byte, n)), api.ErrArg)
				}
				sameDisk(t, name, d, was)
				tells(t, name, s, file, turn, snapshot)
			}
		}
	}
}

// TestP21_2_TooGreat has snapshots that are too great: nothing counts; the greatest one may be one, but there is no room for its frame on any disk, and the other file is cut all the same.
func TestP21_2_TooGreat(t *testing.T) {
	far := make([]byte, 1<<25)
	for _, p := range pairs() {
		for _, current := range []int{-1, p[0], p[1]} {
			for name, o := range others() {
				d, s, _ := start(t, current, p, o.kept, o.do)
				file, turn := s.File(), s.Turn()
				snapshot, _ := s.Get()
				d.Arm(fuse)
				was := d.Clone()
				for _, n := range []int{maxDisk - turnSize + 1, maxDisk - turnSize + 2, maxDisk - 1, maxDisk, maxDisk + 1, 2 * maxDisk, 1<<24 + 1, len(far)} {
					want(t, name, s.Put(far[:n]), api.ErrArg)
				}
				sameDisk(t, name, d, was)
				tells(t, name, s, file, turn, snapshot)
				m := &model{was, p[0], p[1], current}
				for range 2 {
					want(t, name, s.Put(far[:maxDisk-turnSize]), m.put(far[:maxDisk-turnSize]))
					sameDisk(t, name, d, m.d)
					tells(t, name, s, file, turn, snapshot)
				}
			}
		}
	}
	d := newDisk(t, maxDisk)
	s := opened(t, d, 0, 1)
	want(t, "one byte too little", s.Put(far[:maxDisk-headSize-turnSize+1]), api.ErrDisk)
	tells(t, "one byte too little", s, -1, 0, nil)
	want(t, "just room enough", s.Put(far[:maxDisk-headSize-turnSize]), api.OK)
	tells(t, "just room enough", s, 0, 1, far[:maxDisk-headSize-turnSize])
	want(t, "no room", s.Put(nil), api.ErrDisk)
	tells(t, "no room", s, 0, 1, far[:maxDisk-headSize-turnSize])
}

// TestP21_2_LastTurn puts behind the greatest turn: nothing counts, also while the disk is down; and behind the one ahead of it.
func TestP21_2_LastTurn(t *testing.T) {
	for _, p := range pairs() {
		for i, current := range p {
			to := p[1-i]
			for _, other := range [][]byte{nil, slotOf(lastTurn-2, []byte{6}), slotOf(lastTurn-1, nil), {1, 2, 3}} {
				d := laid(t, 200, map[int][]byte{current: slotOf(lastTurn, []byte{7}), to: other})
				s := opened(t, d, p[0], p[1])
				d.Arm(fuse)
				was := d.Clone()
				for _, n := range []int{0, 1, 500, maxDisk - turnSize, maxDisk - turnSize + 1} {
					want(t, "behind the greatest turn", s.Put(make([]byte, n)), api.ErrArg)
				}
				sameDisk(t, "behind the greatest turn", d, was)
				tells(t, "behind the greatest turn", s, current, lastTurn, []byte{7})
				goDown(t, d)
				want(t, "while it is down", s.Put([]byte{1}), api.ErrArg)
			}
			for _, turn := range turns() {
				if turn == lastTurn {
					continue
				}
				d := laid(t, 200, map[int][]byte{current: slotOf(turn, []byte{7})})
				s := opened(t, d, p[0], p[1])
				want(t, fmt.Sprint("behind ", turn), s.Put([]byte{8}), api.OK)
				tells(t, fmt.Sprint("behind ", turn), s, to, turn+1, []byte{8})
				tells(t, "opened again", opened(t, d, p[0], p[1]), to, turn+1, []byte{8})
				if turn == lastTurn-1 {
					want(t, "once more", s.Put([]byte{9}), api.ErrArg)
					tells(t, "once more", s, to, lastTurn, []byte{8})
				}
			}
		}
	}
}

// TestP21_2_Room has just room enough, and one byte too little: then the other file is empty, and the current one as it was.
func TestP21_2_Room(t *testing.T) {
	old := slotOf(4, []byte{1, 2, 3, 4, 5, 6})
	now := slotOf(5, []byte{50, 51})
	for _, p := range pairs() {
		for size := range 20 {
			for _, held := range [][]byte{nil, old, {1}} {
				for _, spare := range []int{0, 1, 2} {
					room := max(len(now)+max(len(held), headSize+turnSize+size-spare), 1)
					snapshot := bytes.Repeat([]byte{9}, size)
					d := laid(t, room, map[int][]byte{p[0]: now, p[1]: held})
					s := opened(t, d, p[0], p[1])
					d.Arm(fuse)
					m := &model{d.Clone(), p[0], p[1], p[0]}
					got := s.Put(snapshot)
					want(t, "Put", got, m.put(snapshot))
					sameDisk(t, "Put", d, m.d)
					tellsAs(t, "Put", s, m)
					if room >= len(now)+headSize+turnSize+size {
						want(t, "there is room", got, api.OK)
						continue
					}
					want(t, "no room", got, api.ErrDisk)
					tells(t, "no room", s, p[0], 5, []byte{50, 51})
					if d.Size(p[1]) != 0 || len(d.Kept(p[1])) != 0 || d.Units(p[1]) != 0 || !bytes.Equal(d.Kept(p[0]), now) {
						t.Fatalf("the files hold %v and %v", d.Read(p[0]), d.Read(p[1]))
					}
				}
			}
		}
	}
}

// TestP21_2_BehindErrors puts again behind a Put without room: to the same file, with the same turn.
func TestP21_2_BehindErrors(t *testing.T) {
	d := newDisk(t, 60)
	s := opened(t, d, 1, 0)
	want(t, "no room", s.Put(make([]byte, 45)), api.ErrDisk)
	tells(t, "no room", s, -1, 0, nil)
	want(t, "Put", s.Put([]byte{1}), api.OK)
	tells(t, "Put", s, 1, 1, []byte{1})
	for range 3 {
		want(t, "no room", s.Put(make([]byte, 28)), api.ErrDisk)
		tells(t, "no room", s, 1, 1, []byte{1})
	}
	want(t, "Put", s.Put([]byte{2}), api.OK)
	tells(t, "Put", s, 0, 2, []byte{2})
	want(t, "no room", s.Put(make([]byte, 28)), api.ErrDisk)
	tells(t, "no room", s, 0, 2, []byte{2})
	tells(t, "opened again", opened(t, d, 1, 0), 0, 2, []byte{2})
}

// TestP21_1_OtherChanged changes the file that is not current through the disk itself behind Open: the current one stays, whatever the other one has now.
func TestP21_1_OtherChanged(t *testing.T) {
	for _, p := range pairs() {
		for i, current := range p {
			d := laid(t, 400, map[int][]byte{current: slotOf(5, []byte{7})})
			s := opened(t, d, p[0], p[1])
			for _, b := range [][]byte{slotOf(4, nil), slotOf(5, nil), slotOf(6, []byte{8}), slotOf(lastTurn, []byte{9}), {1, 2}} {
				want(t, "Append", d.Append(p[1-i], b), api.OK)
				tells(t, "the other one is changed", s, current, 5, []byte{7})
				want(t, "Sync", d.Sync(p[1-i]), api.OK)
				tells(t, "the other one is synced", s, current, 5, []byte{7})
				c := d.Clone()
				want(t, "Cut", d.Cut(p[1-i], 0), api.OK)
				tells(t, "the other one is cut", s, current, 5, []byte{7})
				opensAs(t, "opened again", c, p[0], p[1])
			}
			want(t, "Append", d.Append(p[1-i], slotOf(77, []byte{8})), api.OK)
			want(t, "Put", s.Put([]byte{1}), api.OK)
			tells(t, "Put", s, p[1-i], 6, []byte{1})
		}
		d := newDisk(t, 100)
		s := opened(t, d, p[0], p[1])
		for i := range p {
			want(t, "Append", d.Append(p[i], slotOf(5, []byte{7})), api.OK)
			tells(t, "there was none", s, -1, 0, nil)
		}
		want(t, "Put", s.Put([]byte{1}), api.OK)
		tells(t, "Put", s, p[0], 1, []byte{1})
	}
}

// TestP21_1_CurrentChanged changes the current file through the disk itself behind Open, and lets it crash: it stays the current one, and its turn and its snapshot are those that it has then.
func TestP21_1_CurrentChanged(t *testing.T) {
	for _, p := range pairs() {
		for i, current := range p {
			d := laid(t, 400, map[int][]byte{p[1-i]: slotOf(2, []byte{6})})
			want(t, "Append", d.Append(current, slotOf(5, []byte{7})), api.OK)
			s := opened(t, d, p[0], p[1])
			tells(t, "as it was", s, current, 5, []byte{7})
			want(t, "Append", d.Append(current, []byte{1, 2, 3}), api.OK)
			tells(t, "more bytes", s, current, 5, []byte{7})
			want(t, "Cut", d.Cut(current, 16), api.OK)
			tells(t, "torn", s, current, 0, nil)
			want(t, "Cut", d.Cut(current, 0), api.OK)
			tells(t, "no bytes", s, current, 0, nil)
			want(t, "Append", d.Append(current, slotOf(1, []byte{8, 9})), api.OK)
			tells(t, "another one", s, current, 1, []byte{8, 9})
			want(t, "Sync", d.Sync(current), api.OK)
			want(t, "Put", s.Put([]byte{3}), api.OK)
			tells(t, "Put", s, p[1-i], 2, []byte{3})
			want(t, "Cut", d.Cut(p[1-i], 5), api.OK)
			tells(t, "torn again", s, p[1-i], 0, nil)
			d.Crash()
			tells(t, "behind a crash", s, p[1-i], 2, []byte{3})
		}
	}
}

// TestP21_1_New changes snapshots that were handed in, and that were told: neither a file nor another answer changes.
func TestP21_1_New(t *testing.T) {
	d := newDisk(t, 200)
	s := opened(t, d, 0, 1)
	spare := bytes.Repeat([]byte{1, 2, 3}, 20)
	snapshot := spare[:3]
	want(t, "Put", s.Put(snapshot), api.OK)
	if !bytes.Equal(spare, bytes.Repeat([]byte{1, 2, 3}, 20)) {
		t.Errorf("a snapshot, or its spare room, was changed: %v", spare)
	}
	spoil(snapshot)
	tells(t, "behind a change of what was handed in", s, 0, 1, []byte{1, 2, 3})
	held := d.Read(0)
	first, _ := s.Get()
	second, _ := s.Get()
	spoil(first)
	tells(t, "behind a change of an answer", s, 0, 1, []byte{1, 2, 3})
	if !bytes.Equal(second, []byte{1, 2, 3}) || !bytes.Equal(d.Read(0), held) || !bytes.Equal(d.Kept(0), held) {
		t.Errorf("an answer was changed: %v", second)
	}
	want(t, "Put", s.Put(second), api.OK)
	spoil(second)
	tells(t, "behind a change of what was told and handed in", s, 1, 2, []byte{1, 2, 3})
	third, _ := s.Get()
	want(t, "Put", s.Put([]byte{4}), api.OK)
	want(t, "Put", s.Put([]byte{5}), api.OK)
	want(t, "Cut", d.Cut(1, 0), api.OK)
	if !bytes.Equal(third, []byte{1, 2, 3}) {
		t.Errorf("an answer was changed by a later call: %v", third)
	}
}

// TestP21_1_Apart has slots of all pairs of one disk, of one disk and its clone, and copies of slots: each has its own current file.
func TestP21_1_Apart(t *testing.T) {
	d := newDisk(t, 200)
	a := opened(t, d, 0, 1)
	want(t, "Put", a.Put([]byte{1}), api.OK)
	c := d.Clone()
	b := opened(t, c, 0, 1)
	want(t, "Put", b.Put([]byte{2}), api.OK)
	tells(t, "the one", a, 0, 1, []byte{1})
	tells(t, "the other", b, 1, 2, []byte{2})
	again := opened(t, d, 1, 0)
	tells(t, "the other order", again, 0, 1, []byte{1})
	want(t, "Put", again.Put([]byte{3}), api.OK)
	tells(t, "the other order", again, 1, 2, []byte{3})
	tells(t, "that was opened ahead", a, 0, 1, []byte{1})
	two := *again
	want(t, "Put", two.Put([]byte{4}), api.OK)
	tells(t, "a copy", &two, 0, 3, []byte{4})
	if again.File() != 1 {
		t.Errorf("a copy's Put made the file %d current", again.File())
	}
}

// TestP21_2_Unmade asks slots that no call made, with snapshots that may be and that may not.
func TestP21_2_Unmade(t *testing.T) {
	for name, s := range map[string]*slot.Slots{"nil": nil, "zero value": {}, "new": new(slot.Slots)} {
		for _, n := range []int{0, 1, 100, maxDisk - turnSize, maxDisk - turnSize + 1, 1 << 20} {
			want(t, name, s.Put(make([]byte, n)), api.ErrNil)
		}
		want(t, name, s.Put(nil), api.ErrNil)
		tells(t, name, s, -1, 0, nil)
	}
}

// TestP21_2_FramesOfLayer19 reads a slot's file with that layer, and slots what that layer wrapped.
func TestP21_2_FramesOfLayer19(t *testing.T) {
	d := newDisk(t, 100)
	s := opened(t, d, 0, 1)
	want(t, "Put", s.Put([]byte{1, 2, 3}), api.OK)
	body, size, e := frame.One(d.Read(0))
	if e != api.OK || size != d.Size(0) || !bytes.Equal(body, []byte{0, 0, 0, 0, 0, 0, 0, 1, 1, 2, 3}) {
		t.Errorf("%v, %d, %d", body, size, e)
	}
	b, e := frame.Encode([]byte{0, 0, 0, 0, 0, 0, 0, 2, 4})
	want(t, "Encode", e, api.OK)
	want(t, "Append", d.Append(1, b), api.OK)
	tells(t, "a frame of layer 19", opened(t, d, 0, 1), 1, 2, []byte{4})
}

// drawnHeld are bytes to put to a file: a slot's, of a turn that is often one of few, whole, torn or turned; or any.
func drawnHeld(r *rand.Rand) []byte {
	turn := uint64(r.Intn(6))
	if r.Intn(5) == 0 {
		turn = turns()[r.Intn(len(turns()))]
	}
	b := slotOf(turn, drawn(r, r.Intn(6)))
	switch r.Intn(6) {
	case 0:
		return b[:r.Intn(len(b))]
	case 1:
		b[r.Intn(len(b))] ^= 1 << r.Intn(8)
	case 2:
		return drawn(r, r.Intn(9))
	}
	return b
}

// TestP21_Drawn does drawn calls to slots, and to their disk, and holds each answer, and the disk behind each, against the chapter's words.
func TestP21_Drawn(t *testing.T) {
	draw := rand.New(rand.NewSource(3))
	told := map[api.Errno]int{}
	for range 1000 {
		room := 1 + draw.Intn(1<<(4+draw.Intn(5)))
		p := pairs()[draw.Intn(6)]
		d, twin := newDisk(t, room), newDisk(t, room)
		s, m := opened(t, d, p[0], p[1]), &model{twin, p[0], p[1], -1}
		for range 40 {
			file := draw.Intn(files)
			var got, by api.Errno
			what := "the disk itself"
			switch draw.Intn(10) {
			case 0, 1, 2, 3:
				snapshot := drawn(draw, draw.Intn(9))
				what = "Put"
				got, by = s.Put(snapshot), m.put(snapshot)
			case 4, 5:
				what = "Open"
				q := p
				if draw.Intn(9) == 0 {
					q[draw.Intn(2)] = noFiles[draw.Intn(len(noFiles))]
				}
				if draw.Intn(20) == 0 {
					q[0] = q[1]
				}
				o, e := slot.Open(d, q[0], q[1])
				n, f := openBy(twin, q[0], q[1])
				got, by = e, f
				if (o != nil) != (e == api.OK) {
					t.Fatalf("Open: slots are %v, %d", o != nil, e)
				}
				if o != nil && n != nil {
					s, m = o, n
				}
			case 6:
				b := drawnHeld(draw)
				got, by = d.Append(file, b), twin.Append(file, b)
			case 7:
				n := draw.Intn(d.Size(file) + 1)
				got, by = d.Cut(file, n), twin.Cut(file, n)
			case 8, 9:
				if d.Down() || draw.Intn(6) == 0 {
					units := []int{draw.Intn(40), draw.Intn(40), draw.Intn(40)}
					d.Crash(units...)
					twin.Crash(units...)
				}
				calls := draw.Intn(12)
				d.Arm(calls)
				twin.Arm(calls)
			}
			told[got]++
			want(t, what, got, by)
			sameDisk(t, what, d, twin)
			tellsAs(t, what, s, m)
		}
	}
	for _, e := range []api.Errno{api.OK, api.ErrArg, api.ErrDown, api.ErrDisk} {
		if told[e] < 100 {
			t.Errorf("%d was told %d times alone", e, told[e])
		}
	}
}

// state is the turn and the snapshot that slots tell, as one text.
func state(s *slot.Slots) string {
	b, ok := s.Get()
	return fmt.Sprint(s.Turn(), ok, b)
}

// one is the text of a turn and a snapshot.
func one(turn int, snapshot []byte) string {
	return fmt.Sprint(turn, turn > 0, bytes.Clone(snapshot))
}

// crashes are the disk behind a crash with each number of units of each of these files, and without any of the other one.
func crashes(d *disk.Disk, p [2]int) []*disk.Disk {
	var l []*disk.Disk
	for a := range d.Units(p[0]) + 1 {
		for b := range d.Units(p[1]) + 1 {
			c := d.Clone()
			units := [files]int{}
			units[p[0]], units[p[1]] = a, b
			c.Crash(units[:]...)
			l = append(l, c)
		}
	}
	return l
}

// TestP21_3_EachCall puts snapshots while the disk goes down at each call, crashes with each number of units, opens the slots again, and lets that happen to one more Put.
func TestP21_3_EachCall(t *testing.T) {
	snapshots := [][]byte{{7}, {}, {1, 2, 3}, {9, 9}}
	for _, p := range [][2]int{{0, 1}, {2, 1}} {
		for calls := 1; calls <= 2+2+4+4+1; calls++ {
			d := newDisk(t, 100)
			s := opened(t, d, p[0], p[1])
			d.Arm(calls)
			done := 0
			for _, snapshot := range snapshots {
				e := s.Put(snapshot)
				if e != api.OK {
					want(t, "Put", e, api.ErrDown)
					break
				}
				done++
			}
			may := []string{one(0, nil), one(1, snapshots[0]), one(2, snapshots[1]), one(3, snapshots[2]), one(4, snapshots[3])}[done:min(done+2, 5)]
			met := map[string]bool{}
			for _, c := range crashes(d, p) {
				got := state(opened(t, c, p[0], p[1]))
				if !slices.Contains(may, got) {
					t.Fatalf("a fuse of %d: %s, not one of %v", calls, got, may)
				}
				met[got] = true
				onceMore(t, c, p)
			}
			// Where the frame was appended, but not synced, either is to be seen.
			if d.Down() && d.Size(p[done%2]) > 0 && len(met) != 2 {
				t.Errorf("a fuse of %d: just %v", calls, slices.Collect(maps.Keys(met)))
			}
		}
	}
}

// onceMore puts to slots that are opened again, while the disk goes down at each call, and crashes with each number of units.
func onceMore(t *testing.T, d *disk.Disk, p [2]int) {
	t.Helper()
	more := []byte{4, 4, 4, 4}
	for calls := 1; calls <= 5; calls++ {
		c := d.Clone()
		s := opened(t, c, p[0], p[1])
		was, next := state(s), int(s.Turn())+1
		c.Arm(calls)
		e := s.Put(more)
		for _, x := range crashes(c, p) {
			got := state(opened(t, x, p[0], p[1]))
			if got == one(next, more) && (e == api.OK || e == api.ErrDown) {
				continue
			}
			if got != was || e == api.OK {
				t.Fatalf("once more, a fuse of %d: %s, behind %s, %d", calls, got, was, e)
			}
		}
	}
}

// TestP21_3_Drawn puts by draws, on a disk that goes down and crashes by draws, often without room, and opens the slots again each time: they have the snapshot that was put last, or the one in flight.
func TestP21_3_Drawn(t *testing.T) {
	draw := rand.New(rand.NewSource(4))
	flew, gone, full := 0, 0, 0
	for range 1000 {
		p := pairs()[draw.Intn(6)]
		d := newDisk(t, 40+draw.Intn(60))
		s := opened(t, d, p[0], p[1])
		last, turn := one(0, nil), 0
		for range 20 {
			d.Arm(draw.Intn(12))
			flying := ""
			for !d.Down() && draw.Intn(8) > 0 {
				snapshot := drawn(draw, draw.Intn(30))
				switch s.Put(snapshot) {
				case api.OK:
					turn++
					last = one(turn, snapshot)
				case api.ErrDown:
					flying = one(turn+1, snapshot)
				case api.ErrDisk:
					full++
				}
			}
			for range 1 + draw.Intn(3) {
				d.Crash(draw.Intn(60), draw.Intn(60), draw.Intn(60))
			}
			s = opened(t, d, p[0], p[1])
			switch got := state(s); {
			case flying != "" && got == flying:
				flew++
				turn++
				last = got
			case got != last:
				t.Fatalf("%s, not %s, nor %s", got, last, flying)
			case flying != "":
				gone++
			}
		}
	}
	if flew < 100 || gone < 100 || full < 100 {
		t.Errorf("of snapshots in flight %d were there, %d gone; for %d there was no room", flew, gone, full)
	}
}
