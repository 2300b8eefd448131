package disk_test

import (
	"bytes"
	"fmt"
	"math"
	"math/big"
	"math/rand"
	"slices"
	"testing"

	"mirador/api"
	"mirador/disk"
)

// The chapter's limits, as numbers of the test's own.
const (
	maxDisk = 65536
	files   = 3
)

// noFiles are numbers of no file: just outside, and far away, and such as are a file's when they are cut to fewer bits.
var noFiles = []int{-1, files, -2, -3, files + 1, 255, 256, -256, 1 << 16, 1 << 32, 1<<32 + 1, -1 << 32, math.MaxInt, math.MinInt, math.MinInt + 1}

// sizesAway are sizes that no file has: below 0, and above the greatest room.
var sizesAway = []int{-1, -2, -maxDisk, 1 - 1<<32, math.MinInt, maxDisk + 1, 1 << 32, 1<<32 + 1, math.MaxInt}

// step is something that was done to a file: it was cut, or bytes were put to its end.
type step struct {
	cut  bool
	size int
	put  []byte
}

// model is a disk by the chapter's words: all is reckoned anew of what is kept and of the steps.
type model struct {
	room, fuse int
	down       bool
	kept       [files][]byte
	steps      [files][]step
}

// units are how many units a file's steps have.
func (m *model) units(file int) int {
	n := 0
	for _, s := range m.steps[file] {
		if s.cut {
			n++
		} else {
			n += len(s.put)
		}
	}
	return n
}

// with is what is kept of a file, with so many units done, one by one.
func (m *model) with(file, units int) []byte {
	b := slices.Clone(m.kept[file])
	for _, s := range m.steps[file] {
		if s.cut && units > 0 {
			b = b[:s.size]
			units--
		}
		for _, x := range s.put {
			if units > 0 {
				b = append(b, x)
				units--
			}
		}
	}
	return b
}

// holds is what a file holds.
func (m *model) holds(file int) []byte { return m.with(file, m.units(file)) }

// need is a file's need.
func (m *model) need(file int) int {
	size := len(m.kept[file])
	need := size
	for _, s := range m.steps[file] {
		if s.cut {
			size = s.size
		}
		size += len(s.put)
		need = max(need, size)
	}
	return need
}

// used is what all files need.
func (m *model) used() int { return m.need(0) + m.need(1) + m.need(2) }

// clone is another one, apart.
func (m *model) clone() *model {
	c := *m
	for f := range files {
		c.kept[f], c.steps[f] = slices.Clone(m.kept[f]), slices.Clone(m.steps[f])
	}
	return &c
}

// counts lets a call count, and tells whether the fuse comes to 0.
func (m *model) counts() bool {
	if m.fuse == 0 {
		return false
	}
	m.fuse--
	m.down = m.fuse == 0
	return m.down
}

// takes does a step, if there is such a file and it may be.
func (m *model) takes(file int, s step) api.Errno {
	if file < 0 || file > 2 || s.cut && (s.size < 0 || s.size > len(m.holds(file))) {
		return api.ErrArg
	}
	if m.down {
		return api.ErrDown
	}
	behind := m.clone()
	behind.steps[file] = append(behind.steps[file], s)
	if !s.cut && behind.used() > m.room {
		return api.ErrDisk
	}
	m.steps = behind.steps
	if m.counts() {
		return api.ErrDown
	}
	return api.OK
}

func (m *model) append(file int, b []byte) api.Errno {
	return m.takes(file, step{put: slices.Clone(b)})
}

func (m *model) cut(file, size int) api.Errno { return m.takes(file, step{cut: true, size: size}) }

func (m *model) sync(file int) api.Errno {
	if file < 0 || file > 2 {
		return api.ErrArg
	}
	if m.down || m.counts() {
		return api.ErrDown
	}
	m.kept[file], m.steps[file] = m.holds(file), nil
	return api.OK
}

func (m *model) arm(calls int) { m.fuse = max(0, calls) }

func (m *model) crash(units ...int) {
	for f := range files {
		n := 0
		if f < len(units) {
			n = int(new(big.Int).Mod(big.NewInt(int64(units[f])), big.NewInt(int64(m.units(f)+1))).Int64())
		}
		m.kept[f], m.steps[f] = m.with(f, n), nil
	}
	m.down, m.fuse = false, 0
}

// is fails, unless a disk tells what the model's words say, of each file, and of such as are none.
func is(t *testing.T, what string, d *disk.Disk, m *model) {
	t.Helper()
	for f := range files {
		if got := d.Read(f); !bytes.Equal(got, m.holds(f)) || d.Size(f) != len(got) {
			t.Errorf("%s: the file %d holds %s, %d bytes; not %s", what, f, brief(got), d.Size(f), brief(m.holds(f)))
		}
		if !bytes.Equal(d.Kept(f), m.kept[f]) {
			t.Errorf("%s: of the file %d is kept %s; not %s", what, f, brief(d.Kept(f)), brief(m.kept[f]))
		}
		if d.Units(f) != m.units(f) {
			t.Errorf("%s: the file %d has %d units; not %d", what, f, d.Units(f), m.units(f))
		}
	}
	for _, f := range noFiles[:2] {
		if len(d.Read(f))+len(d.Kept(f))+d.Size(f)+d.Units(f) != 0 {
			t.Errorf("%s: something of the file %d", what, f)
		}
	}
	if d.Used() != m.used() || d.Room() != m.room || d.Fuse() != m.fuse || d.Down() != m.down {
		t.Errorf("%s: used %d, room %d, fuse %d, down %v; not %d, %d, %d, %v", what, d.Used(), d.Room(), d.Fuse(), d.Down(), m.used(), m.room, m.fuse, m.down)
	}
	if t.Failed() {
		t.FailNow()
	}
}

// pair is a disk, and a model to which the same is done.
type pair struct {
	t *testing.T
	d *disk.Disk
	m *model
}

// made is a disk with this room.
func made(t *testing.T, room int) pair {
	t.Helper()
	d, e := disk.New(room)
	if d == nil || e != api.OK {
		t.Fatalf("New(%d): %v, %d", room, d, e)
	}
	p := pair{t, d, &model{room: room}}
	is(t, "a new disk", d, p.m)
	return p
}

// same fails, unless the disk answers as the model does, and tells the same behind that.
func (p pair) same(what string, got, want api.Errno) api.Errno {
	p.t.Helper()
	if got != want {
		p.t.Errorf("%s: %d, not %d", what, got, want)
	}
	is(p.t, what, p.d, p.m)
	return got
}

func (p pair) append(file int, b ...byte) api.Errno {
	p.t.Helper()
	return p.same(fmt.Sprintf("Append(%d, %s)", file, brief(b)), p.d.Append(file, b), p.m.append(file, b))
}

func (p pair) cut(file, size int) api.Errno {
	p.t.Helper()
	return p.same(fmt.Sprintf("Cut(%d, %d)", file, size), p.d.Cut(file, size), p.m.cut(file, size))
}

func (p pair) sync(file int) api.Errno {
	p.t.Helper()
	return p.same(fmt.Sprintf("Sync(%d)", file), p.d.Sync(file), p.m.sync(file))
}

func (p pair) arm(calls int) {
	p.t.Helper()
	p.d.Arm(calls)
	p.m.arm(calls)
	is(p.t, fmt.Sprintf("Arm(%d)", calls), p.d, p.m)
}

func (p pair) crash(units ...int) {
	p.t.Helper()
	p.d.Crash(units...)
	p.m.crash(units...)
	is(p.t, fmt.Sprintf("Crash(%v)", units), p.d, p.m)
}

// clone is a pair of clones.
func (p pair) clone() pair {
	p.t.Helper()
	c := pair{p.t, p.d.Clone(), p.m.clone()}
	if c.d == nil || c.d == p.d {
		p.t.Fatal("Clone is nil, or the same disk")
	}
	is(p.t, "Clone", c.d, c.m)
	return c
}

// want fails, unless an answer is this one.
func want(t *testing.T, what string, got, want api.Errno) {
	t.Helper()
	if got != want {
		t.Errorf("%s: %d, not %d", what, got, want)
	}
}

// holds fails, unless a file of a disk holds just this.
func holds(t *testing.T, what string, d *disk.Disk, file int, b ...byte) {
	t.Helper()
	if got := d.Read(file); !bytes.Equal(got, b) || d.Size(file) != len(b) {
		t.Errorf("%s: the file %d holds %v, %d bytes; not %v", what, file, brief(got), d.Size(file), brief(b))
	}
}

// keeps fails, unless of a file of a disk just this is kept.
func keeps(t *testing.T, what string, d *disk.Disk, file int, b ...byte) {
	t.Helper()
	if got := d.Kept(file); !bytes.Equal(got, b) {
		t.Errorf("%s: of the file %d is kept %v, not %v", what, file, brief(got), brief(b))
	}
}

// brief is bytes as text, cut where there are many.
func brief(b []byte) string {
	if len(b) > 60 {
		return fmt.Sprintf("%v .. (%d bytes)", b[:60], len(b))
	}
	return fmt.Sprint(b)
}

// counted are so many bytes that rise, from this one on.
func counted(from byte, n int) []byte {
	b := make([]byte, n)
	for i := range b {
		b[i] = from + byte(i)
	}
	return b
}

// spoil writes over bytes and their spare room.
func spoil(b []byte) {
	all := b[:cap(b)]
	for i := range all {
		all[i] ^= 0xa5
	}
}

// unmade are disks that no call made.
func unmade() map[string]*disk.Disk {
	return map[string]*disk.Disk{"nil": nil, "zero value": {}, "new": new(disk.Disk)}
}

// worked is a disk with something in each file: bytes that are kept, and steps of both kinds; there is room left.
func worked(t *testing.T) pair {
	t.Helper()
	p := made(t, 40)
	p.append(0, 1, 2, 3, 4, 5)
	p.sync(0)
	p.append(0, 6, 7)
	p.cut(0, 4)
	p.append(0, 8, 9, 10)
	p.append(1, 11, 12)
	p.sync(1)
	p.cut(1, 0)
	p.append(2, 13, 14, 15)
	return p
}

// armed is what worked tells, with a fuse of 1, and down or not.
func armed(t *testing.T, down bool) pair {
	t.Helper()
	p := worked(t)
	p.arm(1)
	if down {
		want(t, "Sync with a fuse of 1", p.sync(0), api.ErrDown)
		p.arm(1)
	}
	return p
}

// TestP18_Example holds the chapter's example.
func TestP18_Example(t *testing.T) {
	d, _ := disk.New(100)
	want(t, "Append", d.Append(0, []byte{1, 2, 3}), api.OK)
	want(t, "Sync", d.Sync(0), api.OK)
	want(t, "Append", d.Append(0, []byte{4, 5}), api.OK)
	holds(t, "ahead of the crash", d, 0, 1, 2, 3, 4, 5)
	keeps(t, "ahead of the crash", d, 0, 1, 2, 3)
	d.Crash(1)
	holds(t, "behind the crash", d, 0, 1, 2, 3, 4)
	keeps(t, "behind the crash", d, 0, 1, 2, 3, 4)
}

// TestP18_1_New makes disks with rooms that may be, and with such as may not.
func TestP18_1_New(t *testing.T) {
	for _, room := range []int{1, 2, 3, 255, 256, 257, 65535, maxDisk} {
		p := made(t, room)
		if p.d.Down() || p.d.Fuse() != 0 || p.d.Room() != room || p.d.Used() != 0 {
			t.Errorf("New(%d): down %v, fuse %d, room %d, used %d", room, p.d.Down(), p.d.Fuse(), p.d.Room(), p.d.Used())
		}
		for f := range files {
			c := p.clone()
			want(t, "one byte more than there is room for", c.append(f, counted(0, room+1)...), api.ErrDisk)
			want(t, "as many bytes as there is room for", c.append(f, counted(0, room)...), api.OK)
			want(t, "one byte more", c.append((f+1)%files, 1), api.ErrDisk)
		}
	}
	for _, room := range []int{0, -1, maxDisk + 1, -2, maxDisk + 2, -maxDisk, 2 * maxDisk, 1<<32 + 1, 1<<32 + maxDisk, 1 - 1<<32, math.MaxInt, math.MinInt, math.MinInt + 1} {
		if d, e := disk.New(room); d != nil || e != api.ErrArg {
			t.Errorf("New(%d): %v, %d", room, d, e)
		}
	}
}

// TestP18_1_NewApart makes two disks: what is done to the one is not seen in the other.
func TestP18_1_NewApart(t *testing.T) {
	one, other := made(t, 9), made(t, 9)
	one.append(0, 1, 2, 3)
	one.sync(0)
	one.arm(1)
	one.append(1, 4)
	is(t, "another disk", other.d, other.m)
}

// TestP18_2_NoSuchFile hands in numbers of no file: ErrArg ahead of all else, down or not, and with a fuse.
func TestP18_2_NoSuchFile(t *testing.T) {
	for _, down := range []bool{false, true} {
		p := armed(t, down)
		for _, f := range noFiles {
			want(t, "Append", p.append(f, 1), api.ErrArg)
			want(t, "Append of nothing", p.append(f), api.ErrArg)
			want(t, "Append of too much", p.append(f, counted(0, 41)...), api.ErrArg)
			want(t, "Cut", p.cut(f, 0), api.ErrArg)
			want(t, "Cut below 0", p.cut(f, -1), api.ErrArg)
			want(t, "Sync", p.sync(f), api.ErrArg)
			if len(p.d.Read(f))+len(p.d.Kept(f))+p.d.Size(f)+p.d.Units(f) != 0 {
				t.Errorf("something of the file %d", f)
			}
		}
	}
}

// TestP18_2_NoSuchSize cuts to sizes below 0, and above what the file holds: ErrArg, also while the disk is down.
func TestP18_2_NoSuchSize(t *testing.T) {
	for _, down := range []bool{false, true} {
		p := armed(t, down)
		for f := range files {
			held := p.d.Size(f)
			for _, size := range append([]int{held + 1, held + 2, 40, 41}, sizesAway...) {
				want(t, "Cut", p.cut(f, size), api.ErrArg)
			}
		}
	}
}

// TestP18_2_CutWithinWhatIsHeld holds that a cut is held against what the file holds, be more kept, or less.
func TestP18_2_CutWithinWhatIsHeld(t *testing.T) {
	p := made(t, 9)
	p.append(0, 1, 2, 3, 4)
	want(t, "Cut of what is not kept", p.cut(0, 4), api.OK)
	p.sync(0)
	want(t, "Cut to what is held", p.cut(0, 4), api.OK)
	want(t, "Cut", p.cut(0, 2), api.OK)
	want(t, "Cut to what is kept, and no more held", p.cut(0, 3), api.ErrArg)
	want(t, "Cut to what is held", p.cut(0, 2), api.OK)
	p.append(0, 5, 6, 7, 8)
	want(t, "Cut above what is kept", p.cut(0, 6), api.OK)
	want(t, "Cut above what is kept", p.cut(0, 5), api.OK)
	want(t, "Cut above what is held", p.cut(0, 6), api.ErrArg)
	want(t, "Cut to 0", p.cut(0, 0), api.OK)
	want(t, "Cut to 0 again", p.cut(0, 0), api.OK)
	want(t, "Cut above 0", p.cut(0, 1), api.ErrArg)
	want(t, "Cut of another file", p.cut(1, 1), api.ErrArg)
	want(t, "Cut of another file to 0", p.cut(1, 0), api.OK)
	if p.d.Units(0) != 11 || p.d.Units(1) != 1 || p.d.Used() != 6 {
		t.Errorf("%d units, %d units, used %d", p.d.Units(0), p.d.Units(1), p.d.Used())
	}
}

// TestP18_2_Down does each call while the disk is down: ErrDown ahead of ErrDisk, and nothing changes.
func TestP18_2_Down(t *testing.T) {
	p := worked(t)
	p.arm(1)
	want(t, "Sync with a fuse of 1", p.sync(1), api.ErrDown)
	for _, fuse := range []int{0, 1, 2} {
		p.arm(fuse) // it does not burn, as no call counts
		for f := range files {
			want(t, "Append", p.append(f, 1), api.ErrDown)
			want(t, "Append of nothing", p.append(f), api.ErrDown)
			want(t, "Append of more than there is room for", p.append(f, counted(0, 60)...), api.ErrDown)
			want(t, "Cut", p.cut(f, p.d.Size(f)), api.ErrDown)
			want(t, "Cut to 0", p.cut(f, 0), api.ErrDown)
			want(t, "Sync", p.sync(f), api.ErrDown)
		}
	}
	p.crash()
	want(t, "Append", p.append(0, 1), api.OK)
	want(t, "Cut", p.cut(0, 0), api.OK)
	want(t, "Sync", p.sync(0), api.OK)
}

// TestP18_2_Room puts bytes till there is just no room any more, in one file and in several.
func TestP18_2_Room(t *testing.T) {
	p := made(t, 10)
	want(t, "all and one", p.append(0, counted(0, 11)...), api.ErrDisk)
	want(t, "far too many", p.append(0, make([]byte, 1<<20)...), api.ErrDisk)
	want(t, "four", p.append(0, 1, 2, 3, 4), api.OK)
	want(t, "seven", p.append(0, counted(0, 7)...), api.ErrDisk)
	want(t, "seven of another", p.append(1, counted(0, 7)...), api.ErrDisk)
	want(t, "three", p.append(1, 5, 6, 7), api.OK)
	want(t, "four", p.append(2, 1, 2, 3, 4), api.ErrDisk)
	want(t, "three", p.append(2, 8, 9, 10), api.OK)
	for f := range files {
		want(t, "one more", p.append(f, 1), api.ErrDisk)
		want(t, "none more", p.append(f), api.OK)
	}
	p.sync(0)
	p.sync(1)
	p.sync(2)
	for f := range files {
		want(t, "one more than is kept", p.append(f, 1), api.ErrDisk)
		want(t, "none more than is kept", p.append(f), api.OK)
	}
}

// TestP18_2_RoomOfWhatWasCut holds that what was cut is needed till it is synced: by the others, not by the file itself.
func TestP18_2_RoomOfWhatWasCut(t *testing.T) {
	p := made(t, 10)
	p.append(0, counted(1, 6)...)
	p.sync(0)
	p.append(1, 7, 8, 9)
	p.cut(0, 2)
	if p.d.Used() != 9 {
		t.Errorf("used %d, not 9", p.d.Used())
	}
	want(t, "two of another", p.append(2, 1, 2), api.ErrDisk)
	want(t, "six of its own", p.append(0, counted(1, 6)...), api.ErrDisk)
	want(t, "four of its own", p.append(0, 1, 2, 3, 4), api.OK)
	want(t, "one of its own", p.append(0, 5), api.OK)
	want(t, "one of its own", p.append(0, 6), api.ErrDisk)
	p.cut(0, 0)
	want(t, "one of another", p.append(1, 1), api.ErrDisk)
	want(t, "eight of its own", p.append(0, counted(1, 8)...), api.ErrDisk)
	want(t, "seven of its own", p.append(0, counted(1, 7)...), api.OK)
	p.cut(0, 1)
	want(t, "one of another", p.append(1, 1), api.ErrDisk)
	want(t, "Sync of another", p.sync(1), api.OK)
	want(t, "one of another, behind its sync", p.append(1, 1), api.ErrDisk)
	want(t, "Sync", p.sync(0), api.OK)
	if p.d.Used() != 4 {
		t.Errorf("used %d, not 4", p.d.Used())
	}
	want(t, "seven of another", p.append(2, counted(1, 7)...), api.ErrDisk)
	want(t, "six of another", p.append(2, counted(1, 6)...), api.OK)
}

// TestP18_2_RoomBehindACrash holds that a crash leaves no need but that of what is kept.
func TestP18_2_RoomBehindACrash(t *testing.T) {
	for units, size := range []int{3, 1, 2, 3, 4, 5, 6, 0, 1} {
		p := made(t, 10)
		p.append(0, 1, 2, 3)
		p.sync(0)
		p.cut(0, 1)
		p.append(0, 4, 5, 6, 7, 8)
		p.cut(0, 0)
		p.append(0, 9)
		p.crash(units)
		if p.d.Size(0) != size || p.d.Used() != size {
			t.Errorf("with %d units: %d bytes, used %d, not %d", units, p.d.Size(0), p.d.Used(), size)
		}
		want(t, "one more than there is room for", p.append(1, counted(1, 11-size)...), api.ErrDisk)
		want(t, "as many as there is room for", p.append(1, counted(1, 10-size)...), api.OK)
	}
}

// TestP18_2_GreatRoom fills the greatest disk.
func TestP18_2_GreatRoom(t *testing.T) {
	p := made(t, maxDisk)
	want(t, "all but one", p.append(0, counted(0, maxDisk-1)...), api.OK)
	want(t, "two", p.append(1, 1, 2), api.ErrDisk)
	want(t, "the last one", p.append(1, 1), api.OK)
	want(t, "one more", p.append(2, 1), api.ErrDisk)
	p.sync(0)
	p.cut(0, 30000)
	want(t, "one of another", p.append(2, 1), api.ErrDisk)
	want(t, "what was cut", p.append(0, counted(7, maxDisk-1-30000)...), api.OK)
	want(t, "one more", p.append(0, 1), api.ErrDisk)
	c := p.clone()
	c.crash(1 + 200)
	if c.d.Size(0) != 30200 {
		t.Errorf("%d bytes", c.d.Size(0))
	}
	p.crash(0)
	if p.d.Size(0) != maxDisk-1 || p.d.Size(1) != 0 {
		t.Errorf("%d bytes, %d bytes", p.d.Size(0), p.d.Size(1))
	}
}

// TestP18_2_RefusedDoesNotCount refuses calls while there is a fuse: it does not burn, and nothing changes.
func TestP18_2_RefusedDoesNotCount(t *testing.T) {
	for _, fuse := range []int{1, 2, 3} {
		p := worked(t)
		p.arm(fuse)
		was := p.clone()
		want(t, "Append to no file", p.append(-1, 1), api.ErrArg)
		want(t, "Append to no file", p.append(files, 1), api.ErrArg)
		want(t, "Append of too much", p.append(0, counted(0, 41)...), api.ErrDisk)
		want(t, "Append of too much", p.append(2, counted(0, 41)...), api.ErrDisk)
		want(t, "Cut of no file", p.cut(files, 0), api.ErrArg)
		want(t, "Cut below 0", p.cut(0, -1), api.ErrArg)
		want(t, "Cut above what is held", p.cut(0, 8), api.ErrArg)
		want(t, "Sync of no file", p.sync(-1), api.ErrArg)
		want(t, "Sync of no file", p.sync(files), api.ErrArg)
		is(t, "behind what was refused", p.d, was.m)
		for range fuse - 1 {
			want(t, "a call that counts", p.append(0), api.OK)
		}
		want(t, "the call by which the fuse comes to 0", p.append(0), api.ErrDown)
		p.crash(9, 9, 9)
		was.crash(9, 9, 9)
		is(t, "behind a crash", p.d, was.m)
	}
}

// calls are calls that count, of each kind, of the disk that worked tells.
func calls() map[string]func(pair) api.Errno {
	return map[string]func(pair) api.Errno{
		"Append":            func(p pair) api.Errno { return p.append(0, 21, 22) },
		"Append of nothing": func(p pair) api.Errno { return p.append(1) },
		"Cut":               func(p pair) api.Errno { return p.cut(2, 1) },
		"Cut to all":        func(p pair) api.Errno { return p.cut(0, p.d.Size(0)) },
		"Cut to 0":          func(p pair) api.Errno { return p.cut(0, 0) },
		"Sync":              func(p pair) api.Errno { return p.sync(0) },
		"Sync of another":   func(p pair) api.Errno { return p.sync(2) },
		"Sync of nothing":   func(p pair) api.Errno { p.d.Crash(); p.m.crash(); p.arm(1); return p.sync(1) },
	}
}

// TestP18_2_Fuse burns fuses of some lengths by each kind of call: the one by which it comes to 0 is answered ErrDown, those ahead of it are not.
func TestP18_2_Fuse(t *testing.T) {
	for name, call := range calls() {
		for _, fuse := range []int{1, 2, 3, 7} {
			p := worked(t)
			p.arm(fuse)
			for i := range fuse - 1 {
				var e api.Errno
				switch i % 3 {
				case 0:
					e = p.append(i%files, byte(i))
				case 1:
					e = p.cut(i%files, p.d.Size(i%files))
				case 2:
					e = p.sync(i % files)
				}
				if want(t, "a call ahead", e, api.OK); p.d.Down() || p.d.Fuse() != fuse-1-i {
					t.Errorf("behind %d calls: down %v, fuse %d", i+1, p.d.Down(), p.d.Fuse())
				}
			}
			want(t, name, call(p), api.ErrDown)
			if !p.d.Down() || p.d.Fuse() != 0 {
				t.Errorf("%s: down %v, fuse %d", name, p.d.Down(), p.d.Fuse())
			}
			want(t, "a call behind", p.sync(0), api.ErrDown)
			p.crash(2, 2, 2)
			for range 9 {
				want(t, name, p.append(0), api.OK) // there is no fuse any more
			}
		}
	}
}

// TestP18_2_FuseDoes holds what the call by which the fuse comes to 0 has done: a step that may be crashed over, or no sync.
func TestP18_2_FuseDoes(t *testing.T) {
	start := func() pair {
		p := made(t, 9)
		p.append(0, 1, 2, 3)
		p.sync(0)
		p.append(0, 4)
		p.arm(1)
		return p
	}
	p := start()
	want(t, "Append", p.append(0, 5, 6), api.ErrDown)
	holds(t, "Append", p.d, 0, 1, 2, 3, 4, 5, 6)
	keeps(t, "Append", p.d, 0, 1, 2, 3)
	for units, held := range [][]byte{{1, 2, 3}, {1, 2, 3, 4}, {1, 2, 3, 4, 5}, {1, 2, 3, 4, 5, 6}} {
		c := p.clone()
		c.crash(units)
		holds(t, "Append, and a crash", c.d, 0, held...)
	}
	p = start()
	want(t, "Cut", p.cut(0, 1), api.ErrDown)
	holds(t, "Cut", p.d, 0, 1)
	keeps(t, "Cut", p.d, 0, 1, 2, 3)
	for units, held := range [][]byte{{1, 2, 3}, {1, 2, 3, 4}, {1}} {
		c := p.clone()
		c.crash(units)
		holds(t, "Cut, and a crash", c.d, 0, held...)
	}
	p = start()
	want(t, "Sync", p.sync(0), api.ErrDown)
	holds(t, "Sync", p.d, 0, 1, 2, 3, 4)
	keeps(t, "Sync", p.d, 0, 1, 2, 3)
	if p.d.Units(0) != 1 {
		t.Errorf("Sync: %d units", p.d.Units(0))
	}
	p.crash()
	holds(t, "Sync, and a crash", p.d, 0, 1, 2, 3)
}

// TestP18_2_Steps does calls one behind the other, and holds what is told behind each by numbers of the test's own.
func TestP18_2_Steps(t *testing.T) {
	p := made(t, 20)
	for i, x := range []struct {
		call  func() api.Errno
		held  []byte
		kept  []byte
		units int
		used  int
	}{
		{func() api.Errno { return p.append(1) }, nil, nil, 0, 0},
		{func() api.Errno { return p.append(1, 1, 2, 3) }, []byte{1, 2, 3}, nil, 3, 3},
		{func() api.Errno { return p.append(1, 4) }, []byte{1, 2, 3, 4}, nil, 4, 4},
		{func() api.Errno { return p.cut(1, 4) }, []byte{1, 2, 3, 4}, nil, 5, 4},
		{func() api.Errno { return p.cut(1, 2) }, []byte{1, 2}, nil, 6, 4},
		{func() api.Errno { return p.append(1, 5) }, []byte{1, 2, 5}, nil, 7, 4},
		{func() api.Errno { return p.sync(0) }, []byte{1, 2, 5}, nil, 7, 4},
		{func() api.Errno { return p.sync(1) }, []byte{1, 2, 5}, []byte{1, 2, 5}, 0, 3},
		{func() api.Errno { return p.sync(1) }, []byte{1, 2, 5}, []byte{1, 2, 5}, 0, 3},
		{func() api.Errno { return p.append(1) }, []byte{1, 2, 5}, []byte{1, 2, 5}, 0, 3},
		{func() api.Errno { return p.cut(1, 0) }, nil, []byte{1, 2, 5}, 1, 3},
		{func() api.Errno { return p.cut(1, 0) }, nil, []byte{1, 2, 5}, 2, 3},
		{func() api.Errno { return p.append(1, 6, 7) }, []byte{6, 7}, []byte{1, 2, 5}, 4, 3},
		{func() api.Errno { return p.append(1, 8, 9) }, []byte{6, 7, 8, 9}, []byte{1, 2, 5}, 6, 4},
		{func() api.Errno { return p.append(1, 0, 0, 255) }, []byte{6, 7, 8, 9, 0, 0, 255}, []byte{1, 2, 5}, 9, 7},
		{func() api.Errno { return p.sync(1) }, []byte{6, 7, 8, 9, 0, 0, 255}, []byte{6, 7, 8, 9, 0, 0, 255}, 0, 7},
		{func() api.Errno { return p.cut(1, 0) }, nil, []byte{6, 7, 8, 9, 0, 0, 255}, 1, 7},
		{func() api.Errno { return p.sync(1) }, nil, nil, 0, 0},
	} {
		want(t, fmt.Sprint("the call ", i), x.call(), api.OK)
		holds(t, fmt.Sprint("the call ", i), p.d, 1, x.held...)
		keeps(t, fmt.Sprint("the call ", i), p.d, 1, x.kept...)
		if p.d.Units(1) != x.units || p.d.Used() != x.used {
			t.Errorf("the call %d: %d units, used %d; not %d, %d", i, p.d.Units(1), p.d.Used(), x.units, x.used)
		}
	}
}

// TestP18_2_SyncOfOne syncs one file: the others' steps stay.
func TestP18_2_SyncOfOne(t *testing.T) {
	for f := range files {
		p := worked(t)
		was := p.clone()
		want(t, "Sync", p.sync(f), api.OK)
		for g := range files {
			if g == f {
				if p.d.Units(g) != 0 || !bytes.Equal(p.d.Kept(g), was.d.Read(g)) {
					t.Errorf("the file %d is not synced", g)
				}
				continue
			}
			if p.d.Units(g) != was.d.Units(g) || p.d.Units(g) == 0 || !bytes.Equal(p.d.Kept(g), was.d.Kept(g)) || !bytes.Equal(p.d.Read(g), was.d.Read(g)) {
				t.Errorf("Sync of the file %d changed the file %d", f, g)
			}
		}
	}
}

// TestP18_3_NoSuchFile asks of no such file: nothing, 0.
func TestP18_3_NoSuchFile(t *testing.T) {
	p := worked(t)
	for _, f := range noFiles {
		if len(p.d.Read(f)) != 0 || len(p.d.Kept(f)) != 0 || p.d.Size(f) != 0 || p.d.Units(f) != 0 {
			t.Errorf("of the file %d: %v, %v, %d, %d", f, p.d.Read(f), p.d.Kept(f), p.d.Size(f), p.d.Units(f))
		}
	}
}

// TestP18_3_Told tells each file's things, and those of all, by numbers of the test's own.
func TestP18_3_Told(t *testing.T) {
	d := worked(t).d
	for f, x := range []struct {
		held, kept []byte
		units      int
	}{
		{[]byte{1, 2, 3, 4, 8, 9, 10}, []byte{1, 2, 3, 4, 5}, 6},
		{nil, []byte{11, 12}, 1},
		{[]byte{13, 14, 15}, nil, 3},
	} {
		holds(t, "worked", d, f, x.held...)
		keeps(t, "worked", d, f, x.kept...)
		if d.Units(f) != x.units {
			t.Errorf("the file %d: %d units, not %d", f, d.Units(f), x.units)
		}
	}
	if d.Used() != 7+2+3 || d.Room() != 40 {
		t.Errorf("used %d, room %d", d.Used(), d.Room())
	}
}

// TestP18_3_WhileDown asks of a disk that is down: what it holds and keeps is told as if it were not.
func TestP18_3_WhileDown(t *testing.T) {
	p := worked(t)
	was := p.clone()
	p.arm(1)
	p.sync(0)
	was.m.down = true
	is(t, "while it is down", p.d, was.m)
}

// TestP18_3_AnswersAreNew changes what was told: nothing else changes, no later answer either.
func TestP18_3_AnswersAreNew(t *testing.T) {
	p := worked(t)
	tell := func() [][]byte {
		var l [][]byte
		for f := range files {
			l = append(l, p.d.Read(f), p.d.Kept(f), p.d.Read(f), p.d.Kept(f))
		}
		return l
	}
	for i := range tell() {
		l, want := tell(), tell()
		spoil(l[i])
		_ = append(l[i], 99)
		for j := range l {
			if j != i && !bytes.Equal(l[j], want[j]) {
				t.Errorf("the answers %d and %d share memory", i, j)
			}
		}
		is(t, "behind a change of an answer", p.d, p.m)
	}
	old := tell()
	was := tell()
	for f := range files {
		p.append(f, 1)
		p.sync(f)
		p.cut(f, 0)
		p.append(f, 99, 98)
		p.sync(f)
	}
	p.crash()
	for i := range old {
		if !bytes.Equal(old[i], was[i]) {
			t.Errorf("a later call changed the answer %d", i)
		}
	}
}

// TestP18_3_AfterASync changes what was told behind a sync, where what is held and what is kept are the same.
func TestP18_3_AfterASync(t *testing.T) {
	for _, crash := range []bool{false, true} {
		p := made(t, 20)
		p.append(0, 1, 2, 3, 4)
		if p.sync(0); crash {
			p.append(0, 5)
			p.crash(1)
		}
		spoil(p.d.Read(0))
		is(t, "behind a change of what is held", p.d, p.m)
		spoil(p.d.Kept(0))
		is(t, "behind a change of what is kept", p.d, p.m)
		p.cut(0, 1)
		p.append(0, 9, 9, 9) // what is kept stays as it was
		p.crash(0)
		p.cut(0, 0)
		p.append(0, 8)
		p.crash(2)
		p.append(0, 7)
		p.crash(0)
		holds(t, "at last", p.d, 0, 8)
	}
}

// TestP18_3_HandedIn changes bytes behind the call that they were handed to: nothing else changes; the call itself leaves them, and their spare room, as they were.
func TestP18_3_HandedIn(t *testing.T) {
	p := made(t, 40)
	all := counted(1, 30)
	b := all[:5]
	for _, f := range []int{0, 1, 2, 0} {
		want(t, "Append", p.append(f, b...), api.OK)
	}
	want(t, "Append of too much", p.append(0, all...), api.ErrDisk)
	if !bytes.Equal(all, counted(1, 30)) {
		t.Fatal("Append changed bytes")
	}
	p.sync(1)
	p.cut(2, 2)
	p.append(2, b[:2]...)
	if !bytes.Equal(all, counted(1, 30)) {
		t.Fatal("a call changed bytes that were handed in ahead of it")
	}
	for range 3 {
		spoil(b)
		is(t, "behind a change of bytes", p.d, p.m)
	}
	p.crash(7, 0, 6)
}

// TestP18_4_Arm sets fuses one behind the other: the last one holds.
func TestP18_4_Arm(t *testing.T) {
	p := worked(t)
	for _, x := range []struct{ calls, fuse int }{
		{1, 1}, {2, 2}, {0, 0}, {5, 5}, {-1, 0}, {5, 5}, {5, 5}, {math.MinInt, 0}, {math.MaxInt, math.MaxInt}, {math.MinInt + 1, 0}, {1 << 32, 1 << 32}, {-1 << 32, 0}, {3, 3},
	} {
		p.arm(x.calls)
		if p.d.Fuse() != x.fuse || p.d.Down() {
			t.Errorf("Arm(%d): %d, down %v", x.calls, p.d.Fuse(), p.d.Down())
		}
	}
	want(t, "a call", p.append(0), api.OK)
	if p.d.Fuse() != 2 {
		t.Errorf("the fuse is %d, not 2", p.d.Fuse())
	}
	p.arm(2)
	want(t, "a call", p.append(0), api.OK)
	p.arm(0)
	for range 5 {
		want(t, "a call without a fuse", p.append(0), api.OK)
	}
	p.arm(1)
	p.arm(-7)
	for range 5 {
		want(t, "a call without a fuse", p.sync(0), api.OK)
	}
	p.arm(math.MaxInt)
	want(t, "a call", p.cut(0, 0), api.OK)
	if p.d.Fuse() != math.MaxInt-1 {
		t.Errorf("the fuse is %d", p.d.Fuse())
	}
}

// TestP18_4_ArmWhileDown sets a fuse while the disk is down: it stays down, and a crash takes the fuse.
func TestP18_4_ArmWhileDown(t *testing.T) {
	for _, calls := range []int{0, -1, 1, 3} {
		p := worked(t)
		p.arm(1)
		p.append(0)
		p.arm(calls)
		if !p.d.Down() || p.d.Fuse() != max(calls, 0) {
			t.Errorf("Arm(%d): down %v, fuse %d", calls, p.d.Down(), p.d.Fuse())
		}
		want(t, "while it is down", p.sync(0), api.ErrDown)
		p.crash()
		if p.d.Down() || p.d.Fuse() != 0 {
			t.Errorf("behind a crash: down %v, fuse %d", p.d.Down(), p.d.Fuse())
		}
		want(t, "behind a crash", p.sync(0), api.OK)
	}
}

// TestP18_4_Crash keeps so many units of a file with steps of both kinds, by what the test itself says; of a file without steps what is kept stays.
func TestP18_4_Crash(t *testing.T) {
	keptWith := [][]byte{
		{1, 2, 3, 4},        // none
		{1, 2, 3, 4, 5},     // inside the first bytes put
		{1, 2, 3, 4, 5, 6},  // behind them, ahead of the cut
		{1, 2},              // behind the cut
		{1, 2, 7},           // inside bytes put
		{1, 2, 7, 8},        //
		{1, 2, 7, 8, 9},     // behind them
		{1, 2, 7, 8, 9},     // a cut to what is held
		{1, 2, 7, 8, 9, 10}, // bytes put
		{},                  // a cut to 0
		{11},                // bytes put
		{11, 12},            // all
	}
	all := len(keptWith) - 1
	p := made(t, 40)
	p.append(1, 1, 2, 3, 4)
	p.sync(1)
	p.append(1, 5, 6)
	p.cut(1, 2)
	p.append(1, 7, 8, 9)
	p.append(1)
	p.cut(1, 5)
	p.append(1, 10)
	p.cut(1, 0)
	p.append(1, 11, 12)
	p.append(2, 77)
	p.sync(2)
	if p.d.Units(1) != all {
		t.Fatalf("%d units", p.d.Units(1))
	}
	numbers := []int{math.MaxInt, math.MinInt, math.MaxInt - 1, math.MinInt + 1, 1 << 32, -1 << 32}
	for n := -3 * (all + 1); n <= 3*(all+1); n++ {
		numbers = append(numbers, n, 1000*(all+1)+n, n-1000*(all+1))
	}
	for _, n := range numbers {
		with := int(new(big.Int).Mod(big.NewInt(int64(n)), big.NewInt(int64(all+1))).Int64())
		c := p.clone()
		c.arm(3)
		c.crash(n, n, n)
		holds(t, fmt.Sprint("Crash with ", n), c.d, 1, keptWith[with]...)
		keeps(t, fmt.Sprint("Crash with ", n), c.d, 1, keptWith[with]...)
		holds(t, fmt.Sprint("Crash with ", n), c.d, 0)
		keeps(t, fmt.Sprint("Crash with ", n), c.d, 2, 77)
		if c.d.Units(1) != 0 || c.d.Down() || c.d.Fuse() != 0 || c.d.Used() != len(keptWith[with])+1 {
			t.Errorf("Crash with %d: %d units, down %v, fuse %d, used %d", n, c.d.Units(1), c.d.Down(), c.d.Fuse(), c.d.Used())
		}
	}
}

// TestP18_4_CrashNumbers hands in no number, fewer than there are files, and more: each file has its own, or 0.
func TestP18_4_CrashNumbers(t *testing.T) {
	for _, x := range []struct {
		units []int
		sizes [files]int
	}{
		{nil, [files]int{0, 0, 0}},
		{[]int{}, [files]int{0, 0, 0}},
		{[]int{0}, [files]int{0, 0, 0}},
		{[]int{1}, [files]int{1, 0, 0}},
		{[]int{4}, [files]int{4, 0, 0}},
		{[]int{5}, [files]int{0, 0, 0}},
		{[]int{6}, [files]int{1, 0, 0}},
		{[]int{-1}, [files]int{4, 0, 0}},
		{[]int{2, 3}, [files]int{2, 3, 0}},
		{[]int{0, 7}, [files]int{0, 1, 0}},
		{[]int{2, 3, 4}, [files]int{2, 3, 4}},
		{[]int{0, 0, 6}, [files]int{0, 0, 6}},
		{[]int{0, 0, 7}, [files]int{0, 0, 0}},
		{[]int{-2, -2, -2}, [files]int{3, 4, 5}},
		{[]int{-5, -6, -7}, [files]int{0, 0, 0}},
		{[]int{-6, -7, -8}, [files]int{4, 5, 6}},
		{[]int{1, 2, 3, 4}, [files]int{1, 2, 3}},
		{[]int{1, 2, 3, -4, math.MaxInt, 0, 1}, [files]int{1, 2, 3}},
	} {
		p := made(t, 20)
		p.append(0, counted(10, 4)...)
		p.append(1, counted(20, 5)...)
		p.append(2, counted(30, 6)...)
		units := append(slices.Clone(x.units), 5, 5, 5, 5)
		was := slices.Clone(units)
		p.crash(units[:len(x.units)]...)
		if !slices.Equal(units, was) {
			t.Errorf("Crash changed its numbers: %v, not %v", units, was)
		}
		for f, size := range x.sizes {
			holds(t, fmt.Sprint("Crash of ", x.units), p.d, f, counted(byte(10+10*f), size)...)
		}
	}
}

// TestP18_4_CrashWhileDown crashes a disk that is down, and one that is not, and crashes again: behind the first one there is nothing to be lost.
func TestP18_4_CrashWhileDown(t *testing.T) {
	for _, fuse := range []int{0, 1, 5} {
		p := worked(t)
		p.arm(fuse)
		p.append(0, 31)
		p.crash(3, 1, 2)
		was := p.clone()
		for _, units := range [][]int{nil, {0, 0, 0}, {1, 1, 1}, {-1, -1, -1}, {math.MaxInt, math.MinInt, 7}} {
			p.crash(units...)
			is(t, "another crash", p.d, was.m)
		}
		for f := range files {
			want(t, "Append", p.append(f, 1), api.OK)
			want(t, "Sync", p.sync(f), api.OK)
		}
	}
}

// states are disks in states of each kind: with steps and without, with a fuse, and while they are down.
func states(t *testing.T) map[string]func() pair {
	return map[string]func() pair{
		"new":       func() pair { return made(t, 5) },
		"worked":    func() pair { return worked(t) },
		"armed":     func() pair { p := worked(t); p.arm(2); return p },
		"down":      func() pair { p := worked(t); p.arm(1); p.append(0, 41); return p },
		"down, cut": func() pair { p := worked(t); p.arm(1); p.cut(0, 2); return p },
		"armed while down": func() pair {
			p := worked(t)
			p.arm(1)
			p.sync(0)
			p.arm(4)
			return p
		},
		"synced":  func() pair { p := worked(t); p.sync(0); p.sync(1); p.sync(2); return p },
		"crashed": func() pair { p := worked(t); p.crash(2, 0, 2); return p },
		"full":    func() pair { p := made(t, 6); p.append(0, 1, 2, 3); p.append(2, 4, 5, 6); p.cut(0, 1); return p },
	}
}

// TestP18_4_Clone holds that a clone is the same, and that whatever is done to the one is not seen in the other, either way.
func TestP18_4_Clone(t *testing.T) {
	deeds := map[string]func(pair){
		"Append":        func(p pair) { p.append(0, 51); p.append(2, 52, 53) },
		"Append, twice": func(p pair) { p.append(0, 54); p.append(0, 55, 56, 57) },
		"Cut":           func(p pair) { p.cut(0, 0); p.cut(2, 0) },
		"Cut, Append":   func(p pair) { p.cut(0, 0); p.append(0, 58, 59, 60); p.cut(2, 0); p.append(2, 61) },
		"Sync":          func(p pair) { p.sync(0); p.sync(1); p.sync(2) },
		"Arm":           func(p pair) { p.arm(9) },
		"go down":       func(p pair) { p.arm(1); p.sync(0) },
		"Crash":         func(p pair) { p.crash(1, 1, 1) },
		"Crash, Append": func(p pair) { p.crash(0, 0, 0); p.append(0, 62); p.append(1, 63); p.append(2, 64) },
		"all": func(p pair) {
			p.crash(2, 1, 2)
			p.cut(0, p.d.Size(0)/2)
			p.append(0, 65)
			p.sync(0)
			p.append(0, 66)
			p.arm(1)
			p.append(1, 67)
		},
	}
	for state, begin := range states(t) {
		for name, deed := range deeds {
			for other, again := range deeds {
				one := begin()
				two := one.clone()
				deed(one)
				is(t, state+", the clone behind "+name+" of the first", two.d, two.m)
				again(two)
				is(t, state+", the first behind "+other+" of the clone", one.d, one.m)
				one.crash(-1, -1, -1)
				is(t, state+", the clone behind a crash of the first", two.d, two.m)
				two.crash(-1, -1, -1)
				is(t, state+", the first behind a crash of the clone", one.d, one.m)
			}
		}
	}
}

// TestP18_4_CloneWithSteps crashes clones of clones, each with other units: all go back to the same steps.
func TestP18_4_CloneWithSteps(t *testing.T) {
	for state, begin := range states(t) {
		p := begin()
		last := p
		for units := range 12 {
			last = last.clone()
			c := last.clone()
			c.crash(units, units, units)
			is(t, state+", the clone's original", last.d, p.m)
		}
		is(t, state+", the first", p.d, p.m)
	}
}

// TestP18_4_CloneAnswersAreNew changes what a clone tells: neither it nor the first one changes.
func TestP18_4_CloneAnswersAreNew(t *testing.T) {
	p := worked(t)
	c := p.clone()
	for f := range files {
		spoil(c.d.Read(f))
		spoil(c.d.Kept(f))
		spoil(p.d.Read(f))
		spoil(p.d.Kept(f))
	}
	is(t, "the clone", c.d, c.m)
	is(t, "the first", p.d, p.m)
}

// TestP18_4_Unmade calls each function of disks that no call made.
func TestP18_4_Unmade(t *testing.T) {
	for name, d := range unmade() {
		for range 2 {
			for _, f := range append([]int{0, 1, 2}, noFiles...) {
				want(t, name+": Append", d.Append(f, []byte{1}), api.ErrNil)
				want(t, name+": Append", d.Append(f, nil), api.ErrNil)
				want(t, name+": Cut", d.Cut(f, 0), api.ErrNil)
				want(t, name+": Cut", d.Cut(f, -1), api.ErrNil)
				want(t, name+": Sync", d.Sync(f), api.ErrNil)
				if len(d.Read(f))+len(d.Kept(f)) != 0 || d.Size(f) != 0 || d.Units(f) != 0 {
					t.Errorf("%s: something of the file %d", name, f)
				}
			}
			if d.Used() != 0 || d.Room() != 0 || d.Fuse() != 0 || !d.Down() || d.Clone() != nil {
				t.Errorf("%s: used %d, room %d, fuse %d, down %v, clone %v", name, d.Used(), d.Room(), d.Fuse(), d.Down(), d.Clone())
			}
			// Neither makes a disk of it.
			d.Arm(3)
			d.Arm(-3)
			d.Arm(3)
			d.Crash()
			d.Crash(1, 2, 3, 4)
			d.Arm(1)
		}
	}
}

// TestP18_5_Drawn does drawn calls to disks with little room, and holds each answer, and what is told behind each, against the chapter's words; and what follows of them.
func TestP18_5_Drawn(t *testing.T) {
	r := rand.New(rand.NewSource(1))
	told := map[api.Errno]int{}
	for range 1500 {
		p := made(t, 1+r.Intn(1<<r.Intn(6)))
		for range 60 {
			f := r.Intn(files)
			if r.Intn(25) == 0 {
				f = noFiles[r.Intn(len(noFiles))]
			}
			switch r.Intn(12) {
			case 0, 1, 2, 3:
				b := make([]byte, r.Intn(1+p.d.Room()>>r.Intn(4)))
				r.Read(b)
				told[p.append(f, b...)]++
			case 4, 5, 6:
				told[p.cut(f, r.Intn(p.d.Size(f)+2)-r.Intn(20)/19)]++
			case 7, 8:
				told[p.sync(f)]++
			case 9:
				if r.Intn(3) == 0 {
					p.arm(r.Intn(9) - 1)
				}
			case 10:
				if r.Intn(2) == 0 || p.d.Down() {
					p.crash(numbers(r)...)
				}
			case 11:
				if r.Intn(2) == 0 {
					p = p.clone()
				}
			}
			follows(t, p.d)
		}
	}
	for _, e := range []api.Errno{api.OK, api.ErrArg, api.ErrDown, api.ErrDisk} {
		if told[e] < 1000 {
			t.Errorf("%d was told %d times alone", e, told[e])
		}
	}
}

// numbers are drawn numbers for a crash, of none up to more than there are files, small and great.
func numbers(r *rand.Rand) []int {
	var l []int
	for range r.Intn(6) {
		n := int(r.Uint64() >> r.Intn(64))
		if r.Intn(3) > 0 {
			n = r.Intn(40) - 10
		}
		l = append(l, n)
	}
	return l
}

// follows fails, unless needs are not above the room, and files hold no more than they need.
func follows(t *testing.T, d *disk.Disk) {
	t.Helper()
	held := 0
	for f := range files {
		held += d.Size(f)
	}
	if held > d.Used() || d.Used() > d.Room() {
		t.Fatalf("held %d, used %d, room %d", held, d.Used(), d.Room())
	}
}

// TestP18_5_EachWay does every way of a few calls to a disk with a room of three bytes, with a fuse and without; behind each it is crashed with each number of units.
func TestP18_5_EachWay(t *testing.T) {
	deeds := []func(pair){
		func(p pair) { p.append(0, byte(p.d.Units(0)+1)) },
		func(p pair) { p.append(0, 7, 8) },
		func(p pair) { p.append(1, 9) },
		func(p pair) { p.cut(0, 0) },
		func(p pair) { p.cut(0, 1) },
		func(p pair) { p.sync(0) },
		func(p pair) { p.crash(1) },
	}
	var goOn func(p pair, more int)
	goOn = func(p pair, more int) {
		for units := range p.d.Units(0) + 2 {
			c := p.clone()
			c.crash(units, units)
			follows(t, c.d)
		}
		follows(t, p.d)
		if more == 0 {
			return
		}
		for _, deed := range deeds {
			next := p.clone()
			deed(next)
			goOn(next, more-1)
		}
	}
	goOn(made(t, 3), 5)
	for fuse := 1; fuse <= 3; fuse++ {
		p := made(t, 3)
		p.arm(fuse)
		goOn(p, 4)
	}
}

// TestP18_5_WhatWasSyncedIsKept syncs a file, does much to the others, and crashes with drawn numbers: it holds what it held.
func TestP18_5_WhatWasSyncedIsKept(t *testing.T) {
	r := rand.New(rand.NewSource(2))
	for i := range 600 {
		d, _ := disk.New(60)
		f := i % files
		for range r.Intn(6) {
			d.Append(f, counted(byte(r.Intn(200)), r.Intn(12)))
			d.Cut(f, r.Intn(d.Size(f)+1))
		}
		was := d.Read(f)
		want(t, "Sync", d.Sync(f), api.OK)
		for range r.Intn(8) {
			g := (f + 1 + r.Intn(2)) % files
			if r.Intn(3) == 0 {
				d.Arm(r.Intn(4))
			}
			d.Append(g, counted(byte(r.Intn(200)), r.Intn(20)))
			d.Cut(g, r.Intn(d.Size(g)+1))
			if r.Intn(3) == 0 {
				d.Sync(g)
			}
		}
		for range 3 {
			if d.Crash(numbers(r)...); !bytes.Equal(d.Read(f), was) || !bytes.Equal(d.Kept(f), was) {
				t.Fatalf("what was synced is %v, not %v", d.Read(f), was)
			}
		}
	}
}

// TestP18_5_WhatIsHeldBehindACrash appends behind a sync: behind a crash there is what was synced, and a beginning of what was put behind it, of as many bytes as units.
func TestP18_5_WhatIsHeldBehindACrash(t *testing.T) {
	for put := range 8 {
		for units := range put + 1 {
			d, _ := disk.New(20)
			d.Append(2, counted(1, 5))
			d.Sync(2)
			for i := range put {
				d.Append(2, []byte{byte(6 + i)})
			}
			d.Crash(9, 9, units)
			holds(t, fmt.Sprintf("%d of %d units", units, put), d, 2, counted(1, 5+units)...)
		}
	}
}

// TestP18_5_ManySteps does far more steps than there is room for bytes, and crashes with each of many numbers of units.
func TestP18_5_ManySteps(t *testing.T) {
	d, _ := disk.New(10)
	var held []byte
	behind := [][]byte{nil} // so many units
	for i := range 20000 {
		for _, x := range []byte{byte(i), byte(i >> 8)} {
			held = append(held, x)
			behind = append(behind, slices.Clone(held))
		}
		want(t, "Append", d.Append(0, held[len(held)-2:]), api.OK)
		held = held[:i%3]
		behind = append(behind, slices.Clone(held))
		want(t, "Cut", d.Cut(0, i%3), api.OK)
		if !bytes.Equal(d.Read(0), held) {
			t.Fatalf("it holds %v, not %v", d.Read(0), held)
		}
	}
	all := len(behind) - 1
	if d.Used() != 4 || d.Units(0) != all {
		t.Fatalf("used %d, %d units; not 4, %d", d.Used(), d.Units(0), all)
	}
	for units := 0; units <= all; units += 1 + units%499 {
		c := d.Clone()
		c.Crash(units)
		holds(t, fmt.Sprintf("with %d units", units), c, 0, behind[units]...)
	}
	d.Crash(all)
	holds(t, "with all units", d, 0, held...)
}
