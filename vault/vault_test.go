package vault_test

import (
	"bytes"
	"encoding/binary"
	"fmt"
	"maps"
	"math"
	"math/rand"
	"slices"
	"testing"

	"mirador/api"
	"mirador/disk"
	"mirador/roll"
	"mirador/slot"
	"mirador/vault"
)

// The chapters' limits and sizes, as numbers of the test's own.
const (
	maxDisk    = 65536
	maxBytes   = 60000 // of a record, and of a snapshot
	files      = 3
	headSize   = 8  // of a frame
	numberSize = 8  // of a record's number, and of a turn
	fuse       = 50 // more calls than any one of the vault's makes
	greatest   = math.MaxUint64
)

// brief is a thing's text, cut where it is long.
func brief(x any) string {
	s := fmt.Sprint(x)
	return s[:min(len(s), 300)]
}

// summed is the sum of bytes by the words of layer 11's chapter, bit by bit.
func summed(b []byte) uint32 {
	sum := uint32(0xFFFFFFFF)
	for _, x := range b {
		sum ^= uint32(x)
		for range 8 {
			odd := sum%2 == 1
			sum /= 2
			if odd {
				sum ^= 0x82F63B78
			}
		}
	}
	return sum ^ 0xFFFFFFFF
}

// frameOf is a body's frame by the words of layer 19's chapter.
func frameOf(body []byte) []byte {
	number := binary.BigEndian.AppendUint32(nil, uint32(len(body)))
	sum := summed(slices.Concat(number, body))
	return slices.Concat(binary.BigEndian.AppendUint32(number, sum), body)
}

// recordOf is what the roll's file holds of a record.
func recordOf(number uint64, record []byte) []byte {
	return frameOf(slices.Concat(binary.BigEndian.AppendUint64(nil, number), record))
}

// snapshotOf is what a slots' file holds of a turn, a number and a snapshot.
func snapshotOf(turn, number uint64, snapshot []byte) []byte {
	return heldOf(turn, slices.Concat(binary.BigEndian.AppendUint64(nil, number), snapshot))
}

// heldOf is what a slots' file holds of a turn and of what the slots have as snapshot, whatever that is.
func heldOf(turn uint64, all []byte) []byte {
	return frameOf(slices.Concat(binary.BigEndian.AppendUint64(nil, turn), all))
}

// firstOf is the body of the frame with which bytes begin, and the frame's size; the size 0: they begin with none.
func firstOf(b []byte) ([]byte, int) {
	if len(b) < headSize {
		return nil, 0
	}
	many := uint64(binary.BigEndian.Uint32(b))
	if many < 1 || many > maxDisk || uint64(len(b)) < headSize+many {
		return nil, 0
	}
	body := b[headSize : headSize+many]
	if !bytes.Equal(b[:headSize], frameOf(body)[:headSize]) {
		return nil, 0
	}
	return body, headSize + int(many)
}

// turnOf is the turn of a slots' file, and what it has as snapshot; the turn 0: it has none.
func turnOf(b []byte) (uint64, []byte) {
	body, _ := firstOf(b)
	if len(body) < numberSize {
		return 0, nil
	}
	return binary.BigEndian.Uint64(body), body[numberSize:]
}

// model is a vault by the chapter's words, on a disk of its own.
type model struct {
	d        *disk.Disk
	current  int // the slots' file; 0: none
	turn     uint64
	has      bool
	snapshot []byte
	records  [][]byte
	last     uint64
}

// openBy is what the chapter's words say of Open of a disk that New made.
func openBy(d *disk.Disk) (*model, api.Errno) {
	if d.Down() {
		return nil, api.ErrDown
	}
	m := &model{d: d}
	var all []byte
	for _, n := range []int{1, 2} {
		if turn, held := turnOf(d.Read(n)); turn > m.turn {
			m.turn, m.current, all = turn, n, held
		}
	}
	bodies, e := m.rollBy()
	if e != api.OK {
		return nil, e
	}
	if m.turn > 0 {
		if len(all) < numberSize {
			return nil, api.ErrForm
		}
		m.has, m.last, m.snapshot = true, binary.BigEndian.Uint64(all), all[numberSize:]
	}
	for _, body := range bodies {
		if len(body) < numberSize+1 {
			return nil, api.ErrForm
		}
		switch number := binary.BigEndian.Uint64(body); {
		case number <= m.last:
		case number-1 == m.last:
			m.records = append(m.records, body[numberSize:])
			m.last = number
		default:
			return nil, api.ErrForm
		}
	}
	return m, api.OK
}

// rollBy is what the words of layer 20's chapter say of Open of the file 0, and the bodies.
func (m *model) rollBy() ([][]byte, api.Errno) {
	var bodies [][]byte
	held, end := m.d.Read(0), 0
	for {
		body, size := firstOf(held[end:])
		if size == 0 {
			break
		}
		bodies = append(bodies, body)
		end += size
	}
	if end < len(held) {
		if e := m.d.Cut(0, end); e != api.OK {
			return nil, e
		}
		return bodies, m.d.Sync(0)
	}
	if m.d.Units(0) > 0 {
		return bodies, m.d.Sync(0)
	}
	return bodies, api.OK
}

// put does what the chapter's words say of Put.
func (m *model) put(record []byte) api.Errno {
	if len(record) < 1 || len(record) > maxBytes || m.last == greatest || m.last == greatest-1 {
		return api.ErrArg
	}
	if e := m.d.Append(0, recordOf(m.last+1, record)); e != api.OK {
		return e
	}
	if e := m.d.Sync(0); e != api.OK {
		return e
	}
	m.records = append(m.records, bytes.Clone(record))
	m.last++
	return api.OK
}

// compact does what the chapter's words say of Compact.
func (m *model) compact(snapshot []byte) api.Errno {
	if len(snapshot) > maxBytes || m.turn == greatest {
		return api.ErrArg
	}
	to := 1
	if m.current == 1 {
		to = 2
	}
	if len(m.d.Read(to)) > 0 || m.d.Units(to) > 0 {
		if e := m.d.Cut(to, 0); e != api.OK {
			return e
		}
		if e := m.d.Sync(to); e != api.OK {
			return e
		}
	}
	if e := m.d.Append(to, snapshotOf(m.turn+1, m.last, snapshot)); e != api.OK {
		return e
	}
	if e := m.d.Sync(to); e != api.OK {
		return e
	}
	m.current, m.turn, m.has, m.snapshot, m.records = to, m.turn+1, true, bytes.Clone(snapshot), nil
	if e := m.d.Cut(0, 0); e != api.OK {
		return e
	}
	return m.d.Sync(0)
}

// sameDisk fails, unless two disks tell the same, and do so behind crashes with each number of units, too.
func sameDisk(t *testing.T, what string, got, want *disk.Disk) {
	t.Helper()
	sameNow(t, what, got, want)
	units := 0
	for f := range files {
		units = max(units, got.Units(f))
	}
	for n := range min(units, 200) + 1 {
		g, w := got.Clone(), want.Clone()
		g.Crash(n, n, n)
		w.Crash(n, n, n)
		for f := range files {
			if !bytes.Equal(g.Read(f), w.Read(f)) {
				t.Fatalf("%s: behind a crash with %d units the file %d holds %s, not %s", what, n, f, brief(g.Read(f)), brief(w.Read(f)))
			}
		}
	}
}

// sameNow fails, unless two disks tell the same.
func sameNow(t *testing.T, what string, got, want *disk.Disk) {
	t.Helper()
	if got.Used() != want.Used() || got.Room() != want.Room() || got.Fuse() != want.Fuse() || got.Down() != want.Down() {
		t.Fatalf("%s: used %d, room %d, fuse %d, down %v; not %d, %d, %d, %v", what, got.Used(), got.Room(), got.Fuse(), got.Down(), want.Used(), want.Room(), want.Fuse(), want.Down())
	}
	for f := range files {
		if !bytes.Equal(got.Read(f), want.Read(f)) || !bytes.Equal(got.Kept(f), want.Kept(f)) || got.Units(f) != want.Units(f) {
			t.Fatalf("%s: the file %d holds %s, kept %s, %d units; not %s, %s, %d", what, f, brief(got.Read(f)), brief(got.Kept(f)), got.Units(f), brief(want.Read(f)), brief(want.Kept(f)), want.Units(f))
		}
	}
}

// want fails, unless an answer is this one.
func want(t *testing.T, what string, got, want api.Errno) {
	t.Helper()
	if got != want {
		t.Fatalf("%s: %d, not %d", what, got, want)
	}
}

// newDisk is a disk with this room.
func newDisk(t *testing.T, room int) *disk.Disk {
	t.Helper()
	d, e := disk.New(room)
	want(t, "disk.New", e, api.OK)
	return d
}

// laid is a disk with this room whose files hold these bytes, which are kept.
func laid(t *testing.T, room int, held ...[]byte) *disk.Disk {
	t.Helper()
	d := newDisk(t, room)
	for f, b := range held {
		want(t, "Append", d.Append(f, b), api.OK)
		want(t, "Sync", d.Sync(f), api.OK)
	}
	return d
}

// goDown lets a disk go down, by a call that does nothing.
func goDown(t *testing.T, d *disk.Disk) {
	t.Helper()
	d.Arm(1)
	want(t, "Sync with a fuse of 1", d.Sync(0), api.ErrDown)
}

// opened is the vault of a disk.
func opened(t *testing.T, d *disk.Disk) *vault.Vault {
	t.Helper()
	v, e := vault.Open(d)
	if v == nil || e != api.OK {
		t.Fatalf("Open: %v, %d", v != nil, e)
	}
	return v
}

// refused opens no vault.
func refused(t *testing.T, what string, d *disk.Disk, e api.Errno) {
	t.Helper()
	if v, got := vault.Open(d); v != nil || got != e {
		t.Fatalf("%s: Open: a vault is %v, %d, not %d", what, v != nil, got, e)
	}
}

// told is the text of all that a vault tells, but for Size.
func told(v *vault.Vault) string {
	snapshot, ok := v.Snapshot()
	return text(ok, snapshot, v.Records(), v.Next())
}

// text is the text of what a vault tells.
func text(has bool, snapshot []byte, records [][]byte, next uint64) string {
	return fmt.Sprint(has, fmt.Sprintf("%x", snapshot), fmt.Sprintf("%x", records), next)
}

// text is the text of what the chapter's words say that a vault tells.
func (m *model) text() string { return text(m.has, m.snapshot, m.records, m.last+1) }

// tells fails, unless a vault tells what a model does.
func tells(t *testing.T, what string, v *vault.Vault, m *model) {
	t.Helper()
	if got, by := told(v), m.text(); got != by {
		t.Fatalf("%s: %s, not %s", what, brief(got), brief(by))
	}
	if v.Size() != m.d.Size(0) {
		t.Fatalf("%s: Size %d, not %d", what, v.Size(), m.d.Size(0))
	}
}

// counted fails, unless so many calls counted since the disk was armed with the test's fuse.
func counted(t *testing.T, what string, d *disk.Disk, calls int) {
	t.Helper()
	if d.Fuse() != fuse-calls {
		t.Fatalf("%s: %d calls counted, not %d", what, fuse-d.Fuse(), calls)
	}
}

// drawn are bytes that a draw of the test's own makes.
func drawn(r *rand.Rand, n int) []byte {
	b := make([]byte, n)
	r.Read(b)
	return b
}

// spoil writes over bytes and their spare room.
func spoil(b []byte) {
	all := b[:cap(b)]
	for i := range all {
		all[i] ^= 0xa5
	}
}

// opensAs opens a disk, and holds that against the chapter's words; of an error there is no model.
func opensAs(t *testing.T, what string, d *disk.Disk) (*vault.Vault, *model) {
	t.Helper()
	twin := d.Clone()
	m, by := openBy(twin)
	v, got := vault.Open(d)
	if got != by || (v != nil) != (by == api.OK) {
		t.Fatalf("%s: Open: a vault is %v, %d, not %d", what, v != nil, got, by)
	}
	sameDisk(t, what, d, twin)
	if m == nil {
		return nil, nil
	}
	tells(t, what, v, m)
	return v, m
}

// TestP22_Example holds the chapter's example.
func TestP22_Example(t *testing.T) {
	d := newDisk(t, 100)
	v := opened(t, d)
	want(t, "Put of 7", v.Put([]byte{7}), api.OK)
	want(t, "Compact of 5", v.Compact([]byte{5}), api.OK)
	want(t, "Put of 8", v.Put([]byte{8}), api.OK)
	for range 3 {
		snapshot, ok := v.Snapshot()
		records := v.Records()
		if !ok || !bytes.Equal(snapshot, []byte{5}) || len(records) != 1 || !bytes.Equal(records[0], []byte{8}) || v.Next() != 3 || v.Size() != 17 {
			t.Fatalf("%v, %v, %v, %d, %d", snapshot, ok, records, v.Next(), v.Size())
		}
		d.Crash()
		v = opened(t, d)
	}
}

// TestP22_1_Unmade has disks that no call made.
func TestP22_1_Unmade(t *testing.T) {
	for name, d := range map[string]*disk.Disk{"nil": nil, "zero value": {}, "new": new(disk.Disk), "a clone of nil": (*disk.Disk)(nil).Clone()} {
		refused(t, name, d, api.ErrNil)
	}
}

// TestP22_1_Empty opens disks without bytes, of each room.
func TestP22_1_Empty(t *testing.T) {
	for _, room := range []int{1, 2, 16, 17, 1000, maxDisk - 1, maxDisk} {
		d := newDisk(t, room)
		d.Arm(fuse)
		v, _ := opensAs(t, "no bytes", d)
		counted(t, "no bytes", d, 0)
		if _, ok := v.Snapshot(); ok || len(v.Records()) != 0 || v.Next() != 1 || v.Size() != 0 {
			t.Errorf("a room of %d: %s", room, told(v))
		}
	}
}

// TestP22_1_Down opens while the disk is down, whatever its files hold: nothing is done.
func TestP22_1_Down(t *testing.T) {
	good, short := recordOf(1, []byte{1}), heldOf(1, []byte{1})
	for _, held := range [][][]byte{{}, {good}, {good[:5]}, {recordOf(3, nil)}, {good, short}, {nil, snapshotOf(1, 1, nil), short}} {
		d := laid(t, 200, held...)
		goDown(t, d)
		d.Arm(fuse)
		was := d.Clone()
		refused(t, "down", d, api.ErrDown)
		sameDisk(t, "down", d, was)
		d.Crash()
		opensAs(t, "behind a crash", d)
	}
}

// TestP22_1_Roll opens files of which the roll's has a tail, or units that are not kept: it goes down at each call that this asks for, also where the snapshot, or a body, is none, and counts no other call.
func TestP22_1_Roll(t *testing.T) {
	good := recordOf(1, []byte{1})
	for name, f := range map[string]struct {
		kept  []byte
		do    func(d *disk.Disk)
		calls int
	}{
		"nothing to do":         {good, func(*disk.Disk) {}, 0},
		"a tail":                {slices.Concat(good, good[:9]), func(*disk.Disk) {}, 2},
		"a tail alone":          {[]byte{0}, func(*disk.Disk) {}, 2},
		"a tail, not kept":      {good, func(d *disk.Disk) { d.Append(0, []byte{1, 2}) }, 2},
		"a record, not kept":    {good, func(d *disk.Disk) { d.Append(0, recordOf(2, []byte{2})) }, 1},
		"a cut, not kept":       {slices.Concat(good, good), func(d *disk.Disk) { d.Cut(0, len(good)) }, 1},
		"cut to no bytes":       {good, func(d *disk.Disk) { d.Cut(0, 0) }, 1},
		"cut inside a record":   {good, func(d *disk.Disk) { d.Cut(0, len(good)-1) }, 2},
		"a short body, a tail":  {slices.Concat(frameOf([]byte{1}), []byte{1}), func(*disk.Disk) {}, 2},
		"a record too far":      {recordOf(3, []byte{1}), func(*disk.Disk) {}, 0},
		"a record too far, put": {nil, func(d *disk.Disk) { d.Append(0, recordOf(3, []byte{1})) }, 1},
	} {
		for slots, b := range map[string][]byte{"no snapshot": nil, "a snapshot": snapshotOf(1, 1, []byte{9}), "too short a one": heldOf(1, make([]byte, 7))} {
			for calls := 1; calls <= f.calls+1; calls++ {
				d := laid(t, 400, f.kept, nil, b)
				f.do(d)
				what := fmt.Sprintf("%s, %s, a fuse of %d", name, slots, calls)
				d.Arm(calls)
				c := d.Clone()
				opensAs(t, what, d)
				if d.Down() != (calls <= f.calls) {
					t.Fatalf("%s: down is %v", what, d.Down())
				}
				if calls <= f.calls {
					refused(t, what, c, api.ErrDown)
				}
				for _, x := range crashes(d) {
					opensAs(t, what+", behind a crash", x)
				}
			}
		}
	}
}

// TestP22_1_Snapshot opens slots' snapshots of each number of bytes: of fewer than 8 there is no vault, with and without records.
func TestP22_1_Snapshot(t *testing.T) {
	for n := range 30 {
		all := bytes.Repeat([]byte{3}, n)
		if n >= numberSize {
			copy(all, []byte{0, 0, 0, 0, 0, 0, 0, 3})
		}
		for _, held := range [][]byte{nil, recordOf(1, []byte{1}), recordOf(4, []byte{4}), recordOf(4, []byte{4})[:7], recordOf(9, []byte{9}), frameOf([]byte{1})} {
			for _, at := range []int{1, 2} {
				files := [][]byte{held, nil, nil}
				files[at] = heldOf(5, all)
				files[3-at] = heldOf(4, []byte{0, 0, 0, 0, 0, 0, 0, 9, 9})
				d := laid(t, 300, files...)
				opensAs(t, fmt.Sprint(n, " bytes"), d)
				if n < numberSize {
					refused(t, fmt.Sprint(n, " bytes"), d, api.ErrForm)
					if d.Size(0) != len(held) && d.Size(0) != 0 {
						t.Errorf("the file 0 has %d bytes", d.Size(0))
					}
				}
			}
		}
		if n < numberSize {
			continue
		}
		v := opened(t, laid(t, 300, nil, heldOf(5, all)))
		if b, ok := v.Snapshot(); !ok || !bytes.Equal(b, all[numberSize:]) || v.Next() != 4 || len(v.Records()) != 0 {
			t.Errorf("%d bytes: %v, %v, %d", n, b, ok, v.Next())
		}
	}
	all := append(make([]byte, numberSize), bytes.Repeat([]byte{7}, maxDisk-headSize-2*numberSize)...)
	if v, _ := opensAs(t, "great", laid(t, maxDisk, nil, heldOf(5, all))); v.Next() != 1 {
		t.Errorf("Next %d", v.Next())
	}
}

// TestP22_1_Slots opens slots that are torn, or of other turns: the snapshot is theirs of the greater turn, the first file's, if both are the same.
func TestP22_1_Slots(t *testing.T) {
	draw := rand.New(rand.NewSource(1))
	good := snapshotOf(7, 2, []byte{1})
	for at := range good {
		torn := bytes.Clone(good)
		torn[at] ^= 1 << draw.Intn(8)
		for _, b := range [][]byte{torn, good[:at]} {
			for _, held := range [][][]byte{{nil, b, nil}, {nil, nil, b}, {nil, b, snapshotOf(3, 1, []byte{5})}, {nil, snapshotOf(3, 1, []byte{5}), b}, {nil, b, b}} {
				for _, n := range []uint64{1, 2, 3} {
					held[0] = recordOf(n, []byte{8})
					opensAs(t, "torn", laid(t, 300, held...))
				}
			}
		}
	}
	for _, one := range []uint64{0, 1, 2, 1 << 63, greatest} {
		for _, two := range []uint64{0, 1, 2, 1 << 63, greatest} {
			v, m := opensAs(t, "two", laid(t, 300, nil, snapshotOf(one, 5, []byte{1}), snapshotOf(two, 6, []byte{2})))
			if two > one && (m.current != 2 || v.Next() != 7) || one >= two && one > 0 && (m.current != 1 || v.Next() != 6) {
				t.Errorf("the turns %d and %d: %s", one, two, told(v))
			}
		}
	}
	all := heldOf(9, bytes.Repeat([]byte{1}, 7))
	opensAs(t, "bytes behind the frame", laid(t, 300, nil, slices.Concat(all, good)))
	opensAs(t, "bytes behind the frame", laid(t, 300, nil, slices.Concat(good, all)))
}

// TestP22_1_Short opens rolls with bodies of each number of bytes: of fewer than 9 there is no vault, wherever they stand, whatever their number is.
func TestP22_1_Short(t *testing.T) {
	for n := 1; n <= 20; n++ {
		for _, number := range []byte{0, 1, 2, 3, 4, 5, 255} {
			for _, x := range []byte{0, 1, 255} {
				body := bytes.Repeat([]byte{x}, n)
				if n >= numberSize {
					copy(body, []byte{0, 0, 0, 0, 0, 0, 0, number})
				}
				for _, ahead := range [][]byte{nil, recordOf(1, []byte{1}), slices.Concat(recordOf(1, []byte{1}), recordOf(2, []byte{2})), recordOf(3, []byte{3}), frameOf([]byte{1})} {
					for _, behind := range [][]byte{nil, recordOf(3, []byte{3}), recordOf(9, []byte{9}), {1, 2}} {
						for _, slots := range [][]byte{nil, snapshotOf(1, 2, []byte{5}), snapshotOf(1, 0, nil), snapshotOf(1, greatest, nil)} {
							d := laid(t, 300, slices.Concat(ahead, frameOf(body), behind), slots)
							opensAs(t, fmt.Sprint("a body of ", n), d)
							if n < numberSize+1 {
								refused(t, fmt.Sprint("a body of ", n), d, api.ErrForm)
							}
						}
					}
				}
			}
		}
	}
}

// TestP22_1_Numbers opens rolls of all rows of few numbers, without a snapshot, and behind one of each number that is about an end.
func TestP22_1_Numbers(t *testing.T) {
	bases := []uint64{0, 0, 1, 2, 255, 256, 1<<31 - 1, 1 << 32, 1<<63 - 2, 1<<63 - 1, 1 << 63, greatest - 3, greatest - 2, greatest - 1, greatest}
	for i, base := range bases {
		var slots []byte
		if i > 0 {
			slots = snapshotOf(1, base, []byte{5})
		}
		numbers := []uint64{0, 1, base - 1, base, base + 1, base + 2, base + 3, base + 4, base ^ 1<<32, base ^ 1<<63, greatest}
		for at := range 1 + len(numbers) + 11*11 + 11*11*11 {
			held, left := []byte(nil), at
			for k := byte(0); left > 0; k++ {
				left--
				held = append(held, recordOf(numbers[left%len(numbers)], []byte{k, byte(left % len(numbers))})...)
				left /= len(numbers)
			}
			opensAs(t, fmt.Sprint("behind ", base), laid(t, 100, held, slots))
		}
	}
}

// TestP22_1_Rows opens rolls whose answers are written out here.
func TestP22_1_Rows(t *testing.T) {
	for _, c := range []struct {
		last    int64 // of the snapshot; below 0: there is none
		numbers []uint64
		e       api.Errno
		records string // the places of those that are taken
		next    uint64
	}{
		{-1, nil, api.OK, "[]", 1},
		{-1, []uint64{1}, api.OK, "[0]", 2},
		{-1, []uint64{1, 2, 3}, api.OK, "[0 1 2]", 4},
		{-1, []uint64{0}, api.OK, "[]", 1},
		{-1, []uint64{0, 1, 0, 1, 2, 1}, api.OK, "[1 4]", 3},
		{-1, []uint64{2}, api.ErrForm, "", 0},
		{-1, []uint64{1, 3}, api.ErrForm, "", 0},
		{-1, []uint64{1, 2, 4, 3}, api.ErrForm, "", 0},
		{-1, []uint64{greatest}, api.ErrForm, "", 0},
		{0, []uint64{0, 1}, api.OK, "[1]", 2},
		{0, []uint64{2}, api.ErrForm, "", 0},
		{3, nil, api.OK, "[]", 4},
		{3, []uint64{1, 2, 3}, api.OK, "[]", 4},
		{3, []uint64{3, 1, 2, 4, 4, 5, 3}, api.OK, "[3 5]", 6},
		{3, []uint64{4}, api.OK, "[0]", 5},
		{3, []uint64{1, 2, 5}, api.ErrForm, "", 0},
		{3, []uint64{5, 4}, api.ErrForm, "", 0},
		{math.MaxInt64, []uint64{1 << 63}, api.OK, "[0]", 1<<63 + 1},
		{math.MaxInt64, []uint64{1<<63 + 1}, api.ErrForm, "", 0},
	} {
		var held, slots []byte
		for i, n := range c.numbers {
			held = append(held, recordOf(n, []byte{byte(i)})...)
		}
		if c.last >= 0 {
			slots = snapshotOf(1, uint64(c.last), nil)
		}
		d := laid(t, 300, held, slots)
		what := fmt.Sprint(c.numbers, " behind ", c.last)
		opensAs(t, what, d)
		if c.e != api.OK {
			refused(t, what, d, c.e)
			continue
		}
		v := opened(t, d)
		places := []byte{}
		for _, record := range v.Records() {
			places = append(places, record...)
		}
		if fmt.Sprint(places) != c.records || v.Next() != c.next || v.Size() != len(held) {
			t.Errorf("%s: %v, %d, %d", what, places, v.Next(), v.Size())
		}
	}
}

// TestP22_1_Greatest opens rolls about the greatest number: it is the last one, Next is 0, and whatever stands behind is passed over.
func TestP22_1_Greatest(t *testing.T) {
	end := recordOf(greatest, []byte{255})
	for _, behind := range [][]byte{nil, end, recordOf(0, []byte{1}), recordOf(1, []byte{1}), recordOf(greatest-1, []byte{1})} {
		v, _ := opensAs(t, "the greatest", laid(t, 300, slices.Concat(end, behind), snapshotOf(1, greatest-1, []byte{5})))
		if v.Next() != 0 || len(v.Records()) != 1 || !bytes.Equal(v.Records()[0], []byte{255}) {
			t.Errorf("behind it: %s", told(v))
		}
		v, _ = opensAs(t, "the greatest", laid(t, 300, slices.Concat(end, behind), snapshotOf(1, greatest, []byte{5})))
		if v.Next() != 0 || len(v.Records()) != 0 {
			t.Errorf("a snapshot of it: %s", told(v))
		}
	}
	v, _ := opensAs(t, "ahead of the greatest", laid(t, 300, nil, snapshotOf(1, greatest-1, nil)))
	if v.Next() != greatest {
		t.Errorf("Next %d", v.Next())
	}
	d := laid(t, 300, slices.Concat(end, frameOf([]byte{1})), snapshotOf(1, greatest-1, nil))
	refused(t, "a short body behind", d, api.ErrForm)
}

// TestP22_1_Long opens records that are longer than Put takes: Open takes them as they are.
func TestP22_1_Long(t *testing.T) {
	for _, n := range []int{maxBytes, maxBytes + 1, maxDisk - headSize - numberSize} {
		v, _ := opensAs(t, "long", laid(t, maxDisk, recordOf(1, make([]byte, n))))
		if len(v.Records()) != 1 || len(v.Records()[0]) != n {
			t.Errorf("%d bytes: %d records", n, len(v.Records()))
		}
	}
}

// begin is a disk whose files hold a vault, and the vault, and its model; the disk is armed with the test's fuse.
func begin(t *testing.T, room int, held ...[]byte) (*disk.Disk, *vault.Vault, *model) {
	t.Helper()
	d := laid(t, room, held...)
	v, m := opensAs(t, "begin", d)
	d.Arm(fuse)
	m.d.Arm(fuse)
	return d, v, m
}

// beginnings are what files hold of a vault: without a snapshot, with one in either file, with records and without, with such that are passed over.
func beginnings() map[string][][]byte {
	one, two := recordOf(1, []byte{1}), recordOf(2, []byte{2, 2})
	return map[string][][]byte{
		"nothing":                      {},
		"two records":                  {slices.Concat(one, two)},
		"a snapshot":                   {nil, snapshotOf(1, 7, []byte{7})},
		"a snapshot in the file 2":     {nil, nil, snapshotOf(4, 7, []byte{7})},
		"two snapshots":                {nil, snapshotOf(3, 7, []byte{7}), snapshotOf(4, 0, nil)},
		"a snapshot ahead of records":  {slices.Concat(one, two), snapshotOf(2, 0, []byte{7}), snapshotOf(1, 0, nil)},
		"a snapshot behind a record":   {slices.Concat(one, two), snapshotOf(2, 1, []byte{7})},
		"a snapshot behind two":        {slices.Concat(one, two), snapshotOf(1, 2, nil), []byte{1, 2, 3}},
		"two snapshots, and a record":  {recordOf(9, []byte{9}), snapshotOf(1, 7, nil), snapshotOf(2, 8, []byte{8})},
		"torn slots, and two records":  {slices.Concat(one, two), snapshotOf(1, 2, nil)[:20]},
		"a great number, and a record": {recordOf(1<<63+1, []byte{9}), snapshotOf(1, 1<<63, nil)},
	}
}

// TestP22_2_Put puts records behind each beginning: what the files hold is written out here, byte by byte, and two calls count.
func TestP22_2_Put(t *testing.T) {
	draw := rand.New(rand.NewSource(2))
	for name, held := range beginnings() {
		d, v, m := begin(t, maxDisk, held...)
		file := d.Read(0)
		for i, n := range []int{1, 1, 2, 7, 8, 9, 255, 256, 1000, 20000, 3} {
			record := drawn(draw, n)
			file = append(file, recordOf(v.Next(), record)...)
			d.Arm(fuse)
			m.d.Arm(fuse)
			want(t, name, v.Put(record), api.OK)
			want(t, name, m.put(record), api.OK)
			counted(t, name, d, 2)
			sameNow(t, name, d, m.d)
			tells(t, name, v, m)
			if !bytes.Equal(d.Read(0), file) || !bytes.Equal(d.Kept(0), file) || d.Units(0) != 0 || v.Size() != len(file) {
				t.Fatalf("%s: behind the Put %d the file 0 holds %s, not %s", name, i, brief(d.Read(0)), brief(file))
			}
		}
		opensAs(t, name, d)
	}
}

// TestP22_2_Bytes puts a record, whose file's bytes are written out here.
func TestP22_2_Bytes(t *testing.T) {
	d := laid(t, 200, nil, snapshotOf(1, 0x0102030405060707, nil))
	v := opened(t, d)
	want(t, "Put", v.Put([]byte{9, 10}), api.OK)
	body := []byte{1, 2, 3, 4, 5, 6, 7, 8, 9, 10}
	sum := binary.BigEndian.AppendUint32(nil, summed(append([]byte{0, 0, 0, 10}, body...)))
	if !bytes.Equal(d.Read(0), slices.Concat([]byte{0, 0, 0, 10}, sum, body)) {
		t.Errorf("it holds %v", d.Read(0))
	}
	r, e := roll.Open(d, 0)
	want(t, "roll.Open", e, api.OK)
	if r.Len() != 1 || !bytes.Equal(r.Bodies()[0], body) {
		t.Errorf("the roll has %v", r.Bodies())
	}
}

// TestP22_2_Sizes puts records that may not be: nothing counts, also while the disk is down; and such that just may.
func TestP22_2_Sizes(t *testing.T) {
	far := make([]byte, 1<<25)
	for name, held := range beginnings() {
		d, v, m := begin(t, maxDisk, held...)
		for _, down := range []bool{false, true} {
			if down {
				goDown(t, d)
				goDown(t, m.d)
			}
			for _, n := range []int{0, maxBytes + 1, maxBytes + 2, maxDisk - numberSize, maxDisk - numberSize + 1, maxDisk, maxDisk + 1, 1<<16 + maxBytes, 1<<24 + 1, len(far)} {
				want(t, name, v.Put(far[:n]), api.ErrArg)
			}
			want(t, name, v.Put(nil), api.ErrArg)
			sameNow(t, name, d, m.d)
			tells(t, name, v, m)
		}
		for _, n := range []int{1, maxBytes - 1, maxBytes} {
			d, v, m := begin(t, maxDisk, held...)
			want(t, name, v.Put(far[:n]), api.OK)
			want(t, name, m.put(far[:n]), api.OK)
			sameNow(t, name, d, m.d)
			tells(t, name, v, m)
		}
	}
}

// TestP22_2_Last puts where Next is about the greatest number: of that one, and of 0, nothing is put, and nothing counts.
func TestP22_2_Last(t *testing.T) {
	for last := uint64(greatest - 4); ; last++ {
		for _, held := range [][]byte{nil, recordOf(last, []byte{9})} {
			for _, base := range []uint64{last, last - 1} {
				if base != last && held == nil {
					continue
				}
				d, v, m := begin(t, 300, held, snapshotOf(1, base, []byte{5}))
				for i := range 6 {
					d.Arm(fuse)
					m.d.Arm(fuse)
					by := api.OK
					if last+uint64(i) >= greatest-1 || last+uint64(i) < 10 {
						by = api.ErrArg
					}
					want(t, fmt.Sprint("behind ", m.last), v.Put([]byte{8}), by)
					want(t, fmt.Sprint("behind ", m.last), m.put([]byte{8}), by)
					if by != api.OK {
						counted(t, "it may not be", d, 0)
						want(t, "no record", v.Put(nil), api.ErrArg)
						want(t, "no room", v.Put(make([]byte, 900)), api.ErrArg)
						sameDisk(t, "it may not be", d, m.d)
						tells(t, "it may not be", v, m)
						break
					}
					sameDisk(t, "Put", d, m.d)
					tells(t, "Put", v, m)
				}
				if v.Next() != greatest && v.Next() != 0 {
					t.Errorf("Next is %d", v.Next())
				}
				goDown(t, d)
				want(t, "down", v.Put([]byte{8}), api.ErrArg)
			}
		}
		if last == greatest {
			break
		}
	}
}

// TestP22_2_Room puts where there is just room enough, and too little; also where files need more than they hold.
func TestP22_2_Room(t *testing.T) {
	for name, held := range beginnings() {
		used := 0
		for _, b := range held {
			used += len(b)
		}
		for size := 1; size < 12; size++ {
			for _, spare := range []int{0, 1, 2, 17, 18} {
				for _, more := range []int{0, 5} {
					room := used + headSize + numberSize + size + more - spare
					if room < max(used+more, 1) {
						continue
					}
					d, v, m := begin(t, room, held...)
					for _, x := range []*disk.Disk{d, m.d} { // the file 2 needs more than it holds
						want(t, name, x.Append(2, make([]byte, more)), api.OK)
						want(t, name, x.Cut(2, x.Size(2)-more), api.OK)
						x.Arm(fuse)
					}
					record := bytes.Repeat([]byte{6}, size)
					got := v.Put(record)
					want(t, name, got, m.put(record))
					if (got == api.OK) != (spare == 0) || spare > 0 && got != api.ErrDisk {
						t.Fatalf("%s: %d bytes too little: %d", name, spare, got)
					}
					sameDisk(t, name, d, m.d)
					tells(t, name, v, m)
					if got == api.ErrDisk {
						counted(t, name, d, 0)
						got = v.Put([]byte{6})
						want(t, name, got, m.put([]byte{6}))
						sameDisk(t, name, d, m.d)
						tells(t, name, v, m)
					}
				}
			}
		}
	}
}

// TestP22_2_Fuse lets the disk go down at each call of a Put, and puts while it is down: Next and Records are as they were.
func TestP22_2_Fuse(t *testing.T) {
	for name, held := range beginnings() {
		for calls := 1; calls <= 3; calls++ {
			d, v, m := begin(t, 300, held...)
			was := told(v)
			d.Arm(calls)
			m.d.Arm(calls)
			got := v.Put([]byte{6, 6})
			want(t, name, got, m.put([]byte{6, 6}))
			if (got == api.OK) != (calls == 3) {
				t.Fatalf("%s: a fuse of %d: %d", name, calls, got)
			}
			sameDisk(t, name, d, m.d)
			tells(t, name, v, m)
			if got == api.ErrDown && told(v) != was {
				t.Fatalf("%s: %s, not %s", name, told(v), was)
			}
			if calls == 3 {
				goDown(t, d)
				goDown(t, m.d)
			}
			down := told(v)
			for _, n := range []int{1, 2, 1000, maxBytes} { // there is no room for some of them
				want(t, name, v.Put(make([]byte, n)), api.ErrDown)
			}
			want(t, name, v.Put(nil), api.ErrArg)
			sameDisk(t, name, d, m.d)
			if told(v) != down {
				t.Fatalf("%s: %s, not %s", name, told(v), down)
			}
			for _, c := range crashes(d) {
				opensAs(t, name, c)
			}
		}
	}
}

// TestP22_3_Compact compacts behind each beginning, one snapshot behind the other, with and without records between: what the files hold is written out here, byte by byte, and the calls that count are told.
func TestP22_3_Compact(t *testing.T) {
	draw := rand.New(rand.NewSource(3))
	for name, held := range beginnings() {
		d, v, m := begin(t, maxDisk, held...)
		for i, n := range []int{3, 1, 0, 0, 8, 20000, 7, 20001, 9, 0} {
			for k := range i % 3 {
				want(t, name, v.Put([]byte{byte(k), byte(i)}), api.OK)
				want(t, name, m.put([]byte{byte(k), byte(i)}), api.OK)
			}
			snapshot := drawn(draw, n)
			to := 1
			if m.current == 1 {
				to = 2
			}
			calls := 4 + 2*min(d.Size(to), 1)
			file := snapshotOf(m.turn+1, v.Next()-1, snapshot)
			other := d.Read(3 - to)
			next := v.Next()
			d.Arm(fuse)
			m.d.Arm(fuse)
			want(t, name, v.Compact(snapshot), api.OK)
			want(t, name, m.compact(snapshot), api.OK)
			counted(t, name, d, calls)
			sameNow(t, name, d, m.d)
			tells(t, name, v, m)
			if got, ok := v.Snapshot(); !ok || !bytes.Equal(got, snapshot) || len(v.Records()) != 0 || v.Next() != next || v.Size() != 0 {
				t.Fatalf("%s: behind the Compact %d: %s", name, i, brief(told(v)))
			}
			if !bytes.Equal(d.Kept(to), file) || !bytes.Equal(d.Read(to), file) || !bytes.Equal(d.Kept(3-to), other) || len(d.Kept(0)) != 0 || d.Units(0)+d.Units(1)+d.Units(2) != 0 {
				t.Fatalf("%s: behind the Compact %d the file %d holds %s, not %s", name, i, to, brief(d.Read(to)), brief(file))
			}
		}
		opensAs(t, name, d)
	}
}

// TestP22_3_Bytes compacts, and reads the file's bytes, which are written out here, with layer 21, too.
func TestP22_3_Bytes(t *testing.T) {
	d := laid(t, 200, recordOf(0x0102030405060708, []byte{1}), snapshotOf(0x1112131415161717, 0x0102030405060707, nil))
	v := opened(t, d)
	want(t, "Compact", v.Compact([]byte{9, 10}), api.OK)
	body := []byte{0x11, 0x12, 0x13, 0x14, 0x15, 0x16, 0x17, 0x18, 1, 2, 3, 4, 5, 6, 7, 8, 9, 10}
	sum := binary.BigEndian.AppendUint32(nil, summed(append([]byte{0, 0, 0, 18}, body...)))
	if !bytes.Equal(d.Read(2), slices.Concat([]byte{0, 0, 0, 18}, sum, body)) {
		t.Errorf("it holds %v", d.Read(2))
	}
	s, e := slot.Open(d, 1, 2)
	want(t, "slot.Open", e, api.OK)
	if got, ok := s.Get(); !ok || !bytes.Equal(got, body[numberSize:]) || s.File() != 2 {
		t.Errorf("the slots have %v", got)
	}
}

// TestP22_3_Sizes compacts to snapshots that are too great: nothing counts, also while the disk is down; and to such that just may be.
func TestP22_3_Sizes(t *testing.T) {
	far := make([]byte, 1<<25)
	for name, held := range beginnings() {
		for _, down := range []bool{false, true} {
			d, v, m := begin(t, maxDisk, held...)
			if down {
				goDown(t, d)
				goDown(t, m.d)
			}
			for _, n := range []int{maxBytes + 1, maxBytes + 2, maxDisk - 2*numberSize, maxDisk - 2*numberSize + 1, maxDisk, maxDisk + 1, 1<<16 + maxBytes, 1<<24 + 1, len(far)} {
				want(t, name, v.Compact(far[:n]), api.ErrArg)
			}
			sameNow(t, name, d, m.d)
			tells(t, name, v, m)
		}
		for _, n := range []int{0, 1, maxBytes - 1, maxBytes} {
			d, v, m := begin(t, maxDisk, held...)
			want(t, name, v.Compact(far[:n]), api.OK)
			want(t, name, m.compact(far[:n]), api.OK)
			sameNow(t, name, d, m.d)
			tells(t, name, v, m)
			opensAs(t, name, d)
		}
	}
}

// TestP22_3_LastTurn compacts behind the slots' greatest turn, and the one ahead of it: of that one it may not be, and nothing counts.
func TestP22_3_LastTurn(t *testing.T) {
	for turn := uint64(greatest - 2); ; turn++ {
		for at := 1; at <= 2; at++ {
			held := [][]byte{recordOf(8, []byte{8}), nil, nil}
			held[at] = snapshotOf(turn, 7, []byte{7})
			held[3-at] = snapshotOf(1, 6, []byte{6})
			d, v, m := begin(t, 300, held...)
			for range 3 {
				d.Arm(fuse)
				m.d.Arm(fuse)
				by := api.OK
				if m.turn == greatest {
					by = api.ErrArg
				}
				want(t, fmt.Sprint("behind ", m.turn), v.Compact([]byte{9}), by)
				want(t, fmt.Sprint("behind ", m.turn), m.compact([]byte{9}), by)
				if by != api.OK {
					counted(t, "it may not be", d, 0)
				}
				sameDisk(t, "Compact", d, m.d)
				tells(t, "Compact", v, m)
				want(t, "Put", v.Put([]byte{4}), api.OK)
				want(t, "Put", m.put([]byte{4}), api.OK)
				tells(t, "Put", v, m)
			}
		}
		if turn == greatest {
			break
		}
	}
}

// TestP22_3_LastNumber compacts behind the greatest numbers: the snapshot has them, and Next stays.
func TestP22_3_LastNumber(t *testing.T) {
	for _, last := range []uint64{greatest - 2, greatest - 1, greatest} {
		for _, base := range []uint64{last, last - 1} {
			d, v, m := begin(t, 300, recordOf(last, []byte{9}), snapshotOf(1, base, []byte{5}))
			for i := range 3 {
				want(t, "Compact", v.Compact([]byte{byte(i)}), api.OK)
				want(t, "Compact", m.compact([]byte{byte(i)}), api.OK)
				sameDisk(t, "Compact", d, m.d)
				tells(t, "Compact", v, m)
				if v.Next() != last+1 {
					t.Errorf("Next is %d", v.Next())
				}
			}
			w, _ := opensAs(t, "opened again", d)
			if w.Next() != last+1 {
				t.Errorf("Next is %d", w.Next())
			}
		}
	}
}

// TestP22_3_Fuse lets the disk go down at each call of a Compact: in the slots' Put nothing changes, in the roll's Clear the snapshot is there; and asks for all calls behind that.
func TestP22_3_Fuse(t *testing.T) {
	for name, held := range beginnings() {
		_, _, m := begin(t, 300, held...)
		to := 1
		if m.current == 1 {
			to = 2
		}
		calls := 4 + 2*min(m.d.Size(to), 1)
		for n := 1; n <= calls+1; n++ {
			d, v, m := begin(t, 300, held...)
			was, next := told(v), v.Next()
			d.Arm(n)
			m.d.Arm(n)
			what := fmt.Sprintf("%s, a fuse of %d", name, n)
			got := v.Compact([]byte{9, 9})
			want(t, what, got, m.compact([]byte{9, 9}))
			if (got == api.OK) != (n > calls) || got != api.OK && got != api.ErrDown {
				t.Fatalf("%s: %d", what, got)
			}
			sameDisk(t, what, d, m.d)
			tells(t, what, v, m)
			if n <= calls-2 && told(v) != was {
				t.Fatalf("%s: %s, not %s", what, told(v), was)
			}
			if n > calls-2 && told(v) != text(true, []byte{9, 9}, nil, next) {
				t.Fatalf("%s: %s", what, told(v))
			}
			if n > calls {
				goDown(t, d)
				goDown(t, m.d)
			}
			down := told(v)
			for range 2 {
				want(t, what, v.Put([]byte{6}), api.ErrDown)
				want(t, what, v.Compact([]byte{7}), api.ErrDown)
				want(t, what, v.Put(nil), api.ErrArg)
				want(t, what, v.Compact(make([]byte, maxBytes)), api.ErrDown)
				if told(v) != down {
					t.Fatalf("%s: %s, not %s", what, told(v), down)
				}
				sameDisk(t, what, d, m.d)
			}
			for _, c := range crashes(d) {
				v, m := opensAs(t, what, c)
				want(t, what, v.Put([]byte{6}), m.put([]byte{6}))
				want(t, what, v.Compact([]byte{7}), m.compact([]byte{7}))
				want(t, what, v.Put([]byte{8}), m.put([]byte{8}))
				sameNow(t, what, c, m.d)
				tells(t, what, v, m)
			}
		}
	}
}

// TestP22_3_NotCleared puts and compacts by a vault whose roll could not be cleared, behind the crash, without opening it again: what is left in the roll is passed over.
func TestP22_3_NotCleared(t *testing.T) {
	d, v, m := begin(t, 300, slices.Concat(recordOf(1, []byte{1}), recordOf(2, []byte{2})))
	for _, x := range []*disk.Disk{d, m.d} {
		x.Arm(3)
	}
	want(t, "Compact", v.Compact([]byte{5}), api.ErrDown)
	want(t, "Compact", m.compact([]byte{5}), api.ErrDown)
	for _, x := range []*disk.Disk{d, m.d} {
		x.Crash()
	}
	tells(t, "behind the crash", v, m)
	want(t, "Put", v.Put([]byte{3}), api.OK)
	want(t, "Put", m.put([]byte{3}), api.OK)
	sameDisk(t, "Put", d, m.d)
	tells(t, "Put", v, m)
	w, _ := opensAs(t, "opened again", d.Clone())
	if told(w) != text(true, []byte{5}, [][]byte{{3}}, 4) || w.Size() != 17*3 {
		t.Errorf("opened again: %s", told(w))
	}
	want(t, "Compact", v.Compact([]byte{6}), api.OK)
	want(t, "Compact", m.compact([]byte{6}), api.OK)
	sameDisk(t, "Compact", d, m.d)
	tells(t, "Compact", v, m)
}

// TestP22_3_Room compacts where there is just room enough, and too little: then the vault is as it was.
func TestP22_3_Room(t *testing.T) {
	for name, held := range beginnings() {
		_, _, m := begin(t, 300, held...)
		to := 1
		if m.current == 1 {
			to = 2
		}
		used := m.d.Used() - m.d.Size(to)
		for size := range 12 {
			for _, spare := range []int{0, 1, 2, 24, 30} {
				room := used + headSize + 2*numberSize + size - spare
				if room < m.d.Used() || room < 1 {
					continue
				}
				d, v, m := begin(t, room, held...)
				was := told(v)
				snapshot := bytes.Repeat([]byte{6}, size)
				got := v.Compact(snapshot)
				want(t, name, got, m.compact(snapshot))
				if (got == api.OK) != (spare == 0) || spare > 0 && got != api.ErrDisk {
					t.Fatalf("%s: %d bytes too little: %d", name, spare, got)
				}
				sameDisk(t, name, d, m.d)
				tells(t, name, v, m)
				if got == api.ErrDisk && told(v) != was {
					t.Fatalf("%s: %s, not %s", name, told(v), was)
				}
				got = v.Put([]byte{6})
				want(t, name, got, m.put([]byte{6}))
				got = v.Compact(nil)
				want(t, name, got, m.compact(nil))
				sameDisk(t, name, d, m.d)
				tells(t, name, v, m)
				opensAs(t, name, d)
			}
		}
	}
}

// TestP22_4_Size changes the file 0 through the disk itself behind Open: Size is what it holds then, and nothing else that the vault tells changes.
func TestP22_4_Size(t *testing.T) {
	for name, held := range beginnings() {
		d, v, m := begin(t, 400, held...)
		d.Arm(0)
		m.d.Arm(0)
		for _, b := range [][]byte{{1}, {2, 3}, recordOf(v.Next(), []byte{4}), make([]byte, 40)} {
			want(t, name, d.Append(0, b), api.OK)
			want(t, name, m.d.Append(0, b), api.OK)
			tells(t, name, v, m)
		}
		for size := d.Size(0); size >= 0; size-- {
			want(t, name, d.Cut(0, size), api.OK)
			want(t, name, m.d.Cut(0, size), api.OK)
			if v.Size() != size {
				t.Fatalf("%s: Size %d, not %d", name, v.Size(), size)
			}
			tells(t, name, v, m)
		}
		goDown(t, d)
		goDown(t, m.d)
		tells(t, name, v, m)
		d.Crash(1)
		m.d.Crash(1)
		tells(t, name, v, m)
	}
}

// TestP22_4_New changes records and snapshots that were handed in, and that were told: neither a file nor another answer changes.
func TestP22_4_New(t *testing.T) {
	row := bytes.Repeat([]byte{1, 2, 3}, 20)
	spare := bytes.Clone(row)
	d := newDisk(t, 1000)
	v := opened(t, d)
	want(t, "Put", v.Put(spare[:3]), api.OK)
	want(t, "Put", v.Put(spare[:6]), api.OK)
	want(t, "Compact", v.Compact(spare[:3]), api.OK)
	want(t, "Put", v.Put(spare[:3]), api.OK)
	want(t, "Put", v.Put(spare[:6]), api.OK)
	if !bytes.Equal(spare, row) {
		t.Errorf("what was handed in, or its spare room, was changed: %v", spare)
	}
	spoil(spare)
	by := text(true, row[:3], [][]byte{row[:3], row[:6]}, 5)
	for _, v := range []*vault.Vault{v, opened(t, d)} {
		if told(v) != by {
			t.Fatalf("behind a change of what was handed in: %s", told(v))
		}
		held := d.Read(0)
		snapshot, _ := v.Snapshot()
		records := v.Records()
		spoil(records[0])
		if told(v) != by || !bytes.Equal(records[1], row[:6]) {
			t.Fatalf("behind a change of an answer: %s, %v", told(v), records)
		}
		spoil(records[1])
		records[0] = nil
		_ = append(records[:1], []byte{9}, []byte{9}, []byte{9})
		spoil(snapshot)
		if told(v) != by || !bytes.Equal(d.Read(0), held) {
			t.Fatalf("behind a change of an answer: %s", told(v))
		}
	}
	snapshot, _ := v.Snapshot()
	records := v.Records()
	want(t, "Put", v.Put(records[0]), api.OK)
	want(t, "Compact", v.Compact(snapshot), api.OK)
	want(t, "Compact", v.Compact([]byte{4}), api.OK)
	want(t, "Compact", v.Compact([]byte{4}), api.OK)
	want(t, "Put", v.Put([]byte{4}), api.OK)
	if !bytes.Equal(snapshot, row[:3]) || !bytes.Equal(records[0], row[:3]) || !bytes.Equal(records[1], row[:6]) || len(records) != 2 {
		t.Errorf("an answer was changed by a later call: %v, %v", snapshot, records)
	}
}

// TestP22_4_Unmade asks vaults that no call made, with records and snapshots that may be and that may not.
func TestP22_4_Unmade(t *testing.T) {
	for name, v := range map[string]*vault.Vault{"nil": nil, "zero value": {}, "new": new(vault.Vault)} {
		for _, n := range []int{0, 1, maxBytes, maxBytes + 1, 1 << 20} {
			want(t, name, v.Put(make([]byte, n)), api.ErrNil)
			want(t, name, v.Compact(make([]byte, n)), api.ErrNil)
		}
		want(t, name, v.Put(nil), api.ErrNil)
		want(t, name, v.Compact(nil), api.ErrNil)
		snapshot, ok := v.Snapshot()
		if ok || len(snapshot) != 0 || len(v.Records()) != 0 || v.Next() != 0 || v.Size() != 0 {
			t.Errorf("%s: %s, %d", name, told(v), v.Size())
		}
	}
}

// TestP22_Apart has vaults of a disk and of its clone: each has its own records.
func TestP22_Apart(t *testing.T) {
	d := newDisk(t, 400)
	a := opened(t, d)
	want(t, "Put", a.Put([]byte{1}), api.OK)
	b := opened(t, d.Clone())
	want(t, "Put", b.Put([]byte{2}), api.OK)
	want(t, "Compact", a.Compact([]byte{3}), api.OK)
	if told(a) != text(true, []byte{3}, nil, 2) || told(b) != text(false, nil, [][]byte{{1}, {2}}, 3) {
		t.Errorf("%s, %s", told(a), told(b))
	}
}

// TestP22_Drawn does drawn calls to a vault, and to its disk, and holds each answer, and the disk behind each, against the chapter's words. Behind what was done to the disk itself the vault is opened anew.
func TestP22_Drawn(t *testing.T) {
	draw := rand.New(rand.NewSource(4))
	met := map[api.Errno]int{}
	for range 1500 {
		d := newDisk(t, 1+draw.Intn(1<<(5+draw.Intn(5))))
		v, m := opensAs(t, "Open", d)
		for range 40 {
			var got, by api.Errno
			what := ""
			switch draw.Intn(8) {
			case 0, 1, 2, 3:
				record := drawn(draw, draw.Intn(9))
				what = "Put"
				got, by = v.Put(record), m.put(record)
			case 4, 5:
				snapshot := drawn(draw, draw.Intn(9))
				what = "Compact"
				got, by = v.Compact(snapshot), m.compact(snapshot)
			case 6:
				if d.Down() || draw.Intn(4) == 0 {
					units := []int{draw.Intn(40), draw.Intn(40), draw.Intn(40)}
					d.Crash(units...)
				}
				d.Arm(draw.Intn(12))
				what = "Open"
				v, m = opensAs(t, what, d)
			case 7:
				tamper(draw, d)
				what = "the disk itself"
				v, m = opensAs(t, what, d)
			}
			if v == nil {
				if d.Down() {
					met[api.ErrDown]++
				} else {
					met[api.ErrForm]++
				}
				break
			}
			met[got]++
			want(t, what, got, by)
			sameNow(t, what, d, m.d)
			if draw.Intn(4) == 0 {
				sameDisk(t, what, d, m.d)
			}
			tells(t, what, v, m)
		}
	}
	for _, e := range []api.Errno{api.OK, api.ErrArg, api.ErrDown, api.ErrDisk, api.ErrForm} {
		if met[e] < 100 {
			t.Errorf("%d was told %d times alone", e, met[e])
		}
	}
}

// tamper does something to a file of a disk.
func tamper(draw *rand.Rand, d *disk.Disk) {
	file, number := draw.Intn(files), uint64(draw.Intn(6))
	b := recordOf(number, drawn(draw, draw.Intn(3)))
	if file > 0 {
		d.Cut(file, 0)
		b = snapshotOf(uint64(draw.Intn(6)), number, drawn(draw, draw.Intn(3)))
	}
	switch draw.Intn(8) {
	case 0:
		b = b[:draw.Intn(len(b))]
	case 1:
		b[draw.Intn(len(b))] ^= 1 << draw.Intn(8)
	case 2:
		b = drawn(draw, draw.Intn(9))
	case 3:
		d.Cut(file, draw.Intn(d.Size(file)+1))
	}
	d.Append(file, b)
	if draw.Intn(2) == 0 {
		d.Sync(file)
	}
}

// crashes are a disk behind a crash with each number of units of each of its files.
func crashes(d *disk.Disk) []*disk.Disk {
	var l []*disk.Disk
	for a := range d.Units(0) + 1 {
		for b := range d.Units(1) + 1 {
			for c := range d.Units(2) + 1 {
				x := d.Clone()
				x.Crash(a, b, c)
				l = append(l, x)
			}
		}
	}
	return l
}

// change is a record that is put, or a snapshot to which is compacted.
type change struct {
	compact bool
	bytes   []byte
}

// do does it to a vault.
func (c change) do(v *vault.Vault) api.Errno {
	if c.compact {
		return v.Compact(c.bytes)
	}
	return v.Put(c.bytes)
}

// behind is what a vault tells behind changes from none on.
func behind(changes []change) string {
	has, snapshot, records, next := false, []byte(nil), [][]byte(nil), uint64(1)
	for _, c := range changes {
		if c.compact {
			has, snapshot, records = true, c.bytes, nil
			continue
		}
		records = append(records, c.bytes)
		next++
	}
	return text(has, snapshot, records, next)
}

// reopened are all disks that a crash leaves, and, of each, those that are left where Open goes down at each of its calls, and the disk crashes once more.
func reopened(t *testing.T, d *disk.Disk) []*disk.Disk {
	t.Helper()
	var l []*disk.Disk
	for _, c := range crashes(d) {
		l = append(l, c.Clone())
		for calls := 1; ; calls++ {
			x := c.Clone()
			x.Arm(calls)
			v, e := vault.Open(x)
			if e == api.OK {
				break
			}
			if v != nil || e != api.ErrDown || calls > 2 {
				t.Fatalf("Open with a fuse of %d: %d", calls, e)
			}
			l = append(l, crashes(x)...)
		}
	}
	return l
}

// TestP22_5_EachCall does changes while the disk goes down at each call, crashes with each number of units, opens the vault again, going down there, too, and lets all that happen to one more change.
func TestP22_5_EachCall(t *testing.T) {
	changes := []change{{false, []byte{1}}, {false, []byte{2, 2}}, {true, []byte{3}}, {false, []byte{4}}, {true, nil}, {true, []byte{6, 6}}, {false, []byte{7}}, {false, []byte{8}}, {true, []byte{9}}}
	all := map[string]bool{}
	for calls := 1; ; calls++ {
		d := newDisk(t, 200)
		v := opened(t, d)
		d.Arm(calls)
		done := 0
		for _, c := range changes {
			if e := c.do(v); e != api.OK {
				want(t, "a change", e, api.ErrDown)
				break
			}
			done++
		}
		if done == len(changes) && !d.Down() {
			break
		}
		may := []string{behind(changes[:done]), behind(changes[:min(done+1, len(changes))])}
		if told(v) != may[0] { // the slots have it
			may = may[1:]
		}
		met := map[string]bool{}
		for _, c := range reopened(t, d) {
			got := told(opened(t, c))
			if !slices.Contains(may, got) {
				t.Fatalf("a fuse of %d: %s, not one of %v", calls, got, may)
			}
			met[got] = true
			all[got] = true
			onceMore(t, c, change{false, []byte{5}})
			onceMore(t, c, change{true, []byte{5}})
		}
		// Where a frame was appended, but not synced, either is to be seen.
		if len(may) == 2 && d.Units(0)+d.Units(1)+d.Units(2) > 1 && len(met) != 2 {
			t.Errorf("a fuse of %d: just %v", calls, slices.Collect(maps.Keys(met)))
		}
	}
	for n := range len(changes) + 1 {
		if !all[behind(changes[:n])] {
			t.Errorf("behind %d changes the vault was never opened again", n)
		}
	}
}

// onceMore does a change to a vault that is opened again, while the disk goes down at each call, and crashes with each number of units.
func onceMore(t *testing.T, d *disk.Disk, more change) {
	t.Helper()
	v := opened(t, d.Clone())
	was := told(v)
	want(t, "once more", more.do(v), api.OK)
	is := told(v)
	for calls := 1; ; calls++ {
		c := d.Clone()
		w := opened(t, c)
		c.Arm(calls)
		e := more.do(w)
		for _, x := range crashes(c) {
			got := told(opened(t, x))
			if got != is && (got != was || e == api.OK || told(w) == is) {
				t.Fatalf("once more, a fuse of %d: %s, not %s, nor %s", calls, got, is, was)
			}
		}
		if e == api.OK {
			return
		}
	}
}

// some is a number of units, often that of all.
func some(draw *rand.Rand) int {
	if draw.Intn(3) == 0 {
		return -1
	}
	return draw.Intn(60)
}

// TestP22_5_Drawn does drawn changes, on a disk that goes down and crashes by draws, often without room, and opens the vault again each time, which may go down, too: it has what it had, but for the change in flight.
func TestP22_5_Drawn(t *testing.T) {
	draw := rand.New(rand.NewSource(5))
	flew, gone, full, again := 0, 0, 0, 0
	for range 1500 {
		d := newDisk(t, 60+draw.Intn(200))
		v := opened(t, d)
		var changes []change
		for range 15 {
			d.Arm(draw.Intn(20))
			var flying *change
			for !d.Down() && draw.Intn(10) > 0 {
				c := change{draw.Intn(4) == 0, drawn(draw, 1+draw.Intn(20))}
				e := c.do(v)
				switch {
				case e == api.OK || c.compact && e == api.ErrDown && told(v) == behind(append(slices.Clone(changes), c)):
					changes = append(changes, c)
				case e == api.ErrDown:
					flying = &c
				case e == api.ErrDisk:
					full++
				default:
					t.Fatalf("a change: %d", e)
				}
				if got := told(v); got != behind(changes) {
					t.Fatalf("%s, not %s", got, behind(changes))
				}
			}
			for v = nil; v == nil; {
				d.Crash(some(draw), some(draw), some(draw))
				d.Arm(draw.Intn(3))
				e := api.OK
				if v, e = vault.Open(d); e == api.ErrDown {
					again++
				} else if v == nil || e != api.OK {
					t.Fatalf("Open: %v, %d", v != nil, e)
				}
			}
			got := told(v)
			if flying != nil && got == behind(append(slices.Clone(changes), *flying)) {
				changes = append(changes, *flying)
				flew++
				continue
			}
			if got != behind(changes) {
				t.Fatalf("%s, not %s", got, behind(changes))
			}
			if flying != nil {
				gone++
			}
		}
	}
	if flew < 100 || gone < 100 || full < 100 || again < 100 {
		t.Errorf("of changes in flight %d were there, %d gone; for %d there was no room; Open went down %d times", flew, gone, full, again)
	}
}
