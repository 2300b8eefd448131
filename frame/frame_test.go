package frame_test

import (
	"bytes"
	"encoding/binary"
	"fmt"
	"iter"
	"math"
	"math/rand"
	"slices"
	"testing"

	"mirador/api"
	"mirador/crc"
	"mirador/frame"
	"mirador/reader"
	"mirador/writer"
)

// The chapter's limit and sizes, as numbers of the test's own.
const (
	maxDisk  = 65536
	headSize = 8
)

// placed is a body with the place at which its frame begins.
type placed struct {
	at   int
	body []byte
}

// brief is a thing's text, cut where it is long.
func brief(x any) string {
	s := fmt.Sprint(x)
	return s[:min(len(s), 300)]
}

// drawn are bytes that a draw of the test's own makes.
func drawn(r *rand.Rand, n int) []byte {
	b := make([]byte, n)
	r.Read(b)
	return b
}

// drawnBodies are so many bodies, small ones as often as greater ones.
func drawnBodies(r *rand.Rand, n int) [][]byte {
	var l [][]byte
	for range n {
		l = append(l, drawn(r, 1+r.Intn(200>>r.Intn(8)+1)))
	}
	return l
}

// summed is the sum of bytes by the words of layer 11's chapter, bit by bit.
func summed(b []byte) uint32 {
	sum := uint32(0xFFFFFFFF)
	for _, x := range b {
		sum ^= uint32(x)
		for range 8 {
			odd := sum%2 == 1
			sum /= 2
			if odd {
				sum ^= 0x82F63B78
			}
		}
	}
	return sum ^ 0xFFFFFFFF
}

// headed are bytes that tell such a number, and a sum that fits that number and this body, and the body: the body's frame, if the number is that of its bytes.
func headed(many uint32, body []byte) []byte {
	number := binary.BigEndian.AppendUint32(nil, many)
	sum := summed(slices.Concat(number, body))
	return slices.Concat(binary.BigEndian.AppendUint32(number, sum), body)
}

// frameOf is a body's frame.
func frameOf(body []byte) []byte { return headed(uint32(len(body)), body) }

// rowOf are the frames of bodies, one behind the other.
func rowOf(bodies ...[]byte) []byte {
	var b []byte
	for _, body := range bodies {
		b = append(b, frameOf(body)...)
	}
	return b
}

// oneOf reads the first frame by the chapter's words.
func oneOf(b []byte) ([]byte, int, api.Errno) {
	if len(b) < 4 {
		return nil, 0, api.ErrShort
	}
	many := uint64(binary.BigEndian.Uint32(b))
	if many < 1 || many > maxDisk {
		return nil, 0, api.ErrForm
	}
	if uint64(len(b)) < many+headSize {
		return nil, 0, api.ErrShort
	}
	body := b[headSize : headSize+many]
	if !bytes.Equal(b[:headSize], frameOf(body)[:headSize]) {
		return nil, 0, api.ErrSum
	}
	return body, headSize + len(body), api.OK
}

// scanOf tells by the chapter's words all bodies with their places, and how many bytes their frames have.
func scanOf(b []byte) ([]placed, int) {
	var l []placed
	at := 0
	for at < len(b) {
		body, size, e := oneOf(b[at:])
		if e != api.OK {
			break
		}
		l = append(l, placed{at, body})
		at += size
	}
	return l, at
}

// alike tells whether two lists have the same bodies at the same places.
func alike(a, b []placed) bool {
	return slices.EqualFunc(a, b, func(x, y placed) bool { return x.at == y.at && bytes.Equal(x.body, y.body) })
}

// encodes asks for a body's frame, and its size.
func encodes(t *testing.T, body []byte) {
	t.Helper()
	was := bytes.Clone(body)
	want := frameOf(body)
	b, e := frame.Encode(body)
	if e != api.OK || !bytes.Equal(b, want) {
		t.Errorf("Encode of %d bytes: %s, %d, not %s", len(body), brief(b), e, brief(want))
	}
	if size := frame.Size(body); size != len(want) {
		t.Errorf("Size of %d bytes: %d", len(body), size)
	}
	if !bytes.Equal(body, was) {
		t.Errorf("Encode of %d bytes changed them", len(body))
	}
}

// reads asks for the first frame, held against the chapter's words.
func reads(t *testing.T, b []byte) {
	t.Helper()
	was := bytes.Clone(b)
	want, wantSize, wantErr := oneOf(b)
	body, size, e := frame.One(b)
	if e != wantErr || size != wantSize || !bytes.Equal(body, want) {
		t.Errorf("One of %d bytes, %s: %s, %d, %d, not %s, %d, %d", len(b), brief(b), brief(body), size, e, brief(want), wantSize, wantErr)
	}
	if !bytes.Equal(b, was) {
		t.Errorf("One of %d bytes changed them", len(b))
	}
}

// refuses asks that One tells this error, of the bytes as they are and of such with spare room behind, in which they go on.
func refuses(t *testing.T, b []byte, want api.Errno) {
	t.Helper()
	for _, x := range [][]byte{b, slices.Clip(bytes.Clone(b)), append(bytes.Clone(b), 1, 2, 3, 4, 5, 6, 7, 8, 9)[:len(b)]} {
		body, size, e := frame.One(x)
		if e != want || size != 0 || len(body) != 0 {
			t.Errorf("One of %d bytes, %s: %s, %d, %d, not %d", len(b), brief(b), brief(body), size, e, want)
		}
	}
	if _, _, e := oneOf(b); e != want {
		t.Errorf("the test's own reading of %s tells %d, not %d", brief(b), e, want)
	}
}

// gone are all bodies of a range, with their places.
func gone(all iter.Seq2[int, []byte]) []placed {
	var l []placed
	for at, body := range all {
		l = append(l, placed{at, body})
	}
	return l
}

// scans asks for all frames, of Scan and of All, held against the chapter's words.
func scans(t *testing.T, b []byte) {
	t.Helper()
	was := bytes.Clone(b)
	want, wantEnd := scanOf(b)
	bodies, end := frame.Scan(b)
	if end != wantEnd || !slices.EqualFunc(bodies, want, func(x []byte, y placed) bool { return bytes.Equal(x, y.body) }) {
		t.Errorf("Scan of %d bytes, %s: %s, %d, not %s, %d", len(b), brief(b), brief(bodies), end, brief(want), wantEnd)
	}
	if l := gone(frame.All(b)); !alike(l, want) {
		t.Errorf("All of %d bytes, %s: %s, not %s", len(b), brief(b), brief(l), brief(want))
	}
	if !bytes.Equal(b, was) {
		t.Errorf("%d bytes are changed", len(b))
	}
}

// scansAs asks for just these bodies, one behind the other from the first byte on, whatever the test's own reading tells.
func scansAs(t *testing.T, b []byte, want ...[]byte) {
	t.Helper()
	wantEnd := 0
	var wantAll []placed
	for _, body := range want {
		wantAll = append(wantAll, placed{wantEnd, body})
		wantEnd += headSize + len(body)
	}
	bodies, end := frame.Scan(b)
	if end != wantEnd || !slices.EqualFunc(bodies, want, bytes.Equal) {
		t.Errorf("Scan of %d bytes: %d bodies, %d, not %d, %d", len(b), len(bodies), end, len(want), wantEnd)
	}
	if l := gone(frame.All(b)); !alike(l, wantAll) {
		t.Errorf("All of %d bytes: %s, not %s", len(b), brief(l), brief(wantAll))
	}
	scans(t, b)
}

// spoil turns all bits of bytes, and of their spare room.
func spoil(b []byte) {
	b = b[:cap(b)]
	for i := range b {
		b[i] ^= 255
	}
}

// wrongNumbers are numbers that are none from 1 to MaxDisk, such as are one when they are cut to fewer bytes, or read with a sign, among them.
func wrongNumbers() []uint32 {
	l := []uint32{0, maxDisk + 1, maxDisk + 2, maxDisk + 255, 2 * maxDisk, 2*maxDisk + 1, 1 << 24, 1<<24 + 1, 1<<24 + maxDisk, math.MaxInt32, math.MaxInt32 + 1, math.MaxInt32 + 2, 1<<31 + maxDisk, math.MaxUint32 - maxDisk, math.MaxUint32 - 8, math.MaxUint32 - 7, math.MaxUint32 - 1, math.MaxUint32}
	for i := 17; i < 32; i++ {
		l = append(l, 1<<i, 1<<i+1, 1<<i+9)
	}
	return l
}

// TestP19_1_Bytes holds frames that are written out.
func TestP19_1_Bytes(t *testing.T) {
	known := []struct{ body, want []byte }{
		{[]byte{0}, []byte{0, 0, 0, 1, 0x56, 0xD0, 0xEE, 0x42, 0}},
		{[]byte{7, 8, 9}, []byte{0, 0, 0, 3, 0x48, 0x4A, 0x9F, 0x49, 7, 8, 9}},
		{[]byte("123456789"), []byte{0, 0, 0, 9, 0x69, 0x34, 0xCF, 0x6F, '1', '2', '3', '4', '5', '6', '7', '8', '9'}},
	}
	for _, k := range known {
		b, e := frame.Encode(k.body)
		if e != api.OK || !bytes.Equal(b, k.want) {
			t.Errorf("Encode(%v) = %v, %d, not %v", k.body, b, e, k.want)
		}
		if !bytes.Equal(frameOf(k.body), k.want) {
			t.Errorf("the test's own frame of %v is %v, not %v", k.body, frameOf(k.body), k.want)
		}
	}
}

// TestP19_1_Parts holds each part of a frame, as layers 10 and 11 tell it.
func TestP19_1_Parts(t *testing.T) {
	r := rand.New(rand.NewSource(1))
	for _, n := range []int{1, 2, 255, 256, 257, 65535, maxDisk} {
		body := drawn(r, n)
		w := writer.New(4)
		w.Num(uint64(n), 4)
		many, _ := w.Done()
		w = writer.New(4)
		w.Num(uint64(crc.Of(many, body)), 4)
		sum, _ := w.Done()
		b, e := frame.Encode(body)
		if e != api.OK || len(b) != n+8 {
			t.Fatalf("Encode of %d bytes: %d bytes, %d", n, len(b), e)
		}
		if !bytes.Equal(b[:4], many) || !bytes.Equal(b[4:8], sum) || !bytes.Equal(b[8:], body) {
			t.Errorf("Encode of %d bytes: %s", n, brief(b))
		}
	}
}

// TestP19_1_Sizes holds bodies of each size up to some, and of those beside MaxDisk and beside what fewer bytes tell.
func TestP19_1_Sizes(t *testing.T) {
	r := rand.New(rand.NewSource(2))
	for n := 1; n < 700; n++ {
		encodes(t, drawn(r, n))
	}
	for _, n := range []int{4095, 4096, 32767, 32768, 65527, 65528, 65529, 65534, 65535, 65536, maxDisk} {
		encodes(t, drawn(r, n))
		encodes(t, make([]byte, n))
	}
}

// TestP19_1_EachByte holds bodies of each byte alone, and of each in a row.
func TestP19_1_EachByte(t *testing.T) {
	for i := range 256 {
		encodes(t, []byte{byte(i)})
		encodes(t, bytes.Repeat([]byte{byte(i)}, 1+i%9))
		encodes(t, []byte{byte(i), 0})
		encodes(t, []byte{0, byte(i)})
	}
}

// TestP19_1_None holds bytes that are no body: none, and more than MaxDisk.
func TestP19_1_None(t *testing.T) {
	none := [][]byte{nil, {}, make([]byte, 0, 9), []byte{1, 2, 3}[:0], make([]byte, maxDisk+1), make([]byte, maxDisk+2), make([]byte, maxDisk+256), make([]byte, 2*maxDisk), make([]byte, 2*maxDisk+1), make([]byte, 1<<24), make([]byte, 1<<24+1)}
	for _, body := range none {
		if b, e := frame.Encode(body); e != api.ErrArg || len(b) != 0 {
			t.Errorf("Encode of %d bytes: %s, %d", len(body), brief(b), e)
		}
		// The chapter asks for no body here: 8 more than it has bytes.
		if size := frame.Size(body); size != len(body)+8 {
			t.Errorf("Size of %d bytes: %d", len(body), size)
		}
	}
}

// TestP19_1_SpareRoom has a body with spare room of any size, that is no part of it.
func TestP19_1_SpareRoom(t *testing.T) {
	r := rand.New(rand.NewSource(3))
	room := drawn(r, maxDisk+100)
	was := bytes.Clone(room)
	for _, n := range []int{1, 2, 9, 500, maxDisk - 1, maxDisk} {
		encodes(t, room[:n])
		if !bytes.Equal(room, was) {
			t.Fatalf("%d bytes: their spare room is changed", n)
		}
	}
}

// TestP19_1_New changes a body behind Encode, and one answer: no other one changes.
func TestP19_1_New(t *testing.T) {
	body := []byte{7, 8, 9}
	want := frameOf(body)
	first, _ := frame.Encode(body)
	second, _ := frame.Encode(body)
	spoil(body)
	if !bytes.Equal(first, want) || !bytes.Equal(second, want) {
		t.Errorf("the body is turned: %v, %v", first, second)
	}
	spoil(body)
	spoil(first)
	if !bytes.Equal(second, want) || !bytes.Equal(body, []byte{7, 8, 9}) {
		t.Errorf("an answer is turned: %v, %v", second, body)
	}
	if third, e := frame.Encode(body); e != api.OK || !bytes.Equal(third, want) {
		t.Errorf("behind it: %v, %d", third, e)
	}
}

// TestP19_2_Example holds the chapter's example.
func TestP19_2_Example(t *testing.T) {
	for n := 4; n < 40; n++ {
		refuses(t, make([]byte, n), api.ErrForm)
		refuses(t, append(make([]byte, 4), bytes.Repeat([]byte{255}, n)...), api.ErrForm)
	}
	refuses(t, make([]byte, maxDisk+100), api.ErrForm)
}

// TestP19_2_Few has fewer bytes than tell a number, whatever they are.
func TestP19_2_Few(t *testing.T) {
	refuses(t, nil, api.ErrShort)
	refuses(t, []byte{}, api.ErrShort)
	for _, x := range []byte{0, 1, 2, 127, 128, 255} {
		for n := range 4 {
			refuses(t, bytes.Repeat([]byte{x}, n), api.ErrShort)
		}
	}
	for n := range 4 {
		refuses(t, frameOf([]byte{1})[:n], api.ErrShort)
		refuses(t, headed(math.MaxUint32, []byte{1})[:n], api.ErrShort)
	}
}

// TestP19_2_Beginnings has each beginning of a frame, of great ones some.
func TestP19_2_Beginnings(t *testing.T) {
	r := rand.New(rand.NewSource(4))
	for _, n := range []int{1, 2, 3, 9, 255, 256, 600} {
		b := frameOf(drawn(r, n))
		for size := range b {
			refuses(t, b[:size], api.ErrShort)
		}
		reads(t, b)
	}
	for _, n := range []int{65535, maxDisk} {
		b := frameOf(drawn(r, n))
		for _, size := range []int{0, 3, 4, 7, 8, 9, n - 1, n, n + 1, n + 6, n + 7} {
			refuses(t, b[:size], api.ErrShort)
		}
		reads(t, b)
	}
}

// TestP19_2_SpareRoom has a beginning whose rest stands in its spare room: it is none of the bytes that were handed in.
func TestP19_2_SpareRoom(t *testing.T) {
	b := frameOf([]byte{7, 8, 9})
	for n := range b {
		if body, size, e := frame.One(b[:n]); e != api.ErrShort || size != 0 || len(body) != 0 {
			t.Errorf("the first %d bytes: %v, %d, %d", n, body, size, e)
		}
		if l, end := frame.Scan(b[:n]); len(l) != 0 || end != 0 {
			t.Errorf("Scan of the first %d bytes: %v, %d", n, l, end)
		}
		if l := gone(frame.All(b[:n])); len(l) != 0 {
			t.Errorf("All of the first %d bytes: %v", n, l)
		}
	}
}

// TestP19_2_WrongNumbers has numbers that no body has: they are told ahead of bytes that lack, and of a sum that does not fit.
func TestP19_2_WrongNumbers(t *testing.T) {
	for _, many := range wrongNumbers() {
		b := headed(many, bytes.Repeat([]byte{5}, 300))
		for _, n := range []int{4, 5, 6, 7, 8, 9, 10, 16, 17, 264, 265, len(b)} {
			refuses(t, b[:n], api.ErrForm)
		}
		b[5] ^= 1
		refuses(t, b, api.ErrForm)
		b = headed(many, make([]byte, 3*maxDisk))
		refuses(t, b, api.ErrForm)
	}
}

// TestP19_2_TooGreat has all bytes of what would be the frame of a body that is too great.
func TestP19_2_TooGreat(t *testing.T) {
	for _, n := range []int{maxDisk + 1, maxDisk + 2, maxDisk + 9, 2*maxDisk + 1} {
		refuses(t, frameOf(make([]byte, n)), api.ErrForm)
		scansAs(t, frameOf(make([]byte, n)))
	}
	refuses(t, frameOf(nil), api.ErrForm)
	scansAs(t, slices.Concat(frameOf(nil), frameOf([]byte{1})))
}

// TestP19_2_RightNumbers has numbers that a body has, of fewer bytes than such a frame has, with a sum that does not fit.
func TestP19_2_RightNumbers(t *testing.T) {
	for _, many := range []uint32{1, 2, 3, 255, 256, 257, 4096, 65535, maxDisk - 1, maxDisk} {
		b := binary.BigEndian.AppendUint32(nil, many)
		for len(b) < headSize+int(many) {
			refuses(t, b, api.ErrShort)
			b = append(b, make([]byte, 1+(len(b)-4)/2)...)
		}
		refuses(t, b[:headSize+many-1], api.ErrShort)
		refuses(t, b[:headSize+many], api.ErrSum)
		refuses(t, b, api.ErrSum)
	}
}

// TestP19_2_Turned has frames with any one bit turned: in the sum or in the body it is told as such.
func TestP19_2_Turned(t *testing.T) {
	r := rand.New(rand.NewSource(5))
	for _, n := range []int{1, 2, 3, 4, 9, 60, 300} {
		b := frameOf(drawn(r, n))
		for i := range b {
			for bit := range 8 {
				b[i] ^= 1 << bit
				if i >= 4 {
					refuses(t, b, api.ErrSum)
				} else {
					reads(t, b)
				}
				if _, _, e := frame.One(b); e == api.OK {
					t.Errorf("of %d bytes the bit %d of the byte %d is turned: OK", n, bit, i)
				}
				b[i] ^= 1 << bit
			}
		}
		reads(t, b)
	}
	b := frameOf(drawn(r, maxDisk))
	for _, i := range []int{4, 5, 6, 7, 8, 9, 30000, maxDisk, maxDisk + 6, maxDisk + 7} {
		b[i] ^= 128
		refuses(t, b, api.ErrSum)
		b[i] ^= 128
	}
	reads(t, b)
}

// TestP19_2_OtherSums has sums of other bytes than those that the chapter names, and such that are laid otherwise.
func TestP19_2_OtherSums(t *testing.T) {
	body := []byte{7, 8, 9}
	right := frameOf(body)
	sum := binary.BigEndian.Uint32(right[4:])
	turned := bytes.Clone(right[4:8])
	slices.Reverse(turned)
	wrong := []uint32{0, math.MaxUint32, ^sum, sum + 1, sum - 1, sum ^ 1<<31, binary.BigEndian.Uint32(turned), summed(body), summed(right[:4]), summed(slices.Concat(body, right[:4])), summed(slices.Concat([]byte{3, 0, 0, 0}, body)), summed(slices.Concat(right[:4], make([]byte, 4), body)), summed(slices.Concat([]byte{3}, body))}
	for _, x := range wrong {
		if x == sum {
			t.Fatalf("%x is the sum", x)
		}
		b := bytes.Clone(right)
		binary.BigEndian.PutUint32(b[4:], x)
		refuses(t, b, api.ErrSum)
	}
	reads(t, right)
}

// TestP19_2_Behind has bytes behind a frame: they are not looked at.
func TestP19_2_Behind(t *testing.T) {
	r := rand.New(rand.NewSource(6))
	for _, n := range []int{1, 2, 9, 255, 256, 1000, maxDisk} {
		body := drawn(r, n)
		b := frameOf(body)
		for _, behind := range [][]byte{nil, {0}, {255}, make([]byte, 40), bytes.Repeat([]byte{255}, 40), frameOf([]byte{1}), drawn(r, 2*maxDisk)} {
			got, size, e := frame.One(slices.Concat(b, behind))
			if e != api.OK || size != n+8 || !bytes.Equal(got, body) {
				t.Errorf("%d bytes, %d behind their frame: %s, %d, %d", n, len(behind), brief(got), size, e)
			}
		}
	}
}

// TestP19_2_FewBytes holds every mix of few bytes against the chapter's words.
func TestP19_2_FewBytes(t *testing.T) {
	values := []byte{0, 1, 2, 255}
	for n := range 7 {
		for mix := range 1 << (2 * n) {
			b := make([]byte, n)
			for i := range b {
				b[i] = values[mix>>(2*i)&3]
			}
			reads(t, b)
		}
	}
}

// TestP19_2_Drawn holds frames in which a byte was made another, was left out, or was put in, against the chapter's words.
func TestP19_2_Drawn(t *testing.T) {
	r := rand.New(rand.NewSource(7))
	for range 20000 {
		b := frameOf(drawn(r, 1+r.Intn(40)))
		at := r.Intn(len(b))
		switch r.Intn(4) {
		case 0:
			b[at] = byte(r.Intn(256))
		case 1:
			b = slices.Delete(b, at, at+1)
		case 2:
			b = slices.Insert(b, at, byte(r.Intn(256)))
		case 3:
			b = append(b, drawn(r, r.Intn(20))...)
		}
		reads(t, b)
		scans(t, b)
	}
}

// TestP19_2_New changes the bytes behind One, and one answer: no other one changes.
func TestP19_2_New(t *testing.T) {
	row := append(frameOf([]byte{7, 8, 9}), 1, 2, 3)
	was := bytes.Clone(row)
	first, _, _ := frame.One(row)
	second, _, _ := frame.One(row)
	spoil(first)
	if !bytes.Equal(row, was) || !bytes.Equal(second, []byte{7, 8, 9}) {
		t.Errorf("an answer is turned: %v, %v", row, second)
	}
	spoil(row)
	if !bytes.Equal(second, []byte{7, 8, 9}) {
		t.Errorf("the bytes are turned: %v", second)
	}
	if _, _, e := frame.One(row); e != api.ErrForm {
		t.Errorf("turned bytes are not read anew: %d", e)
	}
}

// TestP19_3_None holds the chapter's example, and bytes that begin with no frame.
func TestP19_3_None(t *testing.T) {
	for _, b := range [][]byte{nil, {}, make([]byte, 0, 30), {0}, {0, 0, 0}, make([]byte, 4), make([]byte, 100), bytes.Repeat([]byte{255}, 100), {0, 0, 0, 1}, {0, 0, 0, 1, 0, 0, 0, 0, 0}} {
		scansAs(t, b)
		if all := frame.All(b); all == nil {
			t.Errorf("All of %v is nil", b)
		}
	}
}

// TestP19_3_Rows holds rows of no frame, one, and more.
func TestP19_3_Rows(t *testing.T) {
	r := rand.New(rand.NewSource(8))
	for n := range 60 {
		bodies := drawnBodies(r, n)
		scansAs(t, rowOf(bodies...), bodies...)
	}
	small := slices.Repeat([][]byte{{9}}, 100_000)
	scansAs(t, rowOf(small...), small...)
	great := [][]byte{drawn(r, maxDisk), {1}, drawn(r, maxDisk-1), drawn(r, maxDisk), {2}}
	scansAs(t, rowOf(great...), great...)
}

// TestP19_3_Torn has each beginning of one more frame behind a row.
func TestP19_3_Torn(t *testing.T) {
	r := rand.New(rand.NewSource(9))
	for n := range 6 {
		bodies := drawnBodies(r, n)
		row := rowOf(bodies...)
		more := frameOf(drawn(r, 1+r.Intn(100)))
		for size := range more {
			scansAs(t, append(bytes.Clone(row), more[:size]...), bodies...)
			// The rest of the frame stands in the spare room.
			scansAs(t, append(bytes.Clone(row), more...)[:len(row)+size], bodies...)
		}
	}
	bodies := [][]byte{{7}, drawn(r, maxDisk)}
	more := frameOf(drawn(r, maxDisk))
	for _, size := range []int{1, 4, 8, 9, maxDisk, maxDisk + 7} {
		scansAs(t, append(rowOf(bodies...), more[:size]...), bodies...)
	}
}

// TestP19_3_FirstWrong has what is no frame behind a row, and good frames behind that: they are not told.
func TestP19_3_FirstWrong(t *testing.T) {
	r := rand.New(rand.NewSource(10))
	wrong := map[string][]byte{"no number": make([]byte, 4), "a number, and nothing that fits": make([]byte, 8), "too great a number": headed(maxDisk+1, []byte{1, 2}), "the greatest number": headed(math.MaxUint32, []byte{1, 2}), "one byte": {0}, "three bytes": {0, 0, 0}}
	for _, at := range []int{4, 5, 6, 7, 8, 9, 12} {
		b := frameOf([]byte{7, 8, 9, 10, 11})
		b[at] ^= 1
		wrong[fmt.Sprint("a frame of which the byte ", at, " is turned")] = b
	}
	for n := range 5 {
		bodies := drawnBodies(r, n)
		good := rowOf(drawnBodies(r, 3)...)
		for name, w := range wrong {
			b := slices.Concat(rowOf(bodies...), w, good)
			if l, end := frame.Scan(b); len(l) != n || end != len(rowOf(bodies...)) {
				t.Errorf("%s behind %d frames: %d bodies, %d", name, n, len(l), end)
			}
			scansAs(t, b, bodies...)
		}
	}
}

// TestP19_3_EachTurned turns a bit in each frame of a row: those ahead of it are told.
func TestP19_3_EachTurned(t *testing.T) {
	r := rand.New(rand.NewSource(11))
	bodies := drawnBodies(r, 7)
	row := rowOf(bodies...)
	places, _ := scanOf(row)
	for i, p := range places {
		for range 30 {
			b := bytes.Clone(row)
			b[p.at+4+r.Intn(4+len(p.body))] ^= 1 << r.Intn(8)
			scansAs(t, b, bodies[:i]...)
		}
		for at := p.at; at < p.at+4; at++ {
			b := bytes.Clone(row)
			b[at] ^= 1 << r.Intn(8)
			scansAs(t, b, bodies[:i]...)
		}
	}
}

// TestP19_3_Drawn holds rows that are cut, turned or put together by draws against the chapter's words.
func TestP19_3_Drawn(t *testing.T) {
	r := rand.New(rand.NewSource(12))
	for range 3000 {
		b := rowOf(drawnBodies(r, r.Intn(8))...)
		if len(b) > 0 && r.Intn(2) == 0 {
			b[r.Intn(len(b))] ^= 1 << r.Intn(8)
		}
		if r.Intn(2) == 0 {
			b = b[:r.Intn(len(b)+1)]
		}
		if r.Intn(2) == 0 {
			b = append(b, rowOf(drawnBodies(r, 2)...)...)
		}
		scans(t, b)
	}
}

// TestP19_3_FrameInFrame has bodies that are frames: they are told as they are.
func TestP19_3_FrameInFrame(t *testing.T) {
	inner := frameOf([]byte{1, 2, 3})
	outer := frameOf(inner)
	scansAs(t, slices.Concat(outer, inner), inner, []byte{1, 2, 3})
	scansAs(t, frameOf(slices.Concat(inner, outer)), slices.Concat(inner, outer))
}

// TestP19_3_Left breaks off behind each frame, the first and the last too.
func TestP19_3_Left(t *testing.T) {
	r := rand.New(rand.NewSource(13))
	bodies := drawnBodies(r, 9)
	b := append(rowOf(bodies...), 0, 0)
	want, _ := scanOf(b)
	all := frame.All(b)
	for n := 1; n <= len(bodies); n++ {
		var l []placed
		for at, body := range all {
			l = append(l, placed{at, body})
			if len(l) == n {
				break
			}
		}
		if !alike(l, want[:n]) {
			t.Errorf("left behind %d: %s", n, brief(l))
		}
	}
	if l := gone(all); !alike(l, want) {
		t.Errorf("behind all that: %s", brief(l))
	}
}

// TestP19_3_LeftForGood calls the function itself: behind a false it calls no more.
func TestP19_3_LeftForGood(t *testing.T) {
	b := rowOf([]byte{1}, []byte{2, 3}, []byte{4}, []byte{5})
	for n := 1; n <= 4; n++ {
		calls := 0
		frame.All(b)(func(int, []byte) bool {
			calls++
			return calls < n
		})
		if calls != n {
			t.Errorf("false at the call %d: %d calls", n, calls)
		}
	}
}

// TestP19_3_Again ranges again, and within a range.
func TestP19_3_Again(t *testing.T) {
	b := rowOf([]byte{1}, []byte{2, 3}, []byte{4, 5, 6})
	want, _ := scanOf(b)
	all := frame.All(b)
	for range 3 {
		if l := gone(all); !alike(l, want) {
			t.Errorf("again: %s", brief(l))
		}
	}
	var outer []placed
	for at, body := range all {
		outer = append(outer, placed{at, body})
		if l := gone(all); !alike(l, want) {
			t.Errorf("within, at %d: %s", at, brief(l))
		}
		for at, body := range frame.All(b) {
			if at != 0 || !bytes.Equal(body, []byte{1}) {
				t.Errorf("another one within: %d, %v", at, body)
			}
			break
		}
	}
	if !alike(outer, want) {
		t.Errorf("with others within: %s", brief(outer))
	}
}

// TestP19_3_New changes what was told: neither the bytes nor another answer changes, and it goes on as if nothing had been.
func TestP19_3_New(t *testing.T) {
	b := append(rowOf([]byte{1, 1}, []byte{2, 3}, []byte{4, 5, 6}), 9, 9)
	was := bytes.Clone(b)
	want, end := scanOf(was)
	first, _ := frame.Scan(b)
	second, _ := frame.Scan(b)
	for i, body := range first {
		spoil(body)
		first[i] = append(body, 77, 77, 77, 77, 77, 77, 77, 77, 77, 77, 77, 77)
		for j, other := range first[i+1:] {
			if !bytes.Equal(other, want[i+1+j].body) {
				t.Errorf("the body %d is turned: the one %d behind it is %v", i, j+1, other)
			}
		}
	}
	for i, body := range second {
		if !bytes.Equal(body, want[i].body) {
			t.Errorf("another answer's body %d is %v", i, body)
		}
	}
	all := frame.All(b)
	for range 2 {
		var places []int
		for at, body := range all {
			if !bytes.Equal(body, want[len(places)].body) {
				t.Errorf("at %d: %v", at, body)
			}
			places = append(places, at)
			spoil(body)
		}
		if !slices.Equal(places, []int{0, 10, 20}) {
			t.Errorf("places: %v", places)
		}
	}
	if _, e := frame.Scan(b); !bytes.Equal(b, was) || e != end {
		t.Errorf("the bytes are %v", b)
	}
}

// TestP19_3_AsTheyWere changes the bytes behind Scan and All, ahead of the range and within it: what is told is of the bytes as they were handed in.
func TestP19_3_AsTheyWere(t *testing.T) {
	b := rowOf([]byte{1, 1}, []byte{2, 3}, []byte{4, 5, 6})
	want, _ := scanOf(bytes.Clone(b))
	bodies, _ := frame.Scan(b)
	before := frame.All(b)
	within := frame.All(b)
	var l []placed
	for at, body := range within {
		l = append(l, placed{at, body})
		spoil(b)
	}
	if !alike(l, want) {
		t.Errorf("the bytes are turned within the range: %s", brief(l))
	}
	clear(b)
	if l := gone(before); !alike(l, want) {
		t.Errorf("the bytes are cleared ahead of the range: %s", brief(l))
	}
	for i, body := range bodies {
		if !bytes.Equal(body, want[i].body) {
			t.Errorf("the bytes are cleared behind Scan: the body %d is %v", i, body)
		}
	}
	scansAs(t, b)
}

// TestP19_3_Unchanged holds that bytes that were handed in are as they were, their spare room too.
func TestP19_3_Unchanged(t *testing.T) {
	r := rand.New(rand.NewSource(14))
	room := append(rowOf(drawnBodies(r, 5)...), drawn(r, 300)...)
	was := bytes.Clone(room)
	for n := range room {
		frame.One(room[:n])
		frame.Scan(room[:n])
		gone(frame.All(room[:n]))
		frame.Encode(room[:n])
		frame.Size(room[:n])
		if !bytes.Equal(room, was) {
			t.Fatalf("the first %d bytes: %s", n, brief(room))
		}
	}
}

// TestP19_4_Read encodes bodies of many sizes, and reads them again.
func TestP19_4_Read(t *testing.T) {
	r := rand.New(rand.NewSource(15))
	sizes := []int{1, 2, 3, 255, 256, 4096, 65535, maxDisk}
	for range 300 {
		sizes = append(sizes, 1+r.Intn(maxDisk>>r.Intn(17)))
	}
	for _, n := range sizes {
		body := drawn(r, n)
		b, e := frame.Encode(body)
		if e != api.OK {
			t.Fatalf("Encode of %d bytes: %d", n, e)
		}
		got, size, e := frame.One(b)
		if e != api.OK || size != len(b) || size != frame.Size(body) || !bytes.Equal(got, body) {
			t.Errorf("One of the frame of %d bytes: %s, %d, %d", n, brief(got), size, e)
		}
		if l, end := frame.Scan(b); len(l) != 1 || end != len(b) || !bytes.Equal(l[0], body) {
			t.Errorf("Scan of the frame of %d bytes: %d bodies, %d", n, len(l), end)
		}
		// As layer 9 reads it.
		rd := reader.New(b)
		if many, sum, rest := rd.Num(4), rd.Num(4), rd.Bytes(n); many != uint64(n) || sum != uint64(crc.Of(b[:4], body)) || !bytes.Equal(rest, body) || rd.Done() != api.OK {
			t.Errorf("the frame of %d bytes is read as %d, %x, %d bytes, %d", n, many, sum, len(rest), rd.Done())
		}
	}
}

// TestP19_4_Rows encodes bodies one behind the other, and scans them with any beginning of one more behind.
func TestP19_4_Rows(t *testing.T) {
	r := rand.New(rand.NewSource(16))
	for n := range 12 {
		bodies := drawnBodies(r, n)
		var row []byte
		for _, body := range bodies {
			b, e := frame.Encode(body)
			if e != api.OK {
				t.Fatalf("Encode of %d bytes: %d", len(body), e)
			}
			row = append(row, b...)
		}
		more, _ := frame.Encode(drawn(r, 1+r.Intn(60)))
		for size := range more {
			scansAs(t, append(bytes.Clone(row), more[:size]...), bodies...)
		}
	}
}

// TestP19_4_AnyCut cuts a row at each byte: the frames that are whole are scanned.
func TestP19_4_AnyCut(t *testing.T) {
	r := rand.New(rand.NewSource(17))
	bodies := drawnBodies(r, 10)
	row := rowOf(bodies...)
	for n := range len(row) + 1 {
		whole, size := 0, 0
		for _, body := range bodies {
			if size += frame.Size(body); size > n {
				break
			}
			whole++
		}
		scansAs(t, row[:n], bodies[:whole]...)
	}
}
