package stream_test

import (
	"bytes"
	"crypto/aes"
	lib "crypto/cipher"
	"encoding/hex"
	"math/rand"
	"testing"

	"mirador/api"
	"mirador/stream"
)

// last is the last place that a stream has.
const last = 1<<64 - 1

// byteAt is the byte at a place of a key's stream by the words of the chapter, with the library's AES.
func byteAt(t *testing.T, key []byte, n uint64) byte {
	t.Helper()
	c, err := aes.NewCipher(key)
	if err != nil {
		t.Fatal(err)
	}
	plain, rest := make([]byte, 16), n/16
	for i := 15; i >= 8; i-- {
		plain[i], rest = byte(rest%256), rest/256
	}
	block := make([]byte, 16)
	c.Encrypt(block, plain)
	return block[n%16]
}

// streamed are so many bytes of a key's stream from a place on, by the words of the chapter.
func streamed(t *testing.T, key []byte, from uint64, count int) []byte {
	t.Helper()
	l := make([]byte, count)
	for i := range l {
		l[i] = byteAt(t, key, from)
		if from == last {
			from = 0
		} else {
			from++
		}
	}
	return l
}

// xored is each byte of the one xor that of the other.
func xored(a, b []byte) []byte {
	l := make([]byte, len(a))
	for i := range l {
		l[i] = a[i] ^ b[i]
	}
	return l
}

// made is the stream of a key that may be.
func made(t *testing.T, key []byte) *stream.Stream {
	t.Helper()
	s, e := stream.New(key)
	if s == nil || e != api.OK {
		t.Fatalf("New(%x): %v, %d", key, s, e)
	}
	return s
}

// drawn are bytes that a draw of the test's own makes.
func drawn(r *rand.Rand, n int) []byte {
	b := make([]byte, n)
	r.Read(b)
	return b
}

// unhex reads bytes of a test's own.
func unhex(t *testing.T, s string) []byte {
	t.Helper()
	b, err := hex.DecodeString(s)
	if err != nil {
		t.Fatal(err)
	}
	return b
}

// places are those near 0, near ends of blocks and of numbers' bytes, far away, and near the last one.
func places() []uint64 {
	l := []uint64{}
	for n := range uint64(70) {
		l = append(l, n, last-n)
	}
	for bit := 7; bit < 64; bit++ {
		end := uint64(1) << bit
		for _, by := range []uint64{0, 1, 2, 15, 16, 17, 31, 32} {
			l = append(l, end-by, end+by)
		}
	}
	r := rand.New(rand.NewSource(7))
	for range 200 {
		l = append(l, r.Uint64(), r.Uint64()>>r.Intn(64))
	}
	return l
}

// unmade are streams that no call made.
func unmade() map[string]*stream.Stream {
	return map[string]*stream.Stream{"nil": nil, "zero value": {}, "new": new(stream.Stream)}
}

// TestP7_1_KnownAnswers holds the chapter's example: 32 bytes 0 as the key; its first three blocks are in the test cases 13 and 14 of GCM, as the hash's key, a tag and what bytes 0 are encrypted as.
func TestP7_1_KnownAnswers(t *testing.T) {
	want := unhex(t, "dc95c078a2408989ad48a21492842087"+"530f8afbc74536b9a963b4f1c4cb738b"+"cea7403d4d606b6e074ec5d3baf39d18")
	s := made(t, make([]byte, 32))
	for n, x := range want {
		if got := s.At(uint64(n)); got != x {
			t.Errorf("At(%d) = %x, not %x", n, got, x)
		}
	}
}

// TestP7_1_KeysOfEachLength hands in keys of other lengths too, with and without spare room.
func TestP7_1_KeysOfEachLength(t *testing.T) {
	lengths := []int{47, 48, 63, 64, 65, 256, 1 << 16}
	for n := range 35 {
		lengths = append(lengths, n)
	}
	for _, n := range lengths {
		for _, key := range [][]byte{make([]byte, n), make([]byte, n, n+40)} {
			s, e := stream.New(key)
			if n == 32 && (s == nil || e != api.OK) {
				t.Errorf("32 bytes: %v, %d", s, e)
			}
			if n != 32 && (s != nil || e != api.ErrArg) {
				t.Errorf("%d bytes: %v, %d", n, s, e)
			}
		}
	}
	if s, e := stream.New(nil); s != nil || e != api.ErrArg {
		t.Errorf("nil: %v, %d", s, e)
	}
}

// TestP7_1_KeyIsCopied changes the key's bytes behind New, and looks at them and their spare room ahead of that.
func TestP7_1_KeyIsCopied(t *testing.T) {
	key := drawn(rand.New(rand.NewSource(71)), 32)
	room := append(bytes.Clone(key), 7, 7, 7, 7, 7, 7, 7, 7)
	before := bytes.Clone(room)
	s := made(t, room[:32])
	s.At(100)
	s.Mask(make([]byte, 20))
	if !bytes.Equal(room, before) {
		t.Fatalf("the key was changed: %x", room)
	}
	clear(room)
	for _, n := range []uint64{0, 19, 32, 100, 112, 5000} {
		if got, want := s.At(n), byteAt(t, key, n); got != want {
			t.Errorf("At(%d) hangs on the key behind New: %x, not %x", n, got, want)
		}
	}
	if got, want := s.Mask(make([]byte, 50)), streamed(t, key, 20, 50); !bytes.Equal(got, want) {
		t.Errorf("Mask hangs on the key behind New: %x, not %x", got, want)
	}
}

// TestP7_1_AtByTheChapter holds places near and far against the chapter's words, of some keys.
func TestP7_1_AtByTheChapter(t *testing.T) {
	r := rand.New(rand.NewSource(72))
	for _, key := range [][]byte{make([]byte, 32), bytes.Repeat([]byte{255}, 32), drawn(r, 32), drawn(r, 32)} {
		s := made(t, key)
		for _, n := range places() {
			if got, want := s.At(n), byteAt(t, key, n); got != want {
				t.Fatalf("key %x: At(%d) = %x, not %x", key, n, got, want)
			}
		}
	}
}

// TestP7_1_AtFirst asks each place first of a stream that is new.
func TestP7_1_AtFirst(t *testing.T) {
	key := drawn(rand.New(rand.NewSource(73)), 32)
	for _, n := range places() {
		if got, want := made(t, key).At(n), byteAt(t, key, n); got != want {
			t.Fatalf("At(%d) = %x, not %x", n, got, want)
		}
	}
}

// TestP7_1_AtLeavesThePlace asks bytes in any order between masks, which go on as if nobody had.
func TestP7_1_AtLeavesThePlace(t *testing.T) {
	r := rand.New(rand.NewSource(74))
	key, all := drawn(r, 32), places()
	s, place := made(t, key), uint64(0)
	for range 300 {
		n := all[r.Intn(len(all))]
		if got, want := s.At(n), byteAt(t, key, n); got != want {
			t.Fatalf("At(%d) = %x, not %x", n, got, want)
		}
		if got := s.Place(); got != place {
			t.Fatalf("behind At(%d) it stands at %d, not %d", n, got, place)
		}
		b := drawn(r, r.Intn(20))
		if got, want := s.Mask(b), xored(b, streamed(t, key, place, len(b))); !bytes.Equal(got, want) {
			t.Fatalf("behind At(%d): Mask(%x) at %d = %x, not %x", n, b, place, got, want)
		}
		place += uint64(len(b))
	}
}

// TestP7_1_SeekAndPlace goes to places, from any other one.
func TestP7_1_SeekAndPlace(t *testing.T) {
	s := made(t, make([]byte, 32))
	if got := s.Place(); got != 0 {
		t.Fatalf("a new stream stands at %d", got)
	}
	for _, n := range places() {
		s.Seek(n)
		for range 2 {
			if got := s.Place(); got != n {
				t.Fatalf("behind Seek(%d) it stands at %d", n, got)
			}
		}
	}
}

// TestP7_1_StreamsStandAlone holds that none of two streams of one key is seen in the other one, nor one of another key.
func TestP7_1_StreamsStandAlone(t *testing.T) {
	r := rand.New(rand.NewSource(75))
	key, else1 := drawn(r, 32), drawn(r, 32)
	a, b, c := made(t, key), made(t, key), made(t, else1)
	a.Seek(1000)
	c.Seek(last)
	a.Mask(make([]byte, 100))
	c.Mask(make([]byte, 7))
	if a.Place() != 1100 || b.Place() != 0 || c.Place() != 6 {
		t.Errorf("they stand at %d, %d, %d", a.Place(), b.Place(), c.Place())
	}
	for n := range uint64(50) {
		if a.At(n) != byteAt(t, key, n) || b.At(n) != byteAt(t, key, n) || c.At(n) != byteAt(t, else1, n) {
			t.Fatalf("At(%d) = %x, %x, %x", n, a.At(n), b.At(n), c.At(n))
		}
	}
	*a = stream.Stream{}
	if b.At(3) != byteAt(t, key, 3) {
		t.Error("a stream hangs on another one")
	}
}

// TestP7_1_Unmade holds streams that are nil, or that no call made: no bytes but 0, and no other place.
func TestP7_1_Unmade(t *testing.T) {
	for name, s := range unmade() {
		for _, n := range places() {
			if got := s.At(n); got != 0 {
				t.Fatalf("%s: At(%d) = %x", name, n, got)
			}
			s.Seek(n)
			if got := s.Place(); got != 0 {
				t.Fatalf("%s: behind Seek(%d) it stands at %d", name, n, got)
			}
		}
	}
}

// lengths are those of bytes near ends of blocks, and of more than a blob has.
func lengths() []int {
	l := []int{255, 256, 257, 599, 600, 601}
	for n := range 70 {
		l = append(l, n)
	}
	return l
}

// TestP7_2_KnownAnswers masks bytes 0, and others, with the known first blocks.
func TestP7_2_KnownAnswers(t *testing.T) {
	s := made(t, make([]byte, 32))
	if got, want := s.Mask(make([]byte, 16)), unhex(t, "dc95c078a2408989ad48a21492842087"); !bytes.Equal(got, want) {
		t.Errorf("%x, not %x", got, want)
	}
	if got, want := s.Mask([]byte{255, 1, 2, 0x8a}), unhex(t, "ac0e8871"); !bytes.Equal(got, want) || s.Place() != 20 {
		t.Errorf("%x, not %x; at %d", got, want, s.Place())
	}
}

// TestP7_2_MaskByTheChapter holds bytes of many lengths, masked from many places, against the chapter's words.
func TestP7_2_MaskByTheChapter(t *testing.T) {
	r := rand.New(rand.NewSource(76))
	key := drawn(r, 32)
	s := made(t, key)
	for _, from := range []uint64{0, 1, 8, 15, 16, 17, 31, 32, 1<<36 - 9, 1 << 36, 1<<63 - 1, last - 601, last - 16, last - 15, last - 1, last} {
		for _, n := range lengths() {
			b := drawn(r, n)
			s.Seek(from)
			if got, want := s.Mask(b), xored(b, streamed(t, key, from, n)); !bytes.Equal(got, want) {
				t.Fatalf("Mask(%x) at %d = %x, not %x", b, from, got, want)
			}
			if got := s.Place(); got != from+uint64(n) {
				t.Fatalf("behind %d bytes at %d it stands at %d", n, from, got)
			}
		}
	}
}

// TestP7_2_AnyPlace masks drawn bytes from drawn places, with drawn keys.
func TestP7_2_AnyPlace(t *testing.T) {
	r := rand.New(rand.NewSource(77))
	for range 100 {
		key := drawn(r, 32)
		s, place := made(t, key), uint64(0)
		for range 10 {
			if r.Intn(3) == 0 {
				place = r.Uint64() >> r.Intn(64)
				s.Seek(place)
			}
			b := drawn(r, r.Intn(50))
			if got, want := s.Mask(b), xored(b, streamed(t, key, place, len(b))); !bytes.Equal(got, want) {
				t.Fatalf("key %x: Mask(%x) at %d = %x, not %x", key, b, place, got, want)
			}
			place += uint64(len(b))
			if got := s.Place(); got != place {
				t.Fatalf("it stands at %d, not %d", got, place)
			}
		}
	}
}

// TestP7_2_LongBytes holds more bytes than two bytes number blocks of, against the library's counter mode, which begins with the same blocks.
func TestP7_2_LongBytes(t *testing.T) {
	r := rand.New(rand.NewSource(78))
	key, b := drawn(r, 32), drawn(r, 1<<20+70)
	block, err := aes.NewCipher(key)
	if err != nil {
		t.Fatal(err)
	}
	want := make([]byte, len(b))
	lib.NewCTR(block, make([]byte, 16)).XORKeyStream(want, b)
	s := made(t, key)
	if got := s.Mask(b); !bytes.Equal(got, want) || s.Place() != uint64(len(b)) {
		t.Errorf("not the library's; at %d", s.Place())
	}
}

// TestP7_2_BehindTheLast goes on with the place 0 behind the last one, also there and back again.
func TestP7_2_BehindTheLast(t *testing.T) {
	key := drawn(rand.New(rand.NewSource(79)), 32)
	s := made(t, key)
	for _, ahead := range []uint64{0, 1, 14, 15, 16, 17, 40} {
		for _, behind := range []int{0, 1, 15, 16, 17, 40} {
			s.Seek(last - ahead)
			got := s.Mask(make([]byte, int(ahead)+1+behind))
			want := append(streamed(t, key, last-ahead, int(ahead)+1), streamed(t, key, 0, behind)...)
			if !bytes.Equal(got, want) || s.Place() != uint64(behind) {
				t.Fatalf("%d ahead, %d behind: %x, not %x; at %d", ahead, behind, got, want, s.Place())
			}
		}
	}
}

// TestP7_2_NoBytes masks none: it stands where it stood.
func TestP7_2_NoBytes(t *testing.T) {
	s := made(t, make([]byte, 32))
	for _, n := range []uint64{0, 5, 16, last} {
		s.Seek(n)
		for _, b := range [][]byte{nil, {}, make([]byte, 0, 9)} {
			if got := s.Mask(b); len(got) != 0 || s.Place() != n {
				t.Errorf("%x, at %d, not %d", got, s.Place(), n)
			}
		}
	}
}

// TestP7_2_NewMemory holds what was handed in, with its spare room, and earlier answers against later calls, and changes answers.
func TestP7_2_NewMemory(t *testing.T) {
	r := rand.New(rand.NewSource(80))
	streams := unmade()
	streams["made"] = made(t, drawn(r, 32))
	for name, s := range streams {
		for _, n := range []int{0, 1, 15, 16, 17, 100} {
			room := drawn(r, n+50)
			before := bytes.Clone(room)
			first := s.Mask(room[:n])
			kept := bytes.Clone(first)
			second := s.Mask(room[:n])
			if !bytes.Equal(room, before) || !bytes.Equal(first, kept) {
				t.Errorf("%s, %d bytes: a call changed what was handed in, or out", name, n)
			}
			keptSecond := bytes.Clone(second)
			clear(first[:cap(first)])
			if !bytes.Equal(room, before) || !bytes.Equal(second, keptSecond) {
				t.Errorf("%s, %d bytes: an answer shares memory", name, n)
			}
			clear(room)
			if !bytes.Equal(second, keptSecond) {
				t.Errorf("%s, %d bytes: an answer is the bytes handed in", name, n)
			}
		}
	}
}

// TestP7_2_Unmade holds streams that are nil, or that no call made: bytes stay, and so does the place.
func TestP7_2_Unmade(t *testing.T) {
	r := rand.New(rand.NewSource(81))
	for name, s := range unmade() {
		for _, n := range lengths() {
			b := drawn(r, n)
			if got := s.Mask(b); !bytes.Equal(got, b) || s.Place() != 0 {
				t.Errorf("%s: Mask(%x) = %x, at %d", name, b, got, s.Place())
			}
			s.Seek(uint64(n))
		}
		if got := s.Mask(nil); len(got) != 0 {
			t.Errorf("%s: Mask(nil) = %x", name, got)
		}
	}
}

// TestP7_3_TwiceIsItself masks twice from the same place, by one stream, and by two of one key.
func TestP7_3_TwiceIsItself(t *testing.T) {
	r := rand.New(rand.NewSource(82))
	key := drawn(r, 32)
	s, other := made(t, key), made(t, key)
	for _, n := range places() {
		b := drawn(r, r.Intn(60))
		s.Seek(n)
		masked := s.Mask(b)
		s.Seek(n)
		other.Seek(n)
		if got := s.Mask(masked); !bytes.Equal(got, b) {
			t.Fatalf("%x, masked twice at %d: %x", b, n, got)
		}
		if got := other.Mask(masked); !bytes.Equal(got, b) {
			t.Fatalf("%x, masked twice at %d, by two streams: %x", b, n, got)
		}
	}
}

// TestP7_3_EachCut cuts bytes in two, at each place of theirs.
func TestP7_3_EachCut(t *testing.T) {
	r := rand.New(rand.NewSource(83))
	s := made(t, drawn(r, 32))
	for _, from := range []uint64{0, 11, 16, last - 20, last} {
		b := drawn(r, 53)
		s.Seek(from)
		whole := s.Mask(b)
		for cut := range len(b) + 1 {
			s.Seek(from)
			got := append(s.Mask(b[:cut]), s.Mask(b[cut:])...)
			if !bytes.Equal(got, whole) || s.Place() != from+uint64(len(b)) {
				t.Fatalf("at %d, cut at %d: %x, not %x; at %d", from, cut, got, whole, s.Place())
			}
		}
	}
}

// TestP7_3_AnyPieces masks drawn pieces, some of them empty, and also the pieces in another order, each from its own place.
func TestP7_3_AnyPieces(t *testing.T) {
	r := rand.New(rand.NewSource(84))
	s := made(t, drawn(r, 32))
	for range 100 {
		b, from := drawn(r, 1+r.Intn(300)), r.Uint64()
		s.Seek(from)
		whole := s.Mask(b)
		cuts := []int{0}
		for end := 0; end < len(b); {
			end = min(len(b), end+r.Intn(40))
			cuts = append(cuts, end)
		}
		s.Seek(from)
		pieces := []byte{}
		for i := range len(cuts) - 1 {
			pieces = append(pieces, s.Mask(b[cuts[i]:cuts[i+1]])...)
		}
		if !bytes.Equal(pieces, whole) {
			t.Fatalf("at %d, cut at %v: %x, not %x", from, cuts, pieces, whole)
		}
		out := make([]byte, len(b))
		for _, i := range r.Perm(len(cuts) - 1) {
			s.Seek(from + uint64(cuts[i]))
			copy(out[cuts[i]:], s.Mask(b[cuts[i]:cuts[i+1]]))
		}
		if !bytes.Equal(out, whole) {
			t.Fatalf("at %d, cut at %v, out of order: %x, not %x", from, cuts, out, whole)
		}
	}
}
