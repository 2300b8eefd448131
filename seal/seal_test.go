package seal_test

import (
	"bytes"
	"crypto/aes"
	"crypto/hmac"
	"crypto/sha256"
	"encoding/hex"
	"math/rand"
	"testing"

	"mirador/api"
	"mirador/seal"
)

// room is how many bytes may be sealed, and tagBytes how many more a blob has, by the words of the chapter.
const (
	room     = 568
	tagBytes = 32
)

// tagged is the tag of bytes by a key, with the library's HMAC.
func tagged(key, b []byte) []byte {
	m := hmac.New(sha256.New, key)
	m.Write(b)
	return m.Sum(nil)
}

// keyOf is an id's key by the words of the chapter, with the library's hash.
func keyOf(id api.Id) [32]byte { return sha256.Sum256(append([]byte("mirador"), id[:]...)) }

// partsOf are the parts of an id's key by the words of the chapter.
func partsOf(id api.Id) ([]byte, []byte) {
	key := keyOf(id)
	return tagged(key[:], []byte("seal\x00")), tagged(key[:], []byte("seal\x01"))
}

// masked are bytes masked with a key's stream from the place 0 on, with the library's AES.
func masked(t *testing.T, key, b []byte) []byte {
	t.Helper()
	c, err := aes.NewCipher(key)
	if err != nil {
		t.Fatal(err)
	}
	l, block := make([]byte, len(b)), make([]byte, 16)
	for n := range l {
		if n%16 == 0 {
			number := n / 16
			c.Encrypt(block, []byte{14: byte(number / 256), 15: byte(number % 256)})
		}
		l[n] = b[n] ^ block[n%16]
	}
	return l
}

// blobOf is the blob of bytes under an id by the words of the chapter: of any number of bytes, also of more than may be sealed.
func blobOf(t *testing.T, id api.Id, plain []byte) []byte {
	t.Helper()
	streamKey, tagKey := partsOf(id)
	m := masked(t, streamKey, plain)
	return append(m, tagged(tagKey, m)...)
}

// sealed is a blob that Seal answers without an error.
func sealed(t *testing.T, id api.Id, plain []byte) []byte {
	t.Helper()
	b, e := seal.Seal(id, plain)
	if e != api.OK || len(b) != len(plain)+tagBytes {
		t.Fatalf("Seal(%x, %x) = %x, %d", id, plain, b, e)
	}
	return b
}

// opens fails, unless a blob opens under an id as these bytes.
func opens(t *testing.T, id api.Id, blob, want []byte) {
	t.Helper()
	if got, e := seal.Open(id, blob); e != api.OK || !bytes.Equal(got, want) {
		t.Fatalf("Open(%x, %x) = %x, %d, not %x", id, blob, got, e, want)
	}
}

// refused fails, unless a blob does not open under an id, with just this error, and without a byte.
func refused(t *testing.T, id api.Id, blob []byte, want api.Errno) {
	t.Helper()
	if got, e := seal.Open(id, blob); e != want || len(got) != 0 {
		t.Fatalf("Open(%x, %d bytes %x) = %x, %d, not the error %d", id, len(blob), blob, got, e, want)
	}
}

// hashOf is the library's hash of bytes.
func hashOf(b []byte) []byte {
	h := sha256.Sum256(b)
	return h[:]
}

// drawn are bytes that a draw of the test's own makes.
func drawn(r *rand.Rand, n int) []byte {
	b := make([]byte, n)
	r.Read(b)
	return b
}

// drawnId is an id that a draw of the test's own makes.
func drawnId(r *rand.Rand) api.Id { return api.Id(drawn(r, 32)) }

// unhex reads bytes of a test's own.
func unhex(t *testing.T, s string) []byte {
	t.Helper()
	b, err := hex.DecodeString(s)
	if err != nil {
		t.Fatal(err)
	}
	return b
}

// counted is the id of the bytes 0 to 31.
func counted() api.Id {
	var id api.Id
	for i := range id {
		id[i] = byte(i)
	}
	return id
}

// full is the id of 32 bytes 255.
func full() api.Id { return api.Id(bytes.Repeat([]byte{255}, 32)) }

// ids are those of like bytes, those of one bit, and drawn ones.
func ids() []api.Id {
	l := []api.Id{{}, full(), counted()}
	for bit := range 256 {
		var id api.Id
		id[bit/8] = 1 << (bit % 8)
		l = append(l, id)
	}
	r := rand.New(rand.NewSource(8))
	for range 50 {
		l = append(l, drawnId(r))
	}
	return l
}

// turnedBit is an id with one bit turned.
func turnedBit(id api.Id, bit int) api.Id {
	id[bit/8] ^= 1 << (bit % 8)
	return id
}

// turned are bytes, in new memory, of which one is turned by some bits.
func turned(b []byte, place int, by byte) []byte {
	l := bytes.Clone(b)
	l[place] ^= by
	return l
}

// lengths are those of bytes near none, near ends of the stream's blocks, and near as many as may be sealed.
func lengths() []int {
	l := []int{100, 255, 256, 257, 511, 512, 513, room - 1, room}
	for n := range 50 {
		l = append(l, n)
	}
	return l
}

// known are keys and blobs that Python's hashlib and hmac, and OpenSSL's AES in counter mode, made by the words of the chapter.
var known = []struct {
	id             api.Id
	plain          string
	key, blob, tag string
}{
	{api.Id{}, "", "502dcc70a5b0f7b29bfcb52fd097617eeed2dfa9cd537cdeaa9f5ce8e812f4cc", "", "ed0419c8c78f376f86ef8a997317e2e5a48d30ea57a11ea059bce7f6f19e969b"},
	{counted(), "a justice transaction", "2e12ab5976c19340b00ba79f304475d65a8aa6e55bff31572d151a20843078d8", "d013311295ca4766e6cdba9841e0d9024e83dac508", "4b60a61889b6d5947be382a20eb361220ec1afc0ee227b8f208a131bfb4c79b4"},
	{full(), "mirador", "3240c84ae676d9e9ca50abcb64f4dc4550c9a2c6c8555ae961648efb40344ecc", "2ccf4673248bf8", "64a90fcd0e396b62fd277b08e05528ff8938f3e6fc4933d168535cdcdd499a5d"},
}

// TestP8_1_Example holds the chapter's example: no bytes, sealed, are 32 bytes.
func TestP8_1_Example(t *testing.T) {
	for _, id := range ids() {
		for _, none := range [][]byte{nil, {}, make([]byte, 0, 70)} {
			if b, e := seal.Seal(id, none); e != api.OK || len(b) != 32 {
				t.Fatalf("under %x: %x, %d", id, b, e)
			}
		}
	}
}

// TestP8_1_KnownAnswers holds keys and blobs that others' programs made.
func TestP8_1_KnownAnswers(t *testing.T) {
	for _, x := range known {
		if got := seal.KeyOf(x.id); !bytes.Equal(got[:], unhex(t, x.key)) {
			t.Errorf("KeyOf(%x) = %x, not %s", x.id, got, x.key)
		}
		if got, want := sealed(t, x.id, []byte(x.plain)), unhex(t, x.blob+x.tag); !bytes.Equal(got, want) {
			t.Errorf("Seal(%x, %q) = %x, not %x", x.id, x.plain, got, want)
		}
	}
}

// TestP8_1_HintsAndKeys holds hints and keys of many ids against the chapter's words.
func TestP8_1_HintsAndKeys(t *testing.T) {
	for _, id := range ids() {
		before := id
		hint := seal.HintOf(id)
		for i := range 16 {
			if hint[i] != id[i] {
				t.Fatalf("HintOf(%x) = %x", id, hint)
			}
		}
		if got, want := seal.KeyOf(id), api.Id(keyOf(id)); got != want {
			t.Fatalf("KeyOf(%x) = %x, not %x", id, got, want)
		}
		if id != before {
			t.Fatalf("the id was changed: %x, not %x", id, before)
		}
	}
}

// TestP8_1_HintIsTheFirstHalf turns each bit of an id: in the first half it turns the hint's, in the second one the hint stays; the key is always another.
func TestP8_1_HintIsTheFirstHalf(t *testing.T) {
	id := drawnId(rand.New(rand.NewSource(81)))
	for bit := range 256 {
		other := turnedBit(id, bit)
		if same := seal.HintOf(other) == seal.HintOf(id); same != (bit >= 128) {
			t.Errorf("bit %d turned: the hint is the same: %v", bit, same)
		}
		if seal.KeyOf(other) == seal.KeyOf(id) {
			t.Errorf("bit %d turned: the key is the same", bit)
		}
	}
}

// TestP8_1_Room holds that MaxBlob less 32 may be sealed, and that Seal goes by it.
func TestP8_1_Room(t *testing.T) {
	if got, want := seal.Room(), api.MaxBlob-32; got != want || want != room {
		t.Fatalf("Room() = %d", got)
	}
	if b := sealed(t, counted(), make([]byte, seal.Room())); len(b) != api.MaxBlob {
		t.Errorf("as many as there is room for, sealed, are %d bytes", len(b))
	}
}

// TestP8_1_BlobsByTheChapter holds blobs of many ids, and of bytes of many lengths, against the chapter's words.
func TestP8_1_BlobsByTheChapter(t *testing.T) {
	r := rand.New(rand.NewSource(82))
	for _, id := range ids() {
		plain := drawn(r, r.Intn(room+1))
		if got, want := sealed(t, id, plain), blobOf(t, id, plain); !bytes.Equal(got, want) {
			t.Fatalf("Seal(%x, %x) = %x, not %x", id, plain, got, want)
		}
	}
	for _, n := range lengths() {
		id := drawnId(r)
		for _, plain := range [][]byte{drawn(r, n), make([]byte, n), bytes.Repeat([]byte{255}, n)} {
			if got, want := sealed(t, id, plain), blobOf(t, id, plain); !bytes.Equal(got, want) {
				t.Fatalf("Seal(%x, %x) = %x, not %x", id, plain, got, want)
			}
		}
	}
}

// TestP8_1_TooLong seals more than there is room for: ErrLong, and no blob.
func TestP8_1_TooLong(t *testing.T) {
	for _, n := range []int{room + 1, room + 2, room + 16, api.MaxBlob - 1, api.MaxBlob, api.MaxBlob + 1, 1000, 1 << 16, 1 << 22} {
		for _, id := range []api.Id{{}, counted(), full()} {
			if b, e := seal.Seal(id, make([]byte, n)); e != api.ErrLong || len(b) != 0 {
				t.Errorf("%d bytes under %x: %x, %d", n, id, b, e)
			}
		}
	}
	// Spare room counts for nothing.
	if b, e := seal.Seal(counted(), make([]byte, room, 2000)); e != api.OK || len(b) != api.MaxBlob {
		t.Errorf("as many as may be, with spare room: %x, %d", b, e)
	}
}

// TestP8_1_NewMemory holds what was handed in, with its spare room, and earlier blobs against later calls, and changes blobs.
func TestP8_1_NewMemory(t *testing.T) {
	r := rand.New(rand.NewSource(83))
	for _, n := range []int{0, 1, 15, 16, 17, 100, room} {
		id := drawnId(r)
		held, all := id, drawn(r, n+80)
		before := bytes.Clone(all)
		first := sealed(t, id, all[:n])
		kept := bytes.Clone(first)
		second := sealed(t, id, all[:n])
		if !bytes.Equal(all, before) || id != held || !bytes.Equal(first, kept) {
			t.Errorf("%d bytes: a call changed what was handed in, or out", n)
		}
		if !bytes.Equal(second, kept) {
			t.Errorf("%d bytes: sealed twice they are %x, %x", n, kept, second)
		}
		clear(first[:cap(first)])
		clear(all)
		if !bytes.Equal(second, kept) {
			t.Errorf("%d bytes: a blob shares memory", n)
		}
		if got := sealed(t, id, before[:n]); !bytes.Equal(got, kept) {
			t.Errorf("%d bytes: a call hangs on an earlier one", n)
		}
	}
}

// TestP8_2_Example holds the examples: 31 bytes are too few; a blob of no bytes opens as none, and not with a byte turned.
func TestP8_2_Example(t *testing.T) {
	for _, id := range ids() {
		refused(t, id, make([]byte, 31), api.ErrShort)
		b := sealed(t, id, nil)
		opens(t, id, b, nil)
		refused(t, id, turned(b, int(id[0])%32, 1), api.ErrSeal)
	}
}

// TestP8_2_KnownAnswers opens blobs that others' programs made.
func TestP8_2_KnownAnswers(t *testing.T) {
	for _, x := range known {
		opens(t, x.id, unhex(t, x.blob+x.tag), []byte(x.plain))
	}
}

// TestP8_2_OpensByTheChapter opens blobs that were made by the chapter's words.
func TestP8_2_OpensByTheChapter(t *testing.T) {
	r := rand.New(rand.NewSource(84))
	for _, id := range ids() {
		plain := drawn(r, r.Intn(room+1))
		opens(t, id, blobOf(t, id, plain), plain)
	}
	for _, n := range lengths() {
		id, plain := drawnId(r), drawn(r, n)
		opens(t, id, blobOf(t, id, plain), plain)
	}
}

// TestP8_2_Lengths hands in blobs of every length near the edges that open, but for their length, and such as never would.
func TestP8_2_Lengths(t *testing.T) {
	r := rand.New(rand.NewSource(85))
	id := drawnId(r)
	whole := sealed(t, id, nil)
	for n := range 32 {
		refused(t, id, whole[:n], api.ErrShort)
		refused(t, id, whole[32-n:], api.ErrShort)
		refused(t, id, make([]byte, n, 700), api.ErrShort)
		refused(t, id, drawn(r, n), api.ErrShort)
	}
	refused(t, id, nil, api.ErrShort)
	for _, n := range []int{32, 33, 34, 47, 48, 49, 64, 300, 597, 598, 599, 600} {
		plain := drawn(r, n-tagBytes)
		opens(t, id, blobOf(t, id, plain), plain)
		refused(t, id, make([]byte, n), api.ErrSeal)
		refused(t, id, drawn(r, n), api.ErrSeal)
	}
	for _, n := range []int{601, 602, 616, 632, 633, 1000, 1 << 12, 1 << 16} {
		refused(t, id, blobOf(t, id, drawn(r, n-tagBytes)), api.ErrLong)
		refused(t, id, make([]byte, n), api.ErrLong)
		refused(t, id, drawn(r, n), api.ErrLong)
	}
}

// TestP8_2_OtherTags hands in blobs whose tags are made otherwise than the chapter says.
func TestP8_2_OtherTags(t *testing.T) {
	r := rand.New(rand.NewSource(86))
	id := drawnId(r)
	key := keyOf(id)
	streamKey, tagKey := partsOf(id)
	for _, n := range []int{0, 1, 16, 40, room} {
		plain := drawn(r, n)
		m := masked(t, streamKey, plain)
		for name, tag := range map[string][]byte{
			"by the key of the stream": tagged(streamKey, m),
			"by the id's key":          tagged(key[:], m),
			"by the id":                tagged(id[:], m),
			"by no key":                tagged(nil, m),
			"a hash":                   hashOf(m),
			"of other masked bytes":    tagged(tagKey, append([]byte{0}, m...)),
			"of the label":             tagged(tagKey, []byte("seal")),
			"none":                     make([]byte, 32),
		} {
			if got, e := seal.Open(id, append(bytes.Clone(m), tag...)); e != api.ErrSeal || len(got) != 0 {
				t.Errorf("%d bytes, a tag %s: %x, %d", n, name, got, e)
			}
		}
		if n > 0 {
			refused(t, id, append(bytes.Clone(m), tagged(tagKey, plain)...), api.ErrSeal)
			refused(t, id, append(bytes.Clone(plain), tagged(tagKey, m)...), api.ErrSeal)
			refused(t, id, append(tagged(tagKey, m), m...), api.ErrSeal)
		}
	}
}

// TestP8_2_NewMemory holds what was handed in, with its spare room, and earlier answers against later calls, and changes answers.
func TestP8_2_NewMemory(t *testing.T) {
	r := rand.New(rand.NewSource(87))
	for _, n := range []int{0, 1, 15, 16, 17, 100, room} {
		id, plain := drawnId(r), drawn(r, n)
		held, all := id, append(sealed(t, id, plain), drawn(r, 80)...)
		blob, before := all[:n+tagBytes], bytes.Clone(all)
		first, _ := seal.Open(id, blob)
		second, _ := seal.Open(id, blob)
		refused(t, turnedBit(id, 9), blob, api.ErrSeal)
		if !bytes.Equal(all, before) || id != held || !bytes.Equal(first, plain) || !bytes.Equal(second, plain) {
			t.Errorf("%d bytes: a call changed what was handed in, or out", n)
		}
		clear(first[:cap(first)])
		if !bytes.Equal(all, before) || !bytes.Equal(second, plain) {
			t.Errorf("%d bytes: an answer shares memory", n)
		}
		clear(all)
		if !bytes.Equal(second, plain) {
			t.Errorf("%d bytes: an answer is the blob handed in", n)
		}
		opens(t, id, before[:n+tagBytes], plain)
	}
}

// TestP8_3_OpenUndoesSeal opens what was sealed, of each length that may be, and seals it again.
func TestP8_3_OpenUndoesSeal(t *testing.T) {
	r := rand.New(rand.NewSource(88))
	for n := range room + 1 {
		id, plain := drawnId(r), drawn(r, n)
		b := sealed(t, id, plain)
		opens(t, id, b, plain)
		got, _ := seal.Open(id, b)
		if again := sealed(t, id, got); !bytes.Equal(again, b) {
			t.Fatalf("what opens, sealed again under %x: %x, not %x", id, again, b)
		}
	}
}

// TestP8_3_OpensAndSealedAgain seals again what opens of blobs that Seal did not make, under that id and under another.
func TestP8_3_OpensAndSealedAgain(t *testing.T) {
	r := rand.New(rand.NewSource(89))
	for range 100 {
		id := drawnId(r)
		b := blobOf(t, id, drawn(r, r.Intn(room+1)))
		plain, e := seal.Open(id, b)
		if e != api.OK {
			t.Fatalf("Open(%x, %x): %d", id, b, e)
		}
		if again := sealed(t, id, plain); !bytes.Equal(again, b) {
			t.Fatalf("what opens, sealed again under %x: %x, not %x", id, again, b)
		}
		if other := sealed(t, turnedBit(id, r.Intn(256)), plain); bytes.Equal(other, b) {
			t.Fatalf("what opens, sealed under another id: %x too", other)
		}
	}
}

// TestP8_3_TurnedBytes turns each byte of blobs, by each bit and by others: those that are masked, and those of the tag alone.
func TestP8_3_TurnedBytes(t *testing.T) {
	r := rand.New(rand.NewSource(90))
	for _, n := range []int{0, 1, 16, 21, 33} {
		id, plain := drawnId(r), drawn(r, n)
		b := sealed(t, id, plain)
		for place := range b {
			for _, by := range []byte{1, 2, 4, 8, 16, 32, 64, 128, 255, byte(1 + r.Intn(255))} {
				refused(t, id, turned(b, place, by), api.ErrSeal)
			}
		}
		opens(t, id, b, plain)
	}
	id := drawnId(r)
	b := sealed(t, id, drawn(r, room))
	for place := range b {
		refused(t, id, turned(b, place, byte(1+r.Intn(255))), api.ErrSeal)
	}
}

// TestP8_3_CutOffOrLonger takes bytes off blobs, and puts some to them, at both ends.
func TestP8_3_CutOffOrLonger(t *testing.T) {
	r := rand.New(rand.NewSource(91))
	for _, n := range []int{1, 2, 15, 16, 17, 100, room - 1, room} {
		id := drawnId(r)
		b := sealed(t, id, drawn(r, n))
		for off := 1; off <= min(n, 3); off++ {
			refused(t, id, b[:len(b)-off], api.ErrSeal)
			refused(t, id, b[off:], api.ErrSeal)
			refused(t, id, append(bytes.Clone(b[:n-off]), b[n:]...), api.ErrSeal)
		}
		want := api.ErrSeal
		if n == room {
			want = api.ErrLong
		}
		for _, x := range []byte{0, 1, 255, b[len(b)-1]} {
			refused(t, id, append(bytes.Clone(b), x), want)
			refused(t, id, append([]byte{x}, b...), want)
			refused(t, id, append(append(bytes.Clone(b[:n]), x), b[n:]...), want)
		}
	}
	id := drawnId(r)
	b := sealed(t, id, nil)
	refused(t, id, b[:31], api.ErrShort)
	refused(t, id, b[1:], api.ErrShort)
	refused(t, id, append(bytes.Clone(b), 0), api.ErrSeal)
	refused(t, id, append([]byte{0}, b...), api.ErrSeal)
}

// TestP8_3_OtherIds opens blobs under ids with any one bit turned, also those with the same hint, and under others.
func TestP8_3_OtherIds(t *testing.T) {
	r := rand.New(rand.NewSource(92))
	for _, n := range []int{0, 1, 40, room} {
		id := drawnId(r)
		b := sealed(t, id, drawn(r, n))
		for bit := range 256 {
			refused(t, turnedBit(id, bit), b, api.ErrSeal)
		}
		for _, other := range []api.Id{{}, full(), counted(), api.Id(keyOf(id)), drawnId(r)} {
			refused(t, other, b, api.ErrSeal)
		}
	}
}

// TestP8_3_ErrorsLeaveNoTrace opens and seals between calls that are refused: they go on as if nobody had.
func TestP8_3_ErrorsLeaveNoTrace(t *testing.T) {
	r := rand.New(rand.NewSource(93))
	id, plain := drawnId(r), drawn(r, 70)
	want := blobOf(t, id, plain)
	for range 20 {
		refused(t, id, drawn(r, r.Intn(32)), api.ErrShort)
		refused(t, id, drawn(r, 32+r.Intn(569)), api.ErrSeal)
		refused(t, id, drawn(r, 601+r.Intn(100)), api.ErrLong)
		if b, e := seal.Seal(id, make([]byte, room+1+r.Intn(100))); e != api.ErrLong || len(b) != 0 {
			t.Fatalf("too many to seal: %x, %d", b, e)
		}
		if got := sealed(t, id, plain); !bytes.Equal(got, want) {
			t.Fatalf("Seal behind what was refused: %x, not %x", got, want)
		}
		opens(t, id, want, plain)
	}
}
