package message_test

import (
	"bytes"
	"encoding/binary"
	"fmt"
	"math"
	"math/rand"
	"reflect"
	"slices"
	"testing"

	"mirador/api"
	"mirador/message"
	"mirador/reader"
)

// The chapter's limits, and its kinds, as numbers of the test's own.
const (
	maxQuota = 65535
	maxBlob  = 1000

	open   = 1
	upload = 2
	ask    = 3
	closes = 4
)

// kinds are those that a message may have.
var kinds = []api.Kind{open, upload, ask, closes}

// otherKinds are some that it may not have: none, those of records and events, one below 0, and such as are one that it may have when they are cut to a byte, or to four.
var otherKinds = []api.Kind{0, 5, 6, 7, 8, 127, 128, 255, 256, 256 + open, 256 + upload, 256 + ask, 256 + closes, 65536 + upload, 1<<32 + open, 1<<32 + ask, -1, -2, -3, -4, -255, -252, open - 256, closes - 256, math.MaxInt, math.MinInt, math.MinInt + upload}

// nums are numbers of four bytes: the least, the greatest, and some between.
var nums = []uint32{0, 1, 2, 255, 256, 65535, 65536, 0x01020304, math.MaxInt32, math.MaxInt32 + 1, math.MaxUint32 - 1, math.MaxUint32}

// hints are some hints: of bytes 0, of bytes 255, of bytes that rise, and with just the first or the last byte.
var hints = []api.Hint{{}, api.Hint(filled(16, 255)), {0, 1, 2, 3, 4, 5, 6, 7, 8, 9, 10, 11, 12, 13, 14, 15}, {0: 1}, {15: 1}}

// brief is a thing's text, cut where it is long.
func brief(x any) string {
	s := fmt.Sprint(x)
	return s[:min(len(s), 200)]
}

// filled are so many bytes, each of them b.
func filled(n int, b byte) []byte { return bytes.Repeat([]byte{b}, n) }

// drawn are bytes that a draw of the test's own makes.
func drawn(r *rand.Rand, n int) []byte {
	b := make([]byte, n)
	r.Read(b)
	return b
}

// number is a number of four bytes, a small one as often as a great one.
func number(r *rand.Rand) uint32 { return r.Uint32() >> r.Intn(33) }

// drawnMessage is one that may be.
func drawnMessage(r *rand.Rand) api.Message {
	switch m := (api.Message{Kind: kinds[r.Intn(len(kinds))]}); m.Kind {
	case open:
		m.Quota = number(r) & maxQuota
		return m
	case upload:
		m.Session, m.Seq, m.Hint = number(r), number(r), api.Hint(drawn(r, 16))
		m.Blob = drawn(r, r.Intn(1+maxBlob>>r.Intn(10)))
		return m
	default:
		m.Session = number(r)
		return m
	}
}

// mayBe is what the chapter's words ask of a message.
func mayBe(m api.Message) bool {
	none := m.Seq == 0 && m.Hint == api.Hint{} && len(m.Blob) == 0
	switch m.Kind {
	case open:
		return none && m.Session == 0 && m.Quota <= maxQuota
	case upload:
		return m.Quota == 0 && len(m.Blob) <= maxBlob
	case ask, closes:
		return none && m.Quota == 0
	}
	return false
}

// bytesOf are a message's bytes by the chapter's words, also of one that may not be (as far as its numbers fit).
func bytesOf(m api.Message) []byte {
	b := []byte{byte(m.Kind)}
	switch m.Kind {
	case open:
		return binary.BigEndian.AppendUint16(b, uint16(m.Quota))
	case upload:
		b = binary.BigEndian.AppendUint32(b, m.Session)
		b = binary.BigEndian.AppendUint32(b, m.Seq)
		b = append(b, m.Hint[:]...)
		b = binary.BigEndian.AppendUint16(b, uint16(len(m.Blob)))
		return append(b, m.Blob...)
	case ask, closes:
		return binary.BigEndian.AppendUint32(b, m.Session)
	}
	return b
}

// readOf reads a message by the chapter's words, from the left.
func readOf(b []byte) (api.Message, api.Errno) {
	if len(b) < 1 {
		return api.Message{}, api.ErrShort
	}
	m := api.Message{Kind: api.Kind(b[0])}
	if b = b[1:]; !slices.Contains(kinds, m.Kind) {
		return api.Message{}, api.ErrForm
	}
	if m.Kind == open {
		if len(b) < 2 {
			return api.Message{}, api.ErrShort
		}
		m.Quota = uint32(binary.BigEndian.Uint16(b))
		b = b[2:]
	} else {
		if len(b) < 4 {
			return api.Message{}, api.ErrShort
		}
		m.Session = binary.BigEndian.Uint32(b)
		b = b[4:]
	}
	if m.Kind == upload {
		if len(b) < 4+16+2 {
			return api.Message{}, api.ErrShort
		}
		m.Seq = binary.BigEndian.Uint32(b)
		copy(m.Hint[:], b[4:])
		n := int(binary.BigEndian.Uint16(b[20:]))
		if b = b[22:]; n > maxBlob {
			return api.Message{}, api.ErrForm
		}
		if len(b) < n {
			return api.Message{}, api.ErrShort
		}
		m.Blob = b[:n]
		b = b[n:]
	}
	if len(b) > 0 {
		return api.Message{}, api.ErrLong
	}
	return m, api.OK
}

// alike tells whether two messages have the same fields; bytes of which there are none may be nil or empty.
func alike(a, b api.Message) bool {
	return string(a.Blob) == string(b.Blob) && reflect.DeepEqual(blobless(a), blobless(b))
}

// blobless is a message without its Blob.
func blobless(m api.Message) api.Message {
	m.Blob = nil
	return m
}

// twin is a message in memory of its own, with spare room where the other has some, so that what was there before a call can be held against what is there behind it.
func twin(m api.Message) api.Message {
	if m.Blob != nil {
		all := m.Blob[:cap(m.Blob)]
		own := make([]byte, len(all))
		copy(own, all)
		m.Blob = own[:len(m.Blob)]
	}
	return m
}

// untouched holds that a message is as it was, spare room and all.
func untouched(t *testing.T, what string, m, was api.Message) {
	t.Helper()
	if !reflect.DeepEqual(m, was) || !bytes.Equal(m.Blob[:cap(m.Blob)], was.Blob[:cap(was.Blob)]) {
		t.Errorf("%s changed what was handed in: %s, not %s", what, brief(m), brief(was))
	}
}

// encodes holds that a message may be, and has the bytes that the chapter's words tell.
func encodes(t *testing.T, m api.Message) {
	t.Helper()
	if !message.Right(m) {
		t.Errorf("Right of %s: false", brief(m))
	}
	if b, e := message.Encode(m); e != api.OK || !bytes.Equal(b, bytesOf(m)) {
		t.Errorf("Encode of %s: %s, %d; not %s", brief(m), brief(b), e, brief(bytesOf(m)))
	}
}

// wrong holds that a message may not be: ErrArg, and no bytes.
func wrong(t *testing.T, m api.Message) {
	t.Helper()
	if message.Right(m) {
		t.Errorf("Right of %s: true", brief(m))
	}
	if b, e := message.Encode(m); e != api.ErrArg || len(b) != 0 {
		t.Errorf("Encode of %s: %s, %d", brief(m), brief(b), e)
	}
}

// judged holds that a message is what the chapter's words say: it may be, or not.
func judged(t *testing.T, m api.Message) {
	t.Helper()
	if mayBe(m) {
		encodes(t, m)
	} else {
		wrong(t, m)
	}
}

// decodes holds that these are the bytes of this message.
func decodes(t *testing.T, b []byte, want api.Message) {
	t.Helper()
	if m, e := message.Decode(b); e != api.OK || !alike(m, want) {
		t.Errorf("Decode of %s: %s, %d; not %s", brief(b), brief(m), e, brief(want))
	}
}

// refuses holds that bytes are none's: this error, and no message.
func refuses(t *testing.T, b []byte, want api.Errno) {
	t.Helper()
	if m, e := message.Decode(b); e != want || m.Blob != nil || !alike(m, api.Message{}) {
		t.Errorf("Decode of %d bytes, %s: %s, %d; not %d", len(b), brief(b), brief(m), e, want)
	}
}

// reads holds that Decode tells what the chapter's words do, and what follows of it.
func reads(t *testing.T, b []byte) {
	t.Helper()
	want, err := readOf(b)
	if err != api.OK {
		refuses(t, b, err)
		return
	}
	decodes(t, b, want)
	m, _ := message.Decode(b)
	if again, e := message.Encode(m); !message.Right(m) || e != api.OK || !bytes.Equal(again, b) {
		t.Errorf("Decode of %s, encoded again: %s, %d, Right %v", brief(b), brief(again), e, message.Right(m))
	}
}

// changed is bytes with one of them made another.
func changed(b []byte, at int, to byte) []byte {
	b = bytes.Clone(b)
	b[at] = to
	return b
}

// with is bytes with others behind them, in new memory.
func with(b []byte, behind ...byte) []byte { return append(bytes.Clone(b), behind...) }

// uploadTo is the beginning of an Upload's bytes, up to how many bytes its Blob has.
func uploadTo(size uint16) []byte {
	b := append([]byte{upload, 0, 0, 0, 5, 0, 0, 1, 2}, filled(16, 9)...)
	return binary.BigEndian.AppendUint16(b, size)
}

// uploadOf is an Upload with that beginning and this Blob.
func uploadOf(blob []byte) api.Message {
	return api.Message{Kind: upload, Session: 5, Seq: 258, Hint: api.Hint(filled(16, 9)), Blob: blob}
}

// some are messages of each kind that may be.
func some() []api.Message {
	l := []api.Message{{Kind: open}, {Kind: open, Quota: 258}, {Kind: open, Quota: maxQuota}, {Kind: upload}, uploadOf(nil), uploadOf([]byte{}), uploadOf([]byte{7}), uploadOf(filled(255, 1)), uploadOf(filled(256, 2)), uploadOf(filled(600, 3)), uploadOf(filled(601, 4)), uploadOf(filled(maxBlob-1, 5)), uploadOf(filled(maxBlob, 255))}
	for _, n := range nums {
		l = append(l, api.Message{Kind: ask, Session: n}, api.Message{Kind: closes, Session: n}, api.Message{Kind: upload, Session: n, Seq: ^n, Blob: []byte{7, 8}})
	}
	return l
}

// strange are messages that may not be, and some that may, with spare room or without.
func strange() []api.Message {
	room := append(filled(5, 6), filled(30, 99)...)[:5]
	l := []api.Message{{}, {Blob: []byte{}}, uploadOf(room), uploadOf(filled(maxBlob+1, 7)), {Kind: open, Blob: make([]byte, 0, 9)}, {Kind: ask, Session: 1, Blob: room[:0]}}
	for _, kind := range append(slices.Clone(kinds), otherKinds...) {
		l = append(l, api.Message{Kind: kind}, full(kind))
	}
	return l
}

// full is a message in which each field is something.
func full(kind api.Kind) api.Message {
	return api.Message{Kind: kind, Session: 3, Seq: 258, Quota: 77, Hint: hints[2], Blob: []byte{7, 8, 9}}
}

// TestP14_1_Example holds the chapter's examples.
func TestP14_1_Example(t *testing.T) {
	for _, known := range []struct {
		m api.Message
		b []byte
	}{
		{api.Message{Kind: api.Open, Quota: 258}, []byte{1, 1, 2}},
		{api.Message{Kind: api.Ask, Session: 3}, []byte{3, 0, 0, 0, 3}},
	} {
		if got, e := message.Encode(known.m); e != api.OK || !bytes.Equal(got, known.b) || !message.Right(known.m) {
			t.Errorf("Encode of %v: %v, %d", known.m, got, e)
		}
		decodes(t, known.b, known.m)
	}
}

// TestP14_1_Bytes holds bytes that are written out.
func TestP14_1_Bytes(t *testing.T) {
	for _, known := range []struct {
		m api.Message
		b []byte
	}{
		{api.Message{Kind: api.Open}, []byte{1, 0, 0}},
		{api.Message{Kind: api.Open, Quota: 255}, []byte{1, 0, 255}},
		{api.Message{Kind: api.Open, Quota: 256}, []byte{1, 1, 0}},
		{api.Message{Kind: api.Open, Quota: 65535}, []byte{1, 255, 255}},
		{api.Message{Kind: api.Upload}, append([]byte{2}, filled(26, 0)...)},
		{api.Message{Kind: api.Upload, Session: 0x01020304, Seq: 0x05060708, Hint: hints[2], Blob: []byte{30, 31, 32}}, []byte{2, 1, 2, 3, 4, 5, 6, 7, 8, 0, 1, 2, 3, 4, 5, 6, 7, 8, 9, 10, 11, 12, 13, 14, 15, 0, 3, 30, 31, 32}},
		{api.Message{Kind: api.Upload, Session: math.MaxUint32, Seq: math.MaxUint32, Hint: hints[1], Blob: filled(1000, 255)}, append(append([]byte{2}, filled(24, 255)...), append([]byte{3, 232}, filled(1000, 255)...)...)},
		{api.Message{Kind: api.Ask}, []byte{3, 0, 0, 0, 0}},
		{api.Message{Kind: api.Ask, Session: 0x01020304}, []byte{3, 1, 2, 3, 4}},
		{api.Message{Kind: api.Close}, []byte{4, 0, 0, 0, 0}},
		{api.Message{Kind: api.Close, Session: 1 << 31}, []byte{4, 128, 0, 0, 0}},
		{api.Message{Kind: api.Close, Session: math.MaxUint32}, []byte{4, 255, 255, 255, 255}},
	} {
		if got, e := message.Encode(known.m); e != api.OK || !bytes.Equal(got, known.b) || !message.Right(known.m) {
			t.Errorf("Encode of %s: %s, %d; not %s", brief(known.m), brief(got), e, brief(known.b))
		}
		decodes(t, known.b, known.m)
	}
}

// TestP14_1_Kinds holds messages of each kind that may be, and of others, with no field and with all.
func TestP14_1_Kinds(t *testing.T) {
	for _, kind := range kinds {
		encodes(t, api.Message{Kind: kind})
		encodes(t, api.Message{Kind: kind, Blob: []byte{}})
		wrong(t, full(kind))
	}
	for _, kind := range otherKinds {
		wrong(t, api.Message{Kind: kind})
		wrong(t, api.Message{Kind: kind, Blob: []byte{}})
		wrong(t, api.Message{Kind: kind, Quota: 1})
		wrong(t, api.Message{Kind: kind, Session: 1})
		wrong(t, full(kind))
	}
	for kind := api.Kind(-600); kind <= 600; kind++ {
		judged(t, api.Message{Kind: kind})
	}
}

// TestP14_1_Quotas holds an Open of each quota there is, and of greater ones.
func TestP14_1_Quotas(t *testing.T) {
	for quota := range uint32(maxQuota + 1) {
		m := api.Message{Kind: open, Quota: quota}
		b, e := message.Encode(m)
		if e != api.OK || !bytes.Equal(b, []byte{1, byte(quota >> 8), byte(quota)}) || !message.Right(m) {
			t.Fatalf("the quota %d: %v, %d", quota, b, e)
		}
		decodes(t, b, m)
	}
	for _, quota := range []uint32{maxQuota + 1, maxQuota + 2, maxQuota + 258, 1 << 24, math.MaxInt32, math.MaxInt32 + 1, math.MaxUint32 - maxQuota, math.MaxUint32} {
		wrong(t, api.Message{Kind: open, Quota: quota})
	}
}

// TestP14_1_Sessions holds an Ask and a Close of many sessions.
func TestP14_1_Sessions(t *testing.T) {
	for _, n := range nums {
		encodes(t, api.Message{Kind: ask, Session: n})
		encodes(t, api.Message{Kind: closes, Session: n})
	}
	for bit := range 32 {
		encodes(t, api.Message{Kind: ask, Session: 1 << bit})
		encodes(t, api.Message{Kind: closes, Session: ^uint32(0) - 1<<bit})
	}
}

// TestP14_1_Uploads holds an Upload of each mix of sessions, seqs and hints.
func TestP14_1_Uploads(t *testing.T) {
	for _, session := range nums {
		for _, seq := range nums {
			for _, hint := range hints {
				for _, blob := range [][]byte{nil, {0}, {255, 0, 255}} {
					m := api.Message{Kind: upload, Session: session, Seq: seq, Hint: hint, Blob: blob}
					encodes(t, m)
					decodes(t, bytesOf(m), m)
				}
			}
		}
	}
}

// TestP14_1_Blobs holds an Upload with a Blob of each size that may be, and of greater ones.
func TestP14_1_Blobs(t *testing.T) {
	for size := range maxBlob + 1 {
		blob := filled(size, byte(size))
		encodes(t, uploadOf(blob))
		decodes(t, append(uploadTo(uint16(size)), blob...), uploadOf(blob))
	}
	encodes(t, uploadOf(nil))
	for _, size := range []int{maxBlob + 1, maxBlob + 2, 1023, 1024, 2000, 65535, 65536, 65536 + 1, 65536 + maxBlob, 1 << 20} {
		wrong(t, uploadOf(filled(size, 3)))
	}
}

// TestP14_1_OtherFields holds each kind with each field that it has, and has not, at 0 and at something else.
func TestP14_1_OtherFields(t *testing.T) {
	blobs := [][]byte{nil, {}, make([]byte, 0, 8), {0}, {1}, filled(maxBlob, 0), filled(maxBlob+1, 0)}
	for _, kind := range append(slices.Clone(kinds), otherKinds...) {
		for _, n := range nums {
			judged(t, api.Message{Kind: kind, Session: n})
			judged(t, api.Message{Kind: kind, Seq: n})
			judged(t, api.Message{Kind: kind, Quota: n})
		}
		for at := range 16 {
			for _, b := range []byte{1, 128} {
				m := api.Message{Kind: kind}
				m.Hint[at] = b
				judged(t, m)
			}
		}
		for _, blob := range blobs {
			judged(t, api.Message{Kind: kind, Blob: blob})
			judged(t, api.Message{Kind: kind, Session: 1, Blob: blob})
			judged(t, api.Message{Kind: kind, Quota: 1, Blob: blob})
		}
	}
}

// TestP14_1_EveryMix holds all messages of few kinds whose fields are 0, or something else.
func TestP14_1_EveryMix(t *testing.T) {
	few := []uint32{0, 1, maxQuota, maxQuota + 1, math.MaxUint32}
	for _, kind := range []api.Kind{-1, 0, open, upload, ask, closes, 5, 6, 256 + open} {
		for _, session := range few {
			for _, seq := range few {
				for _, quota := range few {
					for _, hint := range hints {
						for _, blob := range [][]byte{nil, {}, {0}, filled(maxBlob+1, 0)} {
							judged(t, api.Message{Kind: kind, Session: session, Seq: seq, Quota: quota, Hint: hint, Blob: blob})
						}
					}
				}
			}
		}
	}
}

// TestP14_1_Beginnings reads each beginning of what was encoded, and those bytes with bytes behind.
func TestP14_1_Beginnings(t *testing.T) {
	for _, m := range some() {
		b := bytesOf(m)
		for end := range b {
			refuses(t, b[:end], api.ErrShort)
		}
		decodes(t, b, m)
		for _, more := range [][]byte{{0}, {1}, {255}, {0, 0}, {3, 0, 0, 0, 3}, b, filled(70, 0), filled(1<<16, 9)} {
			refuses(t, with(b, more...), api.ErrLong)
		}
	}
	refuses(t, nil, api.ErrShort)
	refuses(t, []byte{}, api.ErrShort)
	refuses(t, make([]byte, 0, 30), api.ErrShort)
}

// TestP14_1_FirstByte reads each first byte: one that is no such kind is told ahead of what is behind it, whatever that is.
func TestP14_1_FirstByte(t *testing.T) {
	for n := range 256 {
		want := api.ErrForm
		if n >= open && n <= closes {
			want = api.ErrShort
		}
		refuses(t, []byte{byte(n)}, want)
		for _, m := range some() {
			reads(t, changed(bytesOf(m), 0, byte(n)))
		}
		for _, size := range []int{1, 2, 3, 4, 5, 26, 27, 5000} {
			reads(t, append([]byte{byte(n)}, filled(size, 0)...))
			reads(t, append([]byte{byte(n)}, filled(size, 255)...))
		}
	}
}

// TestP14_1_DecodeQuotas reads an Open's bytes one by one: it has no more than two behind its kind.
func TestP14_1_DecodeQuotas(t *testing.T) {
	refuses(t, []byte{open}, api.ErrShort)
	refuses(t, []byte{open, 255}, api.ErrShort)
	refuses(t, []byte{open, 0, 1, 0}, api.ErrLong)
	refuses(t, []byte{open, 0, 1, 0, 0}, api.ErrLong)
	decodes(t, []byte{open, 0, 0}, api.Message{Kind: open})
	decodes(t, []byte{open, 255, 255}, api.Message{Kind: open, Quota: 65535})
}

// TestP14_1_DecodeBlobs reads each size of a Blob: one that may not be is told ahead of its bytes, be they there or not.
func TestP14_1_DecodeBlobs(t *testing.T) {
	for size := range 65536 {
		b := uploadTo(uint16(size))
		if size == 0 {
			decodes(t, b, uploadOf(nil))
			refuses(t, with(b, 0), api.ErrLong)
			continue
		}
		if size <= maxBlob {
			refuses(t, b, api.ErrShort)
			refuses(t, append(with(b), filled(size-1, 3)...), api.ErrShort)
			refuses(t, append(with(b), filled(size+1, 3)...), api.ErrLong)
			continue
		}
		refuses(t, b, api.ErrForm)
		refuses(t, with(b, 3), api.ErrForm)
	}
	for _, size := range []int{maxBlob + 1, maxBlob + 2, 1024, 2000, 60000, 65535} {
		b := uploadTo(uint16(size))
		for _, there := range []int{1, maxBlob - 1, maxBlob, maxBlob + 1, size - 1, size, size + 1, size + maxBlob} {
			refuses(t, append(with(b), filled(there, 3)...), api.ErrForm)
		}
		refuses(t, b[:len(b)-1], api.ErrShort)
	}
}

// TestP14_1_FirstFault reads bytes in which two faults stand one behind the other: the first from the left is told.
func TestP14_1_FirstFault(t *testing.T) {
	for _, known := range []struct {
		b []byte
		e api.Errno
	}{
		{[]byte{0, 0, 0}, api.ErrForm},                             // no such kind, then bytes that an Open would have
		{[]byte{5, 0, 0, 0, 3}, api.ErrForm},                       // no such kind, then bytes that an Ask would have
		{[]byte{6, 0, 0, 0, 3, 0, 0, 0, 0, 0, 0}, api.ErrForm},     // no such kind, then bytes behind
		{append([]byte{7}, uploadTo(1001)[1:]...), api.ErrForm},    // no such kind, then a Blob that would be too long
		{uploadTo(1001)[:26], api.ErrShort},                        // too few bytes of a size, which could be but too great
		{with(uploadTo(1001)[:26], 255), api.ErrForm},              // a Blob that would be too long, then no byte
		{append(uploadTo(1001), filled(1001, 0)...), api.ErrForm},  // a Blob that is too long, then no byte
		{append(uploadTo(1001), filled(1002, 0)...), api.ErrForm},  // a Blob that is too long, then bytes behind
		{append(uploadTo(65535), filled(1000, 0)...), api.ErrForm}, // a Blob that would be too long, then too few bytes
		{append(uploadTo(1000), filled(999, 0)...), api.ErrShort},  // too few bytes of a Blob
		{append(uploadTo(1000), filled(1001, 0)...), api.ErrLong},  // bytes behind a Blob of as many as may be
		{[]byte{3, 0, 0, 3}, api.ErrShort},                         // too few bytes of a Session
		{[]byte{3, 0, 0, 0, 3, 5}, api.ErrLong},                    // bytes behind, which are no such kind
		{[]byte{4, 0, 0, 0, 3, 3, 0, 0, 0}, api.ErrLong},           // bytes behind, which would be too few
		{[]byte{1, 0, 3, 2}, api.ErrLong},                          // bytes behind, which would be too few
		{append([]byte{2}, filled(25, 255)...), api.ErrShort},      // too few bytes of a size
		{append([]byte{2}, filled(26, 255)...), api.ErrForm},       // a Blob that would be too long, then no byte
		{append([]byte{3}, filled(26, 255)...), api.ErrLong},       // bytes behind an Ask, that an Upload could not have
		{append([]byte{1}, uploadTo(1001)[1:]...), api.ErrLong},    // bytes behind an Open, that an Upload could not have
		{append([]byte{0xff}, filled(1<<16, 255)...), api.ErrForm}, // no such kind, then a lot of bytes
		{append([]byte{2}, filled(1<<16, 0)...), api.ErrLong},      // a Blob of no byte, then a lot of bytes
		{append([]byte{2, 0}, uploadTo(1000)[1:]...), api.ErrForm}, // a byte put in, so that the size is 2307, then a byte behind
	} {
		if _, e := readOf(known.b); e != known.e {
			t.Fatalf("the test's own reading of %s: %d; not %d", brief(known.b), e, known.e)
		}
		refuses(t, known.b, known.e)
	}
}

// TestP14_1_DecodeFewBytes reads every mix of few bytes, and holds each against the chapter's words.
func TestP14_1_DecodeFewBytes(t *testing.T) {
	mix := func(signs []byte, most int, ahead []byte) {
		last := [][]byte{ahead}
		for range most {
			var next [][]byte
			for _, b := range last {
				for _, sign := range signs {
					next = append(next, with(b, sign))
				}
			}
			for _, b := range next {
				reads(t, b)
			}
			last = next
		}
	}
	mix([]byte{0, 1, 2, 3, 4, 5, 255}, 5, nil)
	mix([]byte{0, 4, 255}, 7, []byte{ask})
	mix([]byte{0, 1, 255}, 7, []byte{closes})
	mix([]byte{0, 1, 2, 3, 232, 233, 255}, 5, uploadTo(0)[:25])
	for _, ahead := range [][]byte{{3, 231}, {3, 232}, {3, 233}, {0, 0}, {0, 1}, {4, 0}} {
		sized := append(uploadTo(0)[:25], ahead...)
		for there := range maxBlob + 5 {
			reads(t, append(with(sized), filled(there, 1)...))
		}
	}
}

// TestP14_1_DecodeTurned reads bytes of messages in which one byte was made another, was left out, or was put in.
func TestP14_1_DecodeTurned(t *testing.T) {
	r := rand.New(rand.NewSource(1))
	for range 60 {
		b := bytesOf(drawnMessage(r))
		for at := range b {
			for _, to := range []byte{0, 1, b[at] - 1, b[at] + 1, b[at] ^ 128, 3, 232, 255} {
				reads(t, changed(b, at, to))
			}
			reads(t, slices.Delete(bytes.Clone(b), at, at+1))
			reads(t, slices.Insert(bytes.Clone(b), at, byte(r.Intn(256))))
		}
	}
	for range 20000 {
		b := drawn(r, r.Intn(50))
		if len(b) > 0 {
			b[0] %= 6
		}
		if len(b) > 26 && b[26]&1 == 0 {
			b[25], b[26] = 0, byte(len(b)-27)
		}
		reads(t, b)
	}
}

// TestP14_1_Unchanged holds that what was handed in is as it was, and that nothing of it is kept or handed out.
func TestP14_1_Unchanged(t *testing.T) {
	for _, m := range append(some(), strange()...) {
		m = twin(m)
		was := twin(m)
		message.Right(m)
		b, e := message.Encode(m)
		untouched(t, "Right or Encode", m, was)
		if e == api.OK {
			spoil(m.Blob)
			if !bytes.Equal(b, bytesOf(was)) {
				t.Errorf("the bytes go on with the message: %s", brief(b))
			}
		}
	}
	for _, m := range some() {
		for _, end := range []int{0, 1, 3} { // so many bytes are left away
			all := append(bytesOf(m), filled(50, 8)...)
			was := bytes.Clone(all)
			got, e := message.Decode(all[:max(0, len(all)-50-end)])
			if !bytes.Equal(all, was) {
				t.Error("Decode changed bytes")
			}
			spoil(all)
			if e == api.OK && !alike(got, m) {
				t.Errorf("the message goes on with the bytes: %s", brief(got))
			}
		}
	}
}

// TestP14_1_AnswersAreNew changes what was answered: no other answer changes.
func TestP14_1_AnswersAreNew(t *testing.T) {
	for _, m := range some() {
		b, _ := message.Encode(m)
		again, _ := message.Encode(m)
		spoil(b)
		if !bytes.Equal(again, bytesOf(m)) {
			t.Errorf("two answers of Encode share memory: %s", brief(again))
		}
		got, _ := message.Decode(again)
		other, _ := message.Decode(again)
		spoil(got.Blob)
		if !alike(other, m) || !bytes.Equal(again, bytesOf(m)) {
			t.Errorf("an answer of Decode shares memory: %s", brief(other))
		}
	}
}

// spoil writes over bytes and their spare room.
func spoil(b []byte) {
	all := b[:cap(b)]
	for i := range all {
		all[i] ^= 0xa5
	}
}

// TestP14_2_Same holds messages against those that are alike, and against those that part in a field, in a byte of the Blob or in how many bytes it has.
func TestP14_2_Same(t *testing.T) {
	for _, m := range append(some(), strange()...) {
		was := twin(m)
		same(t, m, m, true)
		same(t, m, twin(m), true)
		for i, change := range parts {
			q := twin(m)
			if change(&q); alike(q, m) {
				t.Fatalf("the change %d is none", i)
			}
			same(t, m, q, false)
		}
		for at := range m.Blob {
			q := twin(m)
			q.Blob[at] ^= 1
			same(t, m, q, false)
		}
		if n := len(m.Blob); n > 0 {
			less := twin(m)
			less.Blob = less.Blob[:n-1]
			same(t, m, less, false)
			less.Blob = twin(m).Blob[1:n:n]
			same(t, m, less, false)
			less.Blob = nil
			same(t, m, less, false)
		}
		untouched(t, "Same", m, was)
	}
	for i, a := range some() {
		for j, b := range some() {
			same(t, a, b, i == j || alike(a, b))
		}
	}
}

// TestP14_2_SameBlobs holds that a Blob without a byte is the same, be it nil or empty, and that one of bytes 0 is not.
func TestP14_2_SameBlobs(t *testing.T) {
	for _, kind := range append(slices.Clone(kinds), otherKinds...) {
		same(t, api.Message{Kind: kind}, api.Message{Kind: kind, Blob: []byte{}}, true)
		same(t, api.Message{Kind: kind, Blob: make([]byte, 0, 9)}, api.Message{Kind: kind}, true)
		same(t, api.Message{Kind: kind, Blob: []byte{0}}, api.Message{Kind: kind}, false)
		same(t, api.Message{Kind: kind, Blob: []byte{0}}, api.Message{Kind: kind, Blob: []byte{0, 0}}, false)
		same(t, api.Message{Kind: kind, Blob: []byte{1, 2}}, api.Message{Kind: kind, Blob: []byte{2, 1}}, false)
	}
}

// TestP14_2_SameNumbers holds that a number at one field is not the same at another.
func TestP14_2_SameNumbers(t *testing.T) {
	for _, kind := range append(slices.Clone(kinds), otherKinds...) {
		l := []api.Message{{Kind: kind}, {Kind: kind, Session: 1}, {Kind: kind, Seq: 1}, {Kind: kind, Quota: 1}, {Kind: kind, Hint: api.Hint{1}}, {Kind: kind, Hint: api.Hint{15: 1}}, {Kind: kind, Blob: []byte{1}}, {Kind: kind + 1}}
		for i, a := range l {
			for j, b := range l {
				same(t, a, b, i == j)
			}
		}
	}
}

// parts are ways in which a message may part from another one.
var parts = []func(*api.Message){
	func(m *api.Message) { m.Kind++ },
	func(m *api.Message) { m.Kind-- },
	func(m *api.Message) { m.Kind ^= 256 },
	func(m *api.Message) { m.Kind ^= 1 << 40 },
	func(m *api.Message) { m.Session++ },
	func(m *api.Message) { m.Session-- },
	func(m *api.Message) { m.Session ^= 1 << 31 },
	func(m *api.Message) { m.Seq++ },
	func(m *api.Message) { m.Seq-- },
	func(m *api.Message) { m.Seq ^= 1 << 31 },
	func(m *api.Message) { m.Quota++ },
	func(m *api.Message) { m.Quota-- },
	func(m *api.Message) { m.Quota ^= 1 << 16 },
	func(m *api.Message) { m.Quota ^= 1 << 31 },
	func(m *api.Message) { m.Hint[0] ^= 1 },
	func(m *api.Message) { m.Hint[7] ^= 128 },
	func(m *api.Message) { m.Hint[15] ^= 1 },
	func(m *api.Message) { m.Blob = with(m.Blob, 0) },
	func(m *api.Message) { m.Blob = with(m.Blob, 99) },
	func(m *api.Message) { m.Blob = with([]byte{0}, m.Blob...) },
}

// same holds what Same answers, either way round.
func same(t *testing.T, a, b api.Message, want bool) {
	t.Helper()
	if message.Same(a, b) != want || message.Same(b, a) != want {
		t.Errorf("Same of %s and %s: not %v", brief(a), brief(b), want)
	}
}

// TestP14_2_Copy holds that a copy is the same, and apart either way.
func TestP14_2_Copy(t *testing.T) {
	for _, m := range append(some(), strange()...) {
		m = twin(m)
		was := twin(m)
		q, again := message.Copy(m), message.Copy(m)
		if !alike(q, m) || !message.Same(q, m) {
			t.Errorf("Copy of %s: %s", brief(m), brief(q))
		}
		_ = append(q.Blob, 77)
		spoil(q.Blob)
		untouched(t, "Copy, or a change of the copy,", m, was)
		spoil(m.Blob)
		if !alike(again, was) {
			t.Errorf("a copy goes on with the message: %s, not %s", brief(again), brief(was))
		}
	}
}

// TestP14_3_ThereAndBack holds that what was encoded is decoded, and that what is decoded may be and, encoded again, is those bytes.
func TestP14_3_ThereAndBack(t *testing.T) {
	r := rand.New(rand.NewSource(4))
	l := some()
	for range 5000 {
		l = append(l, drawnMessage(r))
	}
	for _, m := range l {
		b, e := message.Encode(m)
		if e != api.OK {
			t.Fatalf("Encode of %s: %d", brief(m), e)
		}
		q, e := message.Decode(b)
		if e != api.OK || !alike(m, q) || !message.Same(m, q) || !message.Right(q) {
			t.Errorf("%s came back as %s, %d", brief(m), brief(q), e)
		}
		reads(t, b)
	}
}

// TestP14_3_OneMessageOneText holds that two messages have the same bytes just if they are the same.
func TestP14_3_OneMessageOneText(t *testing.T) {
	l := some()
	for _, a := range l {
		for _, b := range l {
			x, _ := message.Encode(a)
			y, _ := message.Encode(b)
			if bytes.Equal(x, y) != message.Same(a, b) {
				t.Errorf("%s and %s", brief(a), brief(b))
			}
		}
	}
}

// TestP14_3_AsTheReaderReads holds that the bytes are such as a reader reads, field by field.
func TestP14_3_AsTheReaderReads(t *testing.T) {
	m := api.Message{Kind: upload, Session: math.MaxUint32, Seq: 1 << 31, Hint: hints[2], Blob: filled(maxBlob, 1)}
	b, _ := message.Encode(m)
	r := reader.New(b)
	if kind, session, seq := r.Num(1), r.Num(4), r.Num(4); kind != upload || session != uint64(m.Session) || seq != uint64(m.Seq) {
		t.Errorf("%d, %d, %d", kind, session, seq)
	}
	if hint, size := r.Hint(), r.Num(2); hint != m.Hint || size != maxBlob {
		t.Errorf("%v, %d", hint, size)
	}
	if blob := r.Bytes(maxBlob); !bytes.Equal(blob, m.Blob) || r.Done() != api.OK {
		t.Errorf("%v, %d", blob, r.Done())
	}
}
