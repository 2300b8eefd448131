package payload_test

import (
	"bytes"
	"crypto/sha256"
	"encoding/binary"
	"math"
	"math/rand"
	"reflect"
	"slices"
	"testing"

	"mirador/api"
	"mirador/payload"
	"mirador/reader"
	"mirador/seal"
)

// The chapter's limits, as numbers of the test's own.
const (
	maxTiers = 8
	maxTx    = 64
)

// filled are so many bytes, each of them b.
func filled(n int, b byte) []byte { return bytes.Repeat([]byte{b}, n) }

// drawn are bytes that a draw of the test's own makes.
func drawn(r *rand.Rand, n int) []byte {
	b := make([]byte, n)
	r.Read(b)
	return b
}

// of is a payload of these tiers.
func of(tiers ...api.Tier) api.Payload { return api.Payload{Tiers: tiers} }

// tiersOf is a payload of so many tiers, whose fees rise from 3 on, and whose Txs have unlike sizes.
func tiersOf(n int) api.Payload {
	var p api.Payload
	for i := range n {
		p.Tiers = append(p.Tiers, api.Tier{Fee: uint32(3 + 300*i), Tx: filled(1+(9*i)%maxTx, byte(i+1))})
	}
	return p
}

// fees is a payload with a tier for each of these fees.
func fees(l ...uint32) api.Payload {
	var p api.Payload
	for i, fee := range l {
		p.Tiers = append(p.Tiers, api.Tier{Fee: fee, Tx: []byte{byte(i), 7}})
	}
	return p
}

// drawnPayload is one that may be.
func drawnPayload(r *rand.Rand) api.Payload {
	var p api.Payload
	fee := uint32(r.Intn(3))
	for range 1 + r.Intn(maxTiers) {
		p.Tiers = append(p.Tiers, api.Tier{Fee: fee, Tx: drawn(r, 1+r.Intn(maxTx))})
		fee += 1 + r.Uint32()>>(4+r.Intn(28))
	}
	return p
}

// mayBe is what the chapter's words ask of a payload.
func mayBe(p api.Payload) bool {
	if len(p.Tiers) == 0 || len(p.Tiers) > maxTiers {
		return false
	}
	ahead := int64(-1)
	for _, tier := range p.Tiers {
		if int64(tier.Fee) <= ahead || len(tier.Tx) == 0 || len(tier.Tx) > maxTx {
			return false
		}
		ahead = int64(tier.Fee)
	}
	return true
}

// bytesOf are a payload's bytes by the chapter's words, also of one that may not be (as far as its numbers fit).
func bytesOf(p api.Payload) []byte {
	b := []byte{byte(len(p.Tiers))}
	for _, tier := range p.Tiers {
		b = binary.BigEndian.AppendUint32(b, tier.Fee)
		b = append(b, byte(len(tier.Tx)))
		b = append(b, tier.Tx...)
	}
	return b
}

// readOf reads a payload by the chapter's words, from the left.
func readOf(b []byte) (api.Payload, api.Errno) {
	if len(b) < 1 {
		return api.Payload{}, api.ErrShort
	}
	n := int(b[0])
	if b = b[1:]; n == 0 || n > maxTiers {
		return api.Payload{}, api.ErrForm
	}
	var p api.Payload
	ahead := int64(-1)
	for range n {
		if len(b) < 4 {
			return api.Payload{}, api.ErrShort
		}
		fee := binary.BigEndian.Uint32(b)
		if b = b[4:]; int64(fee) <= ahead {
			return api.Payload{}, api.ErrForm
		}
		ahead = int64(fee)
		if len(b) < 1 {
			return api.Payload{}, api.ErrShort
		}
		size := int(b[0])
		if b = b[1:]; size == 0 || size > maxTx {
			return api.Payload{}, api.ErrForm
		}
		if len(b) < size {
			return api.Payload{}, api.ErrShort
		}
		p.Tiers = append(p.Tiers, api.Tier{Fee: fee, Tx: b[:size]})
		b = b[size:]
	}
	if len(b) > 0 {
		return api.Payload{}, api.ErrLong
	}
	return p, api.OK
}

// alike tells whether two payloads have the same tiers; lists without an element may be nil or empty.
func alike(a, b api.Payload) bool {
	if len(a.Tiers) != len(b.Tiers) {
		return false
	}
	for i := range a.Tiers {
		if a.Tiers[i].Fee != b.Tiers[i].Fee || string(a.Tiers[i].Tx) != string(b.Tiers[i].Tx) {
			return false
		}
	}
	return true
}

// twin is a payload in memory of its own, with spare room where the other has some, so that what was there before a call can be held against what is there behind it.
func twin(p api.Payload) api.Payload {
	if p.Tiers == nil {
		return p
	}
	all := p.Tiers[:cap(p.Tiers)]
	q := make([]api.Tier, len(all))
	for i, tier := range all {
		q[i].Fee = tier.Fee
		if tier.Tx != nil {
			room := tier.Tx[:cap(tier.Tx)]
			q[i].Tx = slices.Clip(bytes.Clone(room))[:len(tier.Tx):len(room)]
		}
	}
	return api.Payload{Tiers: q[:len(p.Tiers):len(q)]}
}

// untouched holds that a payload is as it was, spare room and all.
func untouched(t *testing.T, what string, p, was api.Payload) {
	t.Helper()
	if len(p.Tiers) != len(was.Tiers) || !reflect.DeepEqual(everything(p), everything(was)) {
		t.Errorf("%s changed what was handed in: %v, not %v", what, p, was)
	}
}

// everything is what a payload has, its spare room too.
func everything(p api.Payload) []any {
	var l []any
	for _, tier := range p.Tiers[:cap(p.Tiers)] {
		l = append(l, tier.Fee, len(tier.Tx), tier.Tx == nil, string(tier.Tx[:cap(tier.Tx)]))
	}
	return l
}

// encodes holds that a payload may be, and has the bytes that the chapter's words tell.
func encodes(t *testing.T, p api.Payload) {
	t.Helper()
	if !payload.Right(p) {
		t.Errorf("Right of %v: false", p)
	}
	if b, e := payload.Encode(p); e != api.OK || !bytes.Equal(b, bytesOf(p)) {
		t.Errorf("Encode of %v: %v, %d; not %v", p, b, e, bytesOf(p))
	}
}

// wrong holds that a payload may not be: ErrArg, and no bytes.
func wrong(t *testing.T, p api.Payload) {
	t.Helper()
	if payload.Right(p) {
		t.Errorf("Right of %d tiers, %.80v: true", len(p.Tiers), p)
	}
	if b, e := payload.Encode(p); e != api.ErrArg || len(b) != 0 {
		t.Errorf("Encode of %d tiers, %.80v: %v, %d", len(p.Tiers), p, b, e)
	}
}

// judged holds that a payload is what the chapter's words say: it may be, or not.
func judged(t *testing.T, p api.Payload) {
	t.Helper()
	if mayBe(p) {
		encodes(t, p)
	} else {
		wrong(t, p)
	}
}

// decodes holds that these are the bytes of this payload.
func decodes(t *testing.T, b []byte, want api.Payload) {
	t.Helper()
	if p, e := payload.Decode(b); e != api.OK || !alike(p, want) {
		t.Errorf("Decode of %v: %v, %d; not %v", b, p, e, want)
	}
}

// refuses holds that bytes are none's: this error, and no payload.
func refuses(t *testing.T, b []byte, want api.Errno) {
	t.Helper()
	if p, e := payload.Decode(b); e != want || p.Tiers != nil {
		t.Errorf("Decode of %.80v: %v, %d; not %d", b, p, e, want)
	}
}

// reads holds that Decode tells what the chapter's words do, and what follows of it.
func reads(t *testing.T, b []byte) {
	t.Helper()
	want, err := readOf(b)
	if err != api.OK {
		refuses(t, b, err)
		return
	}
	decodes(t, b, want)
	p, _ := payload.Decode(b)
	if again, e := payload.Encode(p); !payload.Right(p) || e != api.OK || !bytes.Equal(again, b) {
		t.Errorf("Decode of %v, encoded again: %v, %d, Right %v", b, again, e, payload.Right(p))
	}
}

// changed is bytes with one of them made another.
func changed(b []byte, at int, to byte) []byte {
	b = bytes.Clone(b)
	b[at] = to
	return b
}

// TestP13_1_Example holds the chapter's example.
func TestP13_1_Example(t *testing.T) {
	p, b := of(api.Tier{Fee: 5, Tx: []byte{9}}), []byte{1, 0, 0, 0, 5, 1, 9}
	if got, e := payload.Encode(p); e != api.OK || !bytes.Equal(got, b) {
		t.Errorf("Encode: %v, %d", got, e)
	}
	decodes(t, b, p)
}

// TestP13_1_Bytes holds bytes that are written out.
func TestP13_1_Bytes(t *testing.T) {
	for _, known := range []struct {
		p api.Payload
		b []byte
	}{
		{of(api.Tier{Fee: 0, Tx: []byte{0}}), []byte{1, 0, 0, 0, 0, 1, 0}},
		{of(api.Tier{Fee: 0x01020304, Tx: []byte{5, 6, 7}}), []byte{1, 1, 2, 3, 4, 3, 5, 6, 7}},
		{of(api.Tier{Fee: math.MaxUint32, Tx: []byte{255}}), []byte{1, 255, 255, 255, 255, 1, 255}},
		{of(api.Tier{Fee: 5, Tx: []byte{9}}, api.Tier{Fee: 258, Tx: []byte{1, 2}}), []byte{2, 0, 0, 0, 5, 1, 9, 0, 0, 1, 2, 2, 1, 2}},
		{of(api.Tier{Fee: 0x80000000, Tx: filled(64, 3)}), append([]byte{1, 128, 0, 0, 0, 64}, filled(64, 3)...)},
	} {
		if got, e := payload.Encode(known.p); e != api.OK || !bytes.Equal(got, known.b) {
			t.Errorf("Encode of %v: %v, %d; not %v", known.p, got, e, known.b)
		}
		decodes(t, known.b, known.p)
	}
}

// TestP13_1_Tiers holds payloads of each number of tiers, from none to more than one more than may be.
func TestP13_1_Tiers(t *testing.T) {
	wrong(t, api.Payload{})
	wrong(t, of([]api.Tier{}...))
	for n := 1; n <= maxTiers; n++ {
		encodes(t, tiersOf(n))
	}
	for _, n := range []int{maxTiers + 1, maxTiers + 2, 16, 255, 256, 257, 256 + maxTiers, 65536 + 1} {
		wrong(t, tiersOf(n))
	}
	wrong(t, of(make([]api.Tier, maxTiers+1)...))
	wrong(t, of(make([]api.Tier, 1)...))
}

// TestP13_1_Txs holds Txs of each size at each place.
func TestP13_1_Txs(t *testing.T) {
	sizes := []int{0, 1, 2, 63, maxTx, maxTx + 1, 128, 255, 256, 257, 320, 65537}
	for n := 1; n <= maxTiers; n++ {
		for at := range n {
			for _, size := range sizes {
				p := tiersOf(n)
				p.Tiers[at].Tx = filled(size, 200)
				if size >= 1 && size <= maxTx {
					encodes(t, p)
				} else {
					wrong(t, p)
				}
			}
			p := tiersOf(n)
			p.Tiers[at].Tx = nil
			wrong(t, p)
		}
	}
}

// TestP13_1_Greatest holds the greatest payload that may be: it fits into a blob, and has the most bytes.
func TestP13_1_Greatest(t *testing.T) {
	var p api.Payload
	for i := range maxTiers {
		p.Tiers = append(p.Tiers, api.Tier{Fee: math.MaxUint32 - maxTiers + 1 + uint32(i), Tx: filled(maxTx, 255)})
	}
	encodes(t, p)
	b, _ := payload.Encode(p)
	if len(b) != 553 || len(b) > seal.Room() {
		t.Errorf("%d bytes", len(b))
	}
	decodes(t, b, p)
}

// TestP13_1_Fees holds fees that rise, are the same and fall, at each place, with 0 and the greatest.
func TestP13_1_Fees(t *testing.T) {
	for _, fee := range []uint32{0, 1, 255, 256, 65535, 1 << 24, math.MaxInt32, math.MaxInt32 + 1, math.MaxUint32 - 1, math.MaxUint32} {
		encodes(t, fees(fee))
	}
	encodes(t, fees(0, math.MaxUint32))
	encodes(t, fees(0, 1, 2, 3, 4, 5, 6, 7))
	encodes(t, fees(math.MaxInt32, math.MaxInt32+1))
	encodes(t, fees(math.MaxUint32-1, math.MaxUint32))
	for _, l := range [][]uint32{{0, 0}, {1, 0}, {5, 5}, {math.MaxUint32, math.MaxUint32}, {math.MaxUint32, 0}, {math.MaxInt32 + 1, math.MaxInt32}, {256, 255}, {256, 1}, {0, 2, 1}, {0, 2, 2}, {1, 2, 1}, {3, 4, 5, 0}} {
		wrong(t, fees(l...))
	}
	for n := 2; n <= maxTiers; n++ {
		for at := range n {
			ahead := uint32(0)
			if at > 0 {
				ahead = tiersOf(n).Tiers[at-1].Fee
			}
			for _, fee := range []uint32{0, 1, 2, 3, 4, ahead - 1, ahead, ahead + 1, ahead + 299, ahead + 300, ahead + 301, math.MaxUint32} {
				p := tiersOf(n)
				p.Tiers[at].Fee = fee
				judged(t, p)
			}
		}
	}
}

// TestP13_1_EveryMix holds all payloads of up to three tiers with few fees and few sizes.
func TestP13_1_EveryMix(t *testing.T) {
	var tiers []api.Tier
	for _, fee := range []uint32{0, 1, 2, math.MaxUint32} {
		for _, size := range []int{0, 1, maxTx, maxTx + 1} {
			tiers = append(tiers, api.Tier{Fee: fee, Tx: filled(size, 5)})
		}
	}
	for _, a := range tiers {
		judged(t, of(a))
		for _, b := range tiers {
			judged(t, of(a, b))
			for _, c := range tiers {
				judged(t, of(a, b, c))
			}
		}
	}
}

// TestP13_1_Beginnings reads each beginning of what was encoded, and those bytes with bytes behind.
func TestP13_1_Beginnings(t *testing.T) {
	for n := 1; n <= maxTiers; n++ {
		b := bytesOf(tiersOf(n))
		for end := range b {
			refuses(t, b[:end], api.ErrShort)
		}
		decodes(t, b, tiersOf(n))
		for _, more := range [][]byte{{0}, {1}, {255}, {0, 0, 3, 0, 1, 9}, b, filled(70, 0), filled(1<<16, 9)} {
			refuses(t, append(bytes.Clone(b), more...), api.ErrLong)
		}
	}
	refuses(t, nil, api.ErrShort)
	refuses(t, []byte{}, api.ErrShort)
}

// TestP13_1_TierNumber reads each number of tiers: one that may not be is told ahead of the tiers, whatever they are.
func TestP13_1_TierNumber(t *testing.T) {
	for n := range 256 {
		if n >= 1 && n <= maxTiers {
			decodes(t, bytesOf(tiersOf(n)), tiersOf(n))
			refuses(t, []byte{byte(n)}, api.ErrShort)
			continue
		}
		refuses(t, []byte{byte(n)}, api.ErrForm)
		refuses(t, changed(bytesOf(tiersOf(1)), 0, byte(n)), api.ErrForm)
		refuses(t, bytesOf(tiersOf(n)), api.ErrForm)
		refuses(t, append([]byte{byte(n)}, filled(6000, 255)...), api.ErrForm)
	}
	// Of another number the bytes are too few, or too many.
	b := bytesOf(tiersOf(4))
	refuses(t, changed(b, 0, 5), api.ErrShort)
	refuses(t, changed(b, 0, 3), api.ErrLong)
}

// TestP13_1_DecodeFees reads fees that are not greater than the one ahead, at each place: told ahead of what its Tx is, be it there or not.
func TestP13_1_DecodeFees(t *testing.T) {
	for n := 2; n <= maxTiers; n++ {
		for at := 1; at < n; at++ {
			upTo := bytesOf(tiersOf(at))
			upTo[0] = byte(n)
			ahead := tiersOf(n).Tiers[at-1].Fee
			for _, fee := range []uint32{0, 1, ahead - 1, ahead} {
				bad := binary.BigEndian.AppendUint32(bytes.Clone(upTo), fee)
				refuses(t, bad, api.ErrForm)
				for _, behind := range [][]byte{{0}, {65}, {255}, {2, 1}, {1, 9}, filled(1000, 7)} {
					refuses(t, append(bytes.Clone(bad), behind...), api.ErrForm)
				}
				refuses(t, bad[:len(bad)-1], api.ErrShort)
			}
			refuses(t, binary.BigEndian.AppendUint32(bytes.Clone(upTo), ahead+1), api.ErrShort)
			refuses(t, binary.BigEndian.AppendUint32(bytes.Clone(upTo), math.MaxUint32), api.ErrShort)
		}
	}
	for _, fee := range []uint32{0, 1, math.MaxUint32} {
		decodes(t, bytesOf(fees(fee)), fees(fee))
	}
	decodes(t, bytesOf(fees(0, math.MaxUint32)), fees(0, math.MaxUint32))
}

// TestP13_1_DecodeTxs reads each size of a Tx at each place: one that may not be is told ahead of its bytes, be they there or not.
func TestP13_1_DecodeTxs(t *testing.T) {
	for n := 1; n <= maxTiers; n++ {
		for at := range n {
			upTo := []byte{byte(n)}
			if at > 0 {
				upTo = bytesOf(tiersOf(at))
				upTo[0] = byte(n)
			}
			upTo = binary.BigEndian.AppendUint32(upTo, 5000)
			for size := range 256 {
				sized := append(bytes.Clone(upTo), byte(size))
				if size >= 1 && size <= maxTx {
					refuses(t, sized, api.ErrShort)
					refuses(t, append(bytes.Clone(sized), filled(size-1, 3)...), api.ErrShort)
					reads(t, append(bytes.Clone(sized), filled(size, 3)...))
					continue
				}
				refuses(t, sized, api.ErrForm)
				refuses(t, append(bytes.Clone(sized), filled(size, 3)...), api.ErrForm)
				refuses(t, append(bytes.Clone(sized), filled(1000, 3)...), api.ErrForm)
			}
		}
	}
}

// TestP13_1_FirstFault reads bytes in which two faults stand one behind the other: the first from the left is told.
func TestP13_1_FirstFault(t *testing.T) {
	for _, known := range []struct {
		b []byte
		e api.Errno
	}{
		{[]byte{0, 0, 0, 0}, api.ErrForm},                                           // number of tiers, then too few bytes
		{[]byte{9, 0, 0, 0, 5, 0}, api.ErrForm},                                     // number of tiers, then Tx of no byte
		{[]byte{1, 0, 0, 0, 5, 0, 7, 7}, api.ErrForm},                               // Tx of no byte, then bytes behind
		{[]byte{1, 0, 0, 0, 5, 65, 7}, api.ErrForm},                                 // Tx too long, then too few bytes
		{[]byte{2, 0, 0, 0, 5, 0, 0, 0, 0, 5, 1, 7}, api.ErrForm},                   // Tx of no byte, then a fee
		{[]byte{2, 0, 0, 0, 5, 9, 0, 0, 0, 5}, api.ErrShort},                        // too few bytes of a Tx, which hide a fee
		{[]byte{2, 0, 0, 0, 5, 1, 7, 0, 0, 0, 5, 1, 7, 7}, api.ErrForm},             // a fee, then bytes behind
		{[]byte{2, 0, 0, 0, 5, 1, 7, 0, 0, 0, 5}, api.ErrForm},                      // a fee, then no size
		{[]byte{2, 0, 0, 0, 5, 1, 7, 0, 0, 0, 4, 3, 7}, api.ErrForm},                // a fee, then too few bytes
		{[]byte{2, 0, 0, 0, 5, 1, 7, 0, 0, 0}, api.ErrShort},                        // too few of a fee's bytes, which could not be greater
		{[]byte{3, 0, 0, 0, 5, 1, 7, 0, 0, 0, 6, 1, 7}, api.ErrShort},               // a tier less
		{[]byte{1, 0, 0, 0, 5, 1, 7, 0, 0, 0, 5, 0}, api.ErrLong},                   // a tier more, which may not be
		{[]byte{3, 0, 0, 0, 5, 1, 7, 0, 0, 0, 5, 1, 7, 0, 0, 0, 9, 0}, api.ErrForm}, // a fee, then Tx of no byte
	} {
		refuses(t, known.b, known.e)
	}
}

// TestP13_1_DecodeFewBytes reads every mix of few bytes, and holds each against the chapter's words.
func TestP13_1_DecodeFewBytes(t *testing.T) {
	mix := func(signs []byte, most int, ahead []byte) {
		last := [][]byte{ahead}
		for range most {
			var next [][]byte
			for _, b := range last {
				for _, sign := range signs {
					next = append(next, append(bytes.Clone(b), sign))
				}
			}
			for _, b := range next {
				reads(t, b)
			}
			last = next
		}
	}
	mix([]byte{0, 1, 2}, 9, nil)
	mix([]byte{0, 1, 64, 65, 255}, 5, nil)
	mix([]byte{0, 1, 2}, 8, []byte{2, 0, 0, 0, 1, 1, 1})
	mix([]byte{0, 1, 2}, 8, []byte{2, 0, 0, 1, 0, 1, 1})
}

// TestP13_1_DecodeTurned reads bytes of payloads in which one byte was made another, was left out, or was put in.
func TestP13_1_DecodeTurned(t *testing.T) {
	r := rand.New(rand.NewSource(1))
	for range 60 {
		b := bytesOf(drawnPayload(r))
		for at := range b {
			for _, to := range []byte{0, 1, b[at] - 1, b[at] + 1, b[at] ^ 128, 64, 65, 255} {
				reads(t, changed(b, at, to))
			}
			reads(t, slices.Delete(bytes.Clone(b), at, at+1))
			reads(t, slices.Insert(bytes.Clone(b), at, byte(r.Intn(256))))
		}
	}
	for range 20000 {
		b := drawn(r, r.Intn(40))
		if len(b) > 0 {
			b[0] %= 10
		}
		reads(t, b)
	}
}

// TestP13_1_Unchanged holds that what was handed in is as it was, and that nothing of it is kept or handed out.
func TestP13_1_Unchanged(t *testing.T) {
	for _, p := range []api.Payload{{}, of(make([]api.Tier, 2, 5)...), tiersOf(1), tiersOf(maxTiers), tiersOf(maxTiers + 1), roomy()} {
		was := twin(p)
		payload.Right(p)
		b, e := payload.Encode(p)
		untouched(t, "Right or Encode", p, was)
		if e == api.OK {
			for i := range p.Tiers {
				clear(p.Tiers[i].Tx[:cap(p.Tiers[i].Tx)])
			}
			if !bytes.Equal(b, bytesOf(was)) {
				t.Errorf("the bytes go on with the payload: %v", b)
			}
		}
	}
	room := append(bytesOf(tiersOf(3)), filled(50, 8)...)
	was := bytes.Clone(room)
	b := room[:len(room)-50]
	p, _ := payload.Decode(b)
	if !bytes.Equal(room, was) {
		t.Error("Decode changed bytes")
	}
	clear(room)
	if !alike(p, tiersOf(3)) {
		t.Errorf("the payload goes on with the bytes: %v", p)
	}
}

// roomy is a payload that may be whose lists have spare room, with something in it.
func roomy() api.Payload {
	p := tiersOf(5)
	for i := range p.Tiers {
		p.Tiers[i].Tx = append(p.Tiers[i].Tx, filled(30, 99)...)[:len(p.Tiers[i].Tx)]
	}
	p.Tiers = p.Tiers[:3]
	return p
}

// TestP13_1_AnswersAreNew changes what was answered: no other answer changes, nor another list of the same one.
func TestP13_1_AnswersAreNew(t *testing.T) {
	p := tiersOf(3)
	b, _ := payload.Encode(p)
	again, _ := payload.Encode(p)
	spoil(b)
	if !bytes.Equal(again, bytesOf(p)) {
		t.Errorf("two answers of Encode share memory: %v", again)
	}
	q, _ := payload.Decode(again)
	other, _ := payload.Decode(again)
	for i := range q.Tiers {
		spoil(q.Tiers[i].Tx)
		for j := i + 1; j < len(q.Tiers); j++ {
			if !bytes.Equal(q.Tiers[j].Tx, p.Tiers[j].Tx) {
				t.Errorf("the tiers %d and %d share memory", i, j)
			}
		}
	}
	q.Tiers[1] = api.Tier{}
	_ = append(q.Tiers[:1], api.Tier{Fee: 77})
	if !alike(other, p) || !bytes.Equal(again, bytesOf(p)) {
		t.Errorf("an answer of Decode shares memory: %v", other)
	}
}

// spoil writes over bytes and their spare room.
func spoil(b []byte) {
	all := b[:cap(b)]
	for i := range all {
		all[i] ^= 0xa5
	}
}

// TestP13_2_TxID holds the ids of transactions of no byte, of one and of many.
func TestP13_2_TxID(t *testing.T) {
	r := rand.New(rand.NewSource(2))
	for _, n := range []int{0, 1, 2, 31, 32, 55, 56, 63, maxTx, maxTx + 1, 1000, 1 << 16} {
		tx := drawn(r, n)
		was := bytes.Clone(tx)
		if id := payload.TxID(tx); id != api.Id(sha256.Sum256(tx)) {
			t.Errorf("TxID of %d bytes: %v", n, id)
		}
		if !bytes.Equal(tx, was) {
			t.Errorf("TxID changed %d bytes", n)
		}
	}
	for b := range 256 {
		if id := payload.TxID([]byte{byte(b)}); id != api.Id(sha256.Sum256([]byte{byte(b)})) {
			t.Errorf("TxID of %d: %v", b, id)
		}
	}
	if payload.TxID(nil) != api.Id(sha256.Sum256(nil)) || payload.TxID(nil) != payload.TxID([]byte{}) {
		t.Error("TxID of no bytes")
	}
	if id := payload.TxID([]byte("abc")); id[0] != 0xba || id[31] != 0xad {
		t.Errorf("TxID of abc: %v", id)
	}
}

// strange are payloads of any kind, also such as may not be.
func strange() []api.Payload {
	r := rand.New(rand.NewSource(3))
	l := []api.Payload{
		{}, of([]api.Tier{}...), of(api.Tier{}), of(api.Tier{}, api.Tier{}), of(api.Tier{Fee: 9, Tx: []byte{}}),
		of(api.Tier{Fee: 5, Tx: []byte{1}}, api.Tier{Fee: 5, Tx: []byte{1}}),
		of(api.Tier{Fee: 5, Tx: []byte{1}}, api.Tier{Fee: 4, Tx: []byte{2}}, api.Tier{Fee: 3, Tx: []byte{1}}),
		of(api.Tier{Fee: 1, Tx: filled(65, 1)}, api.Tier{}, api.Tier{Fee: 0, Tx: filled(1000, 1)}, api.Tier{Tx: filled(65, 1)}),
		roomy(),
	}
	for n := range maxTiers + 3 {
		l = append(l, tiersOf(n))
	}
	l = append(l, tiersOf(300))
	for range 40 {
		l = append(l, drawnPayload(r))
		p := drawnPayload(r)
		p.Tiers = append(p.Tiers, p.Tiers...)
		l = append(l, p)
	}
	return l
}

// TestP13_2_IDs holds the ids of payloads with no tier and with many, in order.
func TestP13_2_IDs(t *testing.T) {
	for _, p := range strange() {
		was := twin(p)
		var want []api.Id
		for _, tier := range p.Tiers {
			want = append(want, api.Id(sha256.Sum256(tier.Tx)))
		}
		l := payload.IDs(p)
		if !slices.Equal(l, want) {
			t.Errorf("IDs of %.80v: %v, not %v", p, l, want)
		}
		untouched(t, "IDs", p, was)
		clear(l[:cap(l)])
		if !slices.Equal(payload.IDs(p), want) {
			t.Errorf("IDs of %.80v go on with what was answered", p)
		}
	}
	if len(payload.IDs(api.Payload{})) != 0 {
		t.Error("IDs of no tier")
	}
}

// TestP13_2_Find finds the id of each tier, the first one of those that share it, and none where there is none.
func TestP13_2_Find(t *testing.T) {
	absent := api.Id(sha256.Sum256([]byte("no tier's bytes")))
	for _, p := range strange() {
		was := twin(p)
		for _, tier := range p.Tiers {
			id := api.Id(sha256.Sum256(tier.Tx))
			want := slices.IndexFunc(p.Tiers, func(x api.Tier) bool { return bytes.Equal(x.Tx, tier.Tx) })
			if n, ok := payload.Find(p, id); n != want || !ok {
				t.Errorf("Find in %.80v: %d, %v; not %d", p, n, ok, want)
			}
			id[31] ^= 1
			nowhere(t, p, id)
			id[31] ^= 1
			id[0] ^= 128
			nowhere(t, p, id)
		}
		nowhere(t, p, absent)
		nowhere(t, p, api.Id{})
		untouched(t, "Find", p, was)
	}
	nowhere(t, api.Payload{}, payload.TxID(nil))
	nowhere(t, tiersOf(8), payload.TxID(nil))
	if n, ok := payload.Find(of(api.Tier{Fee: 1, Tx: []byte{1}}, api.Tier{}, api.Tier{Fee: 7}), payload.TxID(nil)); n != 1 || !ok {
		t.Errorf("Find of the id of no bytes: %d, %v", n, ok)
	}
}

// nowhere holds that a payload has no tier with that id.
func nowhere(t *testing.T, p api.Payload, id api.Id) {
	t.Helper()
	if n, ok := payload.Find(p, id); n != 0 || ok {
		t.Errorf("Find of %v in %.80v: %d, %v", id, p, n, ok)
	}
}

// TestP13_3_Same holds payloads that are alike, and that part in a fee, in a byte, in a Tx's size or in the number of tiers.
func TestP13_3_Same(t *testing.T) {
	for _, p := range strange() {
		was := twin(p)
		same(t, p, p, true)
		same(t, p, twin(p), true)
		for at := range p.Tiers {
			for _, change := range parts {
				q := twin(p)
				if change(&q.Tiers[at]) {
					same(t, p, q, false)
				}
			}
			same(t, p, of(slices.Delete(slices.Clone(p.Tiers), at, at+1)...), false)
			same(t, p, of(slices.Insert(slices.Clone(p.Tiers), at, p.Tiers[at])...), false)
		}
		same(t, p, of(append(slices.Clone(p.Tiers), api.Tier{})...), false)
		untouched(t, "Same", p, was)
	}
	same(t, api.Payload{}, of([]api.Tier{}...), true)
	same(t, of(api.Tier{Fee: 1}), of(api.Tier{Fee: 1, Tx: []byte{}}), true)
	same(t, of(api.Tier{}), of(api.Tier{Tx: []byte{0}}), false)
	same(t, of(api.Tier{Tx: []byte{1}}, api.Tier{Tx: []byte{2}}), of(api.Tier{Tx: []byte{2}}, api.Tier{Tx: []byte{1}}), false)
	same(t, of(api.Tier{Fee: 1}, api.Tier{Fee: 2}), of(api.Tier{Fee: 2}, api.Tier{Fee: 1}), false)
	same(t, of(api.Tier{Fee: 1, Tx: []byte{1, 2}}, api.Tier{Fee: 1, Tx: []byte{3}}), of(api.Tier{Fee: 1, Tx: []byte{1}}, api.Tier{Fee: 1, Tx: []byte{2, 3}}), false)
}

// parts are ways in which a tier may part from another one; false, if the tier has nothing to part in so.
var parts = []func(*api.Tier) bool{
	func(x *api.Tier) bool { x.Fee++; return true },
	func(x *api.Tier) bool { x.Fee--; return true },
	func(x *api.Tier) bool { x.Fee ^= 1 << 31; return true },
	func(x *api.Tier) bool { x.Tx = append(bytes.Clone(x.Tx), 0); return true },
	func(x *api.Tier) bool { return shorter(x, 0) },
	func(x *api.Tier) bool { return shorter(x, 1) },
	func(x *api.Tier) bool { return turned(x, 0) },
	func(x *api.Tier) bool { return turned(x, len(x.Tx)/2) },
	func(x *api.Tier) bool { return turned(x, len(x.Tx)-1) },
}

// shorter takes a tier's first byte (1), or its last one (0), away.
func shorter(x *api.Tier, first int) bool {
	if len(x.Tx) == 0 {
		return false
	}
	x.Tx = x.Tx[first : len(x.Tx)-1+first]
	return true
}

// turned turns a bit of a tier's byte.
func turned(x *api.Tier, at int) bool {
	if len(x.Tx) == 0 {
		return false
	}
	x.Tx[at] ^= 1
	return true
}

// same holds what Same answers, either way round.
func same(t *testing.T, a, b api.Payload, want bool) {
	t.Helper()
	if payload.Same(a, b) != want || payload.Same(b, a) != want {
		t.Errorf("Same of %.80v and %.80v: not %v", a, b, want)
	}
}

// TestP13_3_Copy holds that a copy is the same, and apart either way.
func TestP13_3_Copy(t *testing.T) {
	for _, p := range strange() {
		was := twin(p)
		q, again := payload.Copy(p), payload.Copy(p)
		if !alike(q, p) || !payload.Same(p, q) {
			t.Errorf("Copy of %.80v: %v", p, q)
		}
		for i := range q.Tiers {
			spoil(q.Tiers[i].Tx)
			for j := i + 1; j < len(q.Tiers); j++ {
				if !bytes.Equal(q.Tiers[j].Tx, p.Tiers[j].Tx) {
					t.Errorf("the tiers %d and %d of a copy share memory", i, j)
				}
			}
			q.Tiers[i].Fee += 7
		}
		_ = append(q.Tiers, api.Tier{Fee: 7})
		clear(q.Tiers[:cap(q.Tiers)])
		untouched(t, "Copy, or a change of the copy,", p, was)
		for i := range p.Tiers {
			spoil(p.Tiers[i].Tx)
			p.Tiers[i].Fee += 9
		}
		clear(p.Tiers)
		if !alike(again, was) {
			t.Errorf("a copy goes on with the payload: %v, not %v", again, was)
		}
	}
}

// TestP13_4_ThereAndBack holds that what was encoded is decoded, and that what is decoded may be and, encoded again, is those bytes.
func TestP13_4_ThereAndBack(t *testing.T) {
	r := rand.New(rand.NewSource(4))
	for range 3000 {
		p := drawnPayload(r)
		b, e := payload.Encode(p)
		if e != api.OK {
			t.Fatalf("Encode of %v: %d", p, e)
		}
		q, e := payload.Decode(b)
		if e != api.OK || !alike(p, q) || !payload.Same(p, q) || !payload.Right(q) {
			t.Errorf("%v came back as %v, %d", p, q, e)
		}
		reads(t, b)
	}
}

// TestP13_4_ThroughASeal holds that every payload that may be has room in a blob, and comes out of it.
func TestP13_4_ThroughASeal(t *testing.T) {
	r := rand.New(rand.NewSource(5))
	for range 50 {
		p := drawnPayload(r)
		b, _ := payload.Encode(p)
		id := payload.TxID(drawn(r, 30))
		blob, e := seal.Seal(id, b)
		if e != api.OK || len(blob) > api.MaxBlob {
			t.Fatalf("Seal of %d bytes: %d", len(b), e)
		}
		opened, _ := seal.Open(id, blob)
		decodes(t, opened, p)
	}
}

// TestP13_4_AsTheReaderReads holds that the bytes are such as a reader reads, number by number.
func TestP13_4_AsTheReaderReads(t *testing.T) {
	p := tiersOf(maxTiers)
	b, _ := payload.Encode(p)
	r := reader.New(b)
	if n := r.Num(1); n != maxTiers {
		t.Errorf("%d tiers", n)
	}
	for i, tier := range p.Tiers {
		fee, n := r.Num(4), r.Num(1)
		if tx := r.Bytes(int(n)); fee != uint64(tier.Fee) || !bytes.Equal(tx, tier.Tx) {
			t.Errorf("the tier %d: %d, %v", i, fee, tx)
		}
	}
	if e := r.Done(); e != api.OK {
		t.Errorf("%d behind the tiers", e)
	}
}
