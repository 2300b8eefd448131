package record_test

import (
	"bytes"
	"encoding/binary"
	"fmt"
	"math"
	"math/rand"
	"reflect"
	"slices"
	"testing"

	"mirador/api"
	"mirador/block"
	"mirador/reader"
	"mirador/record"
)

// The chapter's limits, kinds and sizes, as numbers of the test's own.
const (
	maxQuota = 64
	maxBlob  = 600
	maxTxids = 32
	idSize   = 32
	headSize = 65 // of a block without Txids

	open       = 1
	upload     = 2
	closes     = 4
	connect    = 5
	disconnect = 6
)

// kinds are those that a record may have.
var kinds = []api.Kind{open, upload, closes, connect, disconnect}

// otherKinds are some that it may not have: none, the one between the others, those above the last, below 0, and such as are one that it may have when they are cut to a byte, or to four.
var otherKinds = []api.Kind{0, 3, 7, 8, 127, 128, 255, 256, 256 + open, 256 + upload, 256 + closes, 256 + connect, 256 + disconnect, 65536 + upload, 1<<32 + open, 1<<32 + connect, -1, -2, -3, -4, -5, -6, -255, open - 256, connect - 256, math.MaxInt, math.MinInt, math.MinInt + upload}

// nums are numbers of four bytes: the least, the greatest, and some between.
var nums = []uint32{0, 1, 2, 63, 64, 65, 255, 256, 257, 65535, 65536, 0x01020304, math.MaxInt32, math.MaxInt32 + 1, math.MaxUint32 - 1, math.MaxUint32}

// hints are some hints: of bytes 0, of bytes 255, of bytes that rise, and with just the first or the last byte.
var hints = []api.Hint{{}, api.Hint(filled(16, 255)), {0, 1, 2, 3, 4, 5, 6, 7, 8, 9, 10, 11, 12, 13, 14, 15}, {0: 1}, {15: 1}}

// brief is a thing's text, cut where it is long.
func brief(x any) string {
	s := fmt.Sprint(x)
	return s[:min(len(s), 300)]
}

// filled are so many bytes, each of them b.
func filled(n int, b byte) []byte { return bytes.Repeat([]byte{b}, n) }

// drawn are bytes that a draw of the test's own makes.
func drawn(r *rand.Rand, n int) []byte {
	b := make([]byte, n)
	r.Read(b)
	return b
}

// number is a number of four bytes, a small one as often as a great one.
func number(r *rand.Rand) uint32 { return r.Uint32() >> r.Intn(33) }

// ids are so many ids, of which no two are the same.
func ids(n int) []api.Id {
	var l []api.Id
	for i := range n {
		l = append(l, api.Id{0: 77, 5: byte(i), 17: byte(i >> 8)})
	}
	return l
}

// marked is an id of bytes 0 but for one.
func marked(at int, b byte) api.Id {
	var id api.Id
	id[at] = b
	return id
}

// blockOf is a block of these Txids, whose Hash and Parent are neither the same nor any of ids.
func blockOf(txids ...api.Id) api.Block {
	return api.Block{Hash: api.Id{0: 1, 31: 2}, Parent: api.Id{0: 3, 31: 4}, Txids: txids}
}

// uploadOf is an Upload of this Blob.
func uploadOf(blob []byte) api.Record {
	return api.Record{Kind: upload, Session: 5, Seq: 258, Hint: api.Hint(filled(16, 9)), Blob: blob}
}

// connectOf is a Connect of this block.
func connectOf(b api.Block) api.Record { return api.Record{Kind: connect, Block: b} }

// disconnectOf is a Disconnect of the block with this hash.
func disconnectOf(hash api.Id) api.Record {
	return api.Record{Kind: disconnect, Block: api.Block{Hash: hash}}
}

// full is a record in which each field is something.
func full(kind api.Kind) api.Record {
	return api.Record{Kind: kind, Session: 3, Seq: 258, Quota: 7, Hint: hints[2], Blob: []byte{7, 8, 9}, Block: blockOf(ids(2)...)}
}

// drawnRecord is one that may be.
func drawnRecord(r *rand.Rand) api.Record {
	x := api.Record{Kind: kinds[r.Intn(len(kinds))]}
	switch x.Kind {
	case open:
		x.Session, x.Quota = number(r), uint32(1+r.Intn(maxQuota))
	case upload:
		x.Session, x.Seq, x.Hint = number(r), number(r), api.Hint(drawn(r, 16))
		x.Blob = drawn(r, r.Intn(1+maxBlob>>r.Intn(10)))
	case closes:
		x.Session = number(r)
	case connect:
		x.Block = api.Block{Hash: api.Id(drawn(r, idSize)), Parent: api.Id(drawn(r, idSize))}
		for range r.Intn(1 + maxTxids>>r.Intn(6)) {
			x.Block.Txids = append(x.Block.Txids, api.Id(drawn(r, idSize)))
		}
	case disconnect:
		x.Block.Hash = api.Id(drawn(r, idSize))
	}
	return x
}

// blockMayBe is what the words of layer 16 ask of a block.
func blockMayBe(b api.Block) bool {
	for i, x := range b.Txids {
		if slices.Contains(b.Txids[:i], x) {
			return false
		}
	}
	return len(b.Txids) <= maxTxids && b.Hash != b.Parent
}

// blockless tells whether all of a block is 0, or empty.
func blockless(b api.Block) bool {
	return b.Hash == api.Id{} && b.Parent == api.Id{} && len(b.Txids) == 0
}

// mayBe is what the chapter's words ask of a record.
func mayBe(r api.Record) bool {
	noBlob := r.Seq == 0 && r.Hint == api.Hint{} && len(r.Blob) == 0
	noClient := noBlob && r.Session == 0 && r.Quota == 0
	switch r.Kind {
	case open:
		return noBlob && blockless(r.Block) && r.Quota > 0 && r.Quota <= maxQuota
	case upload:
		return r.Quota == 0 && blockless(r.Block) && len(r.Blob) <= maxBlob
	case closes:
		return noBlob && blockless(r.Block) && r.Quota == 0
	case connect:
		return noClient && blockMayBe(r.Block)
	case disconnect:
		return noClient && r.Block.Parent == api.Id{} && len(r.Block.Txids) == 0
	}
	return false
}

// bytesOf are a record's bytes by the chapter's words, also of one that may not be (as far as its numbers fit).
func bytesOf(r api.Record) []byte {
	b := []byte{byte(r.Kind)}
	if r.Kind == connect || r.Kind == disconnect {
		b = append(b, r.Block.Hash[:]...)
	} else {
		b = binary.BigEndian.AppendUint32(b, r.Session)
	}
	switch r.Kind {
	case open:
		b = append(b, byte(r.Quota))
	case upload:
		b = binary.BigEndian.AppendUint32(b, r.Seq)
		b = append(b, r.Hint[:]...)
		b = append(b, r.Blob...)
	case connect:
		b = append(b, r.Block.Parent[:]...)
		b = append(b, byte(len(r.Block.Txids)))
		for _, id := range r.Block.Txids {
			b = append(b, id[:]...)
		}
	}
	return b
}

// readBlockOf reads a block by the words of layer 16, from the left.
func readBlockOf(b []byte) (api.Block, api.Errno) {
	if len(b) < headSize {
		return api.Block{}, api.ErrShort
	}
	x := api.Block{Hash: api.Id(b[:32]), Parent: api.Id(b[32:64])}
	n := int(b[64])
	if n > maxTxids {
		return api.Block{}, api.ErrForm
	}
	if b = b[headSize:]; len(b) < n*idSize {
		return api.Block{}, api.ErrShort
	}
	if len(b) > n*idSize {
		return api.Block{}, api.ErrLong
	}
	for i := range n {
		x.Txids = append(x.Txids, api.Id(b[i*idSize:(i+1)*idSize]))
	}
	if !blockMayBe(x) {
		return api.Block{}, api.ErrForm
	}
	return x, api.OK
}

// readOf reads a record by the chapter's words, from the left.
func readOf(b []byte) (api.Record, api.Errno) {
	if len(b) < 1 {
		return api.Record{}, api.ErrShort
	}
	x := api.Record{Kind: api.Kind(b[0])}
	if b = b[1:]; !slices.Contains(kinds, x.Kind) {
		return api.Record{}, api.ErrForm
	}
	if x.Kind == connect {
		var e api.Errno
		if x.Block, e = readBlockOf(b); e != api.OK {
			return api.Record{}, e
		}
		return x, api.OK
	}
	least := map[api.Kind]int{open: 4 + 1, upload: 4 + 4 + 16, closes: 4, disconnect: idSize}[x.Kind]
	most := least
	if x.Kind == upload {
		most += maxBlob
	}
	if len(b) < least {
		return api.Record{}, api.ErrShort
	}
	if len(b) > most {
		return api.Record{}, api.ErrLong
	}
	if x.Kind == disconnect {
		x.Block.Hash = api.Id(b)
	} else {
		x.Session = binary.BigEndian.Uint32(b)
	}
	if x.Kind == open {
		x.Quota = uint32(b[4])
	}
	if x.Kind == upload {
		x.Seq, x.Hint, x.Blob = binary.BigEndian.Uint32(b[4:]), api.Hint(b[8:24]), b[24:]
	}
	if !mayBe(x) {
		return api.Record{}, api.ErrForm
	}
	return x, api.OK
}

// alike tells whether two records have the same fields; lists and bytes of which there are none may be nil or empty.
func alike(a, b api.Record) bool {
	return string(a.Blob) == string(b.Blob) && slices.Equal(a.Block.Txids, b.Block.Txids) && reflect.DeepEqual(listless(a), listless(b))
}

// listless is a record without its Blob and its Block's Txids.
func listless(r api.Record) api.Record {
	r.Blob, r.Block.Txids = nil, nil
	return r
}

// own is a list in memory of its own, with spare room where the other has some.
func own[E any](l []E) []E {
	if l == nil {
		return nil
	}
	all := make([]E, cap(l))
	copy(all, l[:cap(l)])
	return all[:len(l)]
}

// twin is a record in memory of its own, spare room and all, so that what was there before a call can be held against what is there behind it.
func twin(r api.Record) api.Record {
	r.Blob, r.Block.Txids = own(r.Blob), own(r.Block.Txids)
	return r
}

// untouched holds that a record is as it was, spare room and all.
func untouched(t *testing.T, what string, r, was api.Record) {
	t.Helper()
	blob := bytes.Equal(r.Blob[:cap(r.Blob)], was.Blob[:cap(was.Blob)])
	txids := slices.Equal(r.Block.Txids[:cap(r.Block.Txids)], was.Block.Txids[:cap(was.Block.Txids)])
	if !reflect.DeepEqual(r, was) || !blob || !txids {
		t.Errorf("%s changed what was handed in: %s, not %s", what, brief(r), brief(was))
	}
}

// spoilBytes writes over bytes and their spare room.
func spoilBytes(b []byte) {
	all := b[:cap(b)]
	for i := range all {
		all[i] ^= 0xa5
	}
}

// spoil writes over what a record holds behind pointers, and over the spare room of that.
func spoil(r api.Record) {
	spoilBytes(r.Blob)
	all := r.Block.Txids[:cap(r.Block.Txids)]
	for i := range all {
		all[i][i%idSize] ^= 0xa5
	}
}

// with is bytes with others behind them, in new memory.
func with(b []byte, behind ...byte) []byte { return append(bytes.Clone(b), behind...) }

// changed is bytes with one of them made another.
func changed(b []byte, at int, to byte) []byte {
	b = bytes.Clone(b)
	b[at] = to
	return b
}

// roomy is a record of a kind whose lists, if it has some, have spare room, with something in it.
func roomy(kind api.Kind) api.Record {
	if kind == upload {
		return uploadOf(append(filled(5, 6), filled(30, 99)...)[:5])
	}
	return connectOf(blockOf(ids(9)[:5]...))
}

// some are records of each kind that may be.
func some() []api.Record {
	l := []api.Record{
		{Kind: upload}, uploadOf(nil), uploadOf([]byte{}), uploadOf([]byte{7}), uploadOf(filled(255, 1)), uploadOf(filled(256, 2)), uploadOf(filled(maxBlob-1, 5)), uploadOf(filled(maxBlob, 255)), roomy(upload),
		connectOf(blockOf()), connectOf(blockOf([]api.Id{}...)), connectOf(blockOf(api.Id{})), connectOf(api.Block{Hash: api.Id{1}}), connectOf(api.Block{Parent: api.Id{31: 1}}), connectOf(blockOf(ids(2)...)), connectOf(blockOf(ids(maxTxids - 1)...)), connectOf(blockOf(ids(maxTxids)...)), roomy(connect),
		disconnectOf(api.Id{}), disconnectOf(api.Id{1}), disconnectOf(api.Id{31: 1}), disconnectOf(api.Id(filled(32, 255))), {Kind: disconnect, Block: api.Block{Hash: api.Id{8}, Txids: make([]api.Id, 0, 4)}},
	}
	for _, n := range nums {
		l = append(l, api.Record{Kind: open, Session: n, Quota: n%maxQuota + 1}, api.Record{Kind: closes, Session: n}, api.Record{Kind: upload, Session: n, Seq: ^n, Blob: []byte{7, 8}})
	}
	return l
}

// wrongBlocks are blocks that may not be, each for its own reason, or for several.
func wrongBlocks() []api.Block {
	a, b, c := api.Id{1}, api.Id{2}, api.Id{3}
	return []api.Block{
		{}, {Txids: []api.Id{a}}, {Hash: a, Parent: a}, {Hash: a, Parent: a, Txids: []api.Id{b, b}}, {Hash: a, Parent: a, Txids: ids(maxTxids)}, {Hash: a, Parent: a, Txids: ids(maxTxids + 1)},
		blockOf(a, a), blockOf(a, b, a), blockOf(b, c, a, a), blockOf(make([]api.Id, 2)...), blockOf(append(ids(maxTxids-1), ids(1)...)...),
		blockOf(ids(maxTxids + 1)...), blockOf(ids(maxTxids + 2)...), blockOf(ids(255)...), blockOf(ids(256)...), blockOf(ids(256 + 3)...), blockOf(append(ids(maxTxids), ids(1)...)...),
	}
}

// strange are records that may not be.
func strange() []api.Record {
	l := []api.Record{{}, {Blob: []byte{}}, {Kind: open}, {Kind: open, Quota: maxQuota + 1}, uploadOf(filled(maxBlob+1, 7)), {Kind: disconnect, Block: blockOf()}, {Kind: disconnect, Block: roomy(connect).Block}, {Kind: closes, Blob: roomy(upload).Blob}}
	for _, b := range wrongBlocks() {
		l = append(l, connectOf(b))
	}
	for _, kind := range kinds {
		l = append(l, full(kind))
	}
	for _, kind := range otherKinds {
		l = append(l, api.Record{Kind: kind}, full(kind))
	}
	return l
}

// encodes holds that a record may be, and has the bytes that the chapter's words tell.
func encodes(t *testing.T, r api.Record) {
	t.Helper()
	if !record.Right(r) {
		t.Errorf("Right of %s: false", brief(r))
	}
	if b, e := record.Encode(r); e != api.OK || !bytes.Equal(b, bytesOf(r)) {
		t.Errorf("Encode of %s: %s, %d; not %s", brief(r), brief(b), e, brief(bytesOf(r)))
	}
}

// wrong holds that a record may not be: ErrArg, and no bytes.
func wrong(t *testing.T, r api.Record) {
	t.Helper()
	if record.Right(r) {
		t.Errorf("Right of %s: true", brief(r))
	}
	if b, e := record.Encode(r); e != api.ErrArg || len(b) != 0 {
		t.Errorf("Encode of %s: %s, %d", brief(r), brief(b), e)
	}
}

// judged holds that a record is what the chapter's words say: it may be, or not.
func judged(t *testing.T, r api.Record) {
	t.Helper()
	if mayBe(r) {
		encodes(t, r)
	} else {
		wrong(t, r)
	}
}

// decodes holds that these are the bytes of this record.
func decodes(t *testing.T, b []byte, want api.Record) {
	t.Helper()
	if r, e := record.Decode(b); e != api.OK || !alike(r, want) {
		t.Errorf("Decode of %s: %s, %d; not %s", brief(b), brief(r), e, brief(want))
	}
}

// refuses holds that bytes are none's: this error, and no record.
func refuses(t *testing.T, b []byte, want api.Errno) {
	t.Helper()
	if r, e := record.Decode(b); e != want || !alike(r, api.Record{}) {
		t.Errorf("Decode of %d bytes, %s: %s, %d; not %d", len(b), brief(b), brief(r), e, want)
	}
}

// reads holds that Decode tells what the chapter's words do, and what follows of it.
func reads(t *testing.T, b []byte) {
	t.Helper()
	want, err := readOf(b)
	if err != api.OK {
		refuses(t, b, err)
		return
	}
	decodes(t, b, want)
	r, _ := record.Decode(b)
	if again, e := record.Encode(r); !record.Right(r) || e != api.OK || !bytes.Equal(again, b) {
		t.Errorf("Decode of %s, encoded again: %s, %d, Right %v", brief(b), brief(again), e, record.Right(r))
	}
}

// TestP17_1_Example holds the chapter's examples.
func TestP17_1_Example(t *testing.T) {
	for _, known := range []struct {
		r api.Record
		b []byte
	}{
		{api.Record{Kind: api.Close, Session: 3}, []byte{4, 0, 0, 0, 3}},
		{api.Record{Kind: api.Open, Session: 3, Quota: 5}, []byte{1, 0, 0, 0, 3, 5}},
	} {
		if got, e := record.Encode(known.r); e != api.OK || !bytes.Equal(got, known.b) || !record.Right(known.r) {
			t.Errorf("Encode of %v: %v, %d", known.r, got, e)
		}
		decodes(t, known.b, known.r)
	}
}

// TestP17_1_Bytes holds bytes that are written out, and such of a Connect as layer 16 tells.
func TestP17_1_Bytes(t *testing.T) {
	rising := func(from byte) []byte {
		var l []byte
		for i := range byte(idSize) {
			l = append(l, from+i)
		}
		return l
	}
	hash, parent, a, b := rising(0), rising(32), rising(100), rising(224)
	both := api.Block{Hash: api.Id(hash), Parent: api.Id(parent), Txids: []api.Id{api.Id(b), api.Id(a)}}
	asBlock, _ := block.Encode(both)
	for _, known := range []struct {
		r api.Record
		b []byte
	}{
		{api.Record{Kind: api.Open, Quota: 1}, []byte{1, 0, 0, 0, 0, 1}},
		{api.Record{Kind: api.Open, Session: 0x01020304, Quota: 64}, []byte{1, 1, 2, 3, 4, 64}},
		{api.Record{Kind: api.Open, Session: math.MaxUint32, Quota: 63}, []byte{1, 255, 255, 255, 255, 63}},
		{api.Record{Kind: api.Upload}, append([]byte{2}, filled(24, 0)...)},
		{api.Record{Kind: api.Upload, Session: 0x01020304, Seq: 0x05060708, Hint: hints[2], Blob: []byte{30, 31, 32}}, []byte{2, 1, 2, 3, 4, 5, 6, 7, 8, 0, 1, 2, 3, 4, 5, 6, 7, 8, 9, 10, 11, 12, 13, 14, 15, 30, 31, 32}},
		{api.Record{Kind: api.Upload, Session: math.MaxUint32, Seq: math.MaxUint32, Hint: hints[1], Blob: filled(600, 255)}, append([]byte{2}, filled(624, 255)...)},
		{api.Record{Kind: api.Close}, []byte{4, 0, 0, 0, 0}},
		{api.Record{Kind: api.Close, Session: 1 << 31}, []byte{4, 128, 0, 0, 0}},
		{api.Record{Kind: api.Close, Session: math.MaxUint32}, []byte{4, 255, 255, 255, 255}},
		{connectOf(api.Block{Hash: api.Id(hash), Parent: api.Id(parent)}), bytes.Join([][]byte{{5}, hash, parent, {0}}, nil)},
		{connectOf(both), bytes.Join([][]byte{{5}, hash, parent, {2}, b, a}, nil)},
		{connectOf(both), with([]byte{5}, asBlock...)},
		{disconnectOf(api.Id{}), append([]byte{6}, filled(32, 0)...)},
		{disconnectOf(api.Id(hash)), append([]byte{6}, hash...)},
		{disconnectOf(api.Id(filled(32, 255))), append([]byte{6}, filled(32, 255)...)},
	} {
		if !bytes.Equal(bytesOf(known.r), known.b) || !mayBe(known.r) {
			t.Fatalf("the test's own bytes of %s", brief(known.r))
		}
		encodes(t, known.r)
		decodes(t, known.b, known.r)
	}
}

// TestP17_1_Kinds holds records of each kind with no field and with all, and of other kinds.
func TestP17_1_Kinds(t *testing.T) {
	for _, kind := range kinds {
		wrong(t, full(kind))
	}
	wrong(t, api.Record{Kind: open})
	encodes(t, api.Record{Kind: upload})
	encodes(t, api.Record{Kind: closes})
	wrong(t, api.Record{Kind: connect})
	encodes(t, api.Record{Kind: disconnect})
	for _, kind := range otherKinds {
		wrong(t, full(kind))
		for _, known := range some() {
			known.Kind = kind
			wrong(t, known)
		}
	}
	for kind := api.Kind(-600); kind <= 600; kind++ {
		for _, known := range []api.Record{{}, {Quota: 1}, {Block: blockOf()}, {Block: api.Block{Hash: api.Id{8}}}} {
			known.Kind = kind
			judged(t, known)
		}
	}
}

// TestP17_1_Quotas holds an Open of each quota that may be, of none, and of greater ones, such as are one that may be when they are cut to a byte among them.
func TestP17_1_Quotas(t *testing.T) {
	for _, session := range nums {
		wrong(t, api.Record{Kind: open, Session: session})
		for quota := uint32(1); quota <= maxQuota; quota++ {
			r := api.Record{Kind: open, Session: session, Quota: quota}
			encodes(t, r)
			decodes(t, bytesOf(r), r)
		}
		for quota := uint32(maxQuota + 1); quota < 1000; quota++ {
			wrong(t, api.Record{Kind: open, Session: session, Quota: quota})
		}
		for _, quota := range []uint32{65535, 65536, 65536 + 1, 1<<24 + 5, math.MaxInt32, math.MaxInt32 + 1, math.MaxInt32 + 2, math.MaxUint32 - maxQuota, math.MaxUint32} {
			wrong(t, api.Record{Kind: open, Session: session, Quota: quota})
		}
	}
}

// TestP17_1_Sessions holds an Open, an Upload and a Close of many sessions.
func TestP17_1_Sessions(t *testing.T) {
	at := func(n uint32) {
		t.Helper()
		for _, r := range []api.Record{{Kind: open, Session: n, Quota: 1}, {Kind: open, Session: n, Quota: maxQuota}, {Kind: upload, Session: n}, {Kind: upload, Seq: n}, {Kind: closes, Session: n}} {
			encodes(t, r)
			decodes(t, bytesOf(r), r)
		}
	}
	for _, n := range nums {
		at(n)
	}
	for bit := range 32 {
		at(1 << bit)
		at(^uint32(0) - 1<<bit)
	}
}

// TestP17_1_Uploads holds an Upload of each mix of sessions, seqs and hints.
func TestP17_1_Uploads(t *testing.T) {
	for _, session := range nums {
		for _, seq := range nums {
			for _, hint := range hints {
				for _, blob := range [][]byte{nil, {0}, {255, 0, 255}} {
					r := api.Record{Kind: upload, Session: session, Seq: seq, Hint: hint, Blob: blob}
					encodes(t, r)
					decodes(t, bytesOf(r), r)
				}
			}
		}
	}
}

// TestP17_1_Blobs holds an Upload with a Blob of each size that may be, and of greater ones.
func TestP17_1_Blobs(t *testing.T) {
	encodes(t, uploadOf(nil))
	for size := range maxBlob + 1 {
		r := uploadOf(filled(size, byte(size)))
		encodes(t, r)
		decodes(t, bytesOf(r), r)
	}
	for _, size := range []int{maxBlob + 1, maxBlob + 2, 624, 625, 1000, 1024, 1090, 65535, 65536, 65536 + 1, 65536 + maxBlob, 1 << 20} {
		wrong(t, uploadOf(filled(size, 3)))
		refuses(t, bytesOf(uploadOf(filled(size, 3))), api.ErrLong)
	}
}

// TestP17_1_Connects holds a Connect with blocks of each number of Txids that may be, of few ids, and with each kind of block that may not be.
func TestP17_1_Connects(t *testing.T) {
	for n := range maxTxids + 1 {
		r := connectOf(blockOf(ids(n)...))
		encodes(t, r)
		decodes(t, bytesOf(r), r)
	}
	for _, b := range wrongBlocks() {
		wrong(t, connectOf(b))
	}
	few := []api.Id{{}, {0: 1}, {31: 1}}
	lists := [][]api.Id{nil}
	for from := 0; len(lists[from]) < 3; from++ {
		for _, id := range few {
			lists = append(lists, append(slices.Clone(lists[from]), id))
		}
	}
	for _, hash := range few {
		for _, parent := range few {
			for _, l := range lists {
				r := connectOf(api.Block{Hash: hash, Parent: parent, Txids: l})
				judged(t, r)
				reads(t, bytesOf(r))
			}
		}
	}
}

// TestP17_1_Disconnects holds a Disconnect with a block that has a Hash alone, whatever that is, and with one that has a Parent or a Txid, be it 0 too.
func TestP17_1_Disconnects(t *testing.T) {
	hashes := []api.Id{{}, api.Id(filled(32, 255)), blockOf().Hash}
	for at := range idSize {
		hashes = append(hashes, marked(at, 1), marked(at, 128))
	}
	for _, hash := range hashes {
		encodes(t, disconnectOf(hash))
		decodes(t, bytesOf(disconnectOf(hash)), disconnectOf(hash))
		encodes(t, api.Record{Kind: disconnect, Block: api.Block{Hash: hash, Txids: []api.Id{}}})
		for at := range idSize {
			wrong(t, api.Record{Kind: disconnect, Block: api.Block{Hash: hash, Parent: marked(at, 1)}})
		}
		wrong(t, api.Record{Kind: disconnect, Block: api.Block{Hash: hash, Parent: hash, Txids: []api.Id{hash}}})
		wrong(t, api.Record{Kind: disconnect, Block: api.Block{Hash: hash, Parent: blockOf().Parent}})
		for _, l := range [][]api.Id{{{}}, {{}, {}}, {{1}}, {hash}, ids(5), ids(maxTxids), ids(maxTxids + 1)} {
			wrong(t, api.Record{Kind: disconnect, Block: api.Block{Hash: hash, Txids: l}})
		}
	}
}

// extras are ways to set one field alone at something else than 0, or empty.
var extras = []func(*api.Record){
	func(r *api.Record) { r.Session = 1 },
	func(r *api.Record) { r.Session = 1 << 31 },
	func(r *api.Record) { r.Seq = 1 },
	func(r *api.Record) { r.Seq = math.MaxUint32 },
	func(r *api.Record) { r.Quota = 1 },
	func(r *api.Record) { r.Quota = 1 << 8 },
	func(r *api.Record) { r.Quota = 1 << 31 },
	func(r *api.Record) { r.Hint[0] = 1 },
	func(r *api.Record) { r.Hint[8] = 128 },
	func(r *api.Record) { r.Hint[15] = 1 },
	func(r *api.Record) { r.Blob = []byte{0} },
	func(r *api.Record) { r.Blob = filled(maxBlob, 0) },
	func(r *api.Record) { r.Block.Hash[0] = 77 },
	func(r *api.Record) { r.Block.Hash[31] = 77 },
	func(r *api.Record) { r.Block.Parent[0] = 78 },
	func(r *api.Record) { r.Block.Parent[31] = 78 },
	func(r *api.Record) { r.Block.Txids = []api.Id{{}} },
	func(r *api.Record) { r.Block.Txids = ids(2) },
	func(r *api.Record) { r.Block = blockOf() },
}

// TestP17_1_OtherFields holds each kind, with what it has, with each field that it has, and has not, at something else than 0 or empty: one alone, and two together.
func TestP17_1_OtherFields(t *testing.T) {
	most := math.MaxUint32
	for _, least := range []api.Record{
		{Kind: open, Quota: 1}, {Kind: open, Session: uint32(most), Quota: maxQuota}, {Kind: upload}, {Kind: upload, Session: uint32(most), Seq: uint32(most), Hint: hints[1], Blob: filled(maxBlob, 255)},
		{Kind: closes}, {Kind: closes, Session: uint32(most)}, connectOf(blockOf()), connectOf(blockOf(ids(maxTxids)...)), disconnectOf(api.Id{}), disconnectOf(api.Id(filled(32, 255))),
	} {
		encodes(t, least)
		for _, change := range extras {
			one := twin(least)
			change(&one)
			judged(t, one)
			for _, more := range extras {
				two := twin(one)
				more(&two)
				judged(t, two)
			}
		}
	}
	// None of these kinds has that field.
	for _, known := range []struct {
		r     api.Record
		wrong []int // of extras
	}{
		{api.Record{Kind: open, Quota: 3}, []int{2, 3, 7, 8, 9, 10, 11, 12, 13, 14, 15, 16, 17, 18}},
		{api.Record{Kind: upload}, []int{4, 5, 6, 12, 13, 14, 15, 16, 17, 18}},
		{api.Record{Kind: closes}, []int{2, 3, 4, 5, 6, 7, 8, 9, 10, 11, 12, 13, 14, 15, 16, 17, 18}},
		{connectOf(blockOf()), []int{0, 1, 2, 3, 4, 5, 6, 7, 8, 9, 10, 11}},
		{disconnectOf(api.Id{}), []int{0, 1, 2, 3, 4, 5, 6, 7, 8, 9, 10, 11, 14, 15, 16, 17, 18}},
	} {
		encodes(t, known.r)
		for _, i := range known.wrong {
			x := twin(known.r)
			extras[i](&x)
			wrong(t, x)
		}
	}
}

// TestP17_1_EmptyIsNone holds that bytes and lists without an element are none, be they nil, empty, or with spare room.
func TestP17_1_EmptyIsNone(t *testing.T) {
	for _, r := range []api.Record{{Kind: open, Quota: 1}, {Kind: upload}, {Kind: closes}, connectOf(blockOf()), disconnectOf(api.Id{})} {
		for _, blob := range [][]byte{nil, {}, filled(5, 9)[:0]} {
			for _, txids := range [][]api.Id{nil, {}, ids(5)[:0]} {
				x := r
				x.Blob, x.Block.Txids = blob, txids
				encodes(t, x)
				decodes(t, bytesOf(x), r)
			}
		}
	}
}

// TestP17_1_EveryMix holds all records of few kinds whose fields are 0, or something else.
func TestP17_1_EveryMix(t *testing.T) {
	few := []uint32{0, 1, math.MaxUint32}
	for _, kind := range []api.Kind{-1, 0, open, upload, 3, closes, connect, disconnect, 7, 256 + open} {
		for _, session := range few {
			for _, seq := range few {
				for _, quota := range []uint32{0, 1, maxQuota, maxQuota + 1, 256 + 1} {
					for _, hint := range []api.Hint{{}, hints[2]} {
						for _, blob := range [][]byte{nil, {0}, filled(maxBlob+1, 0)} {
							for _, b := range []api.Block{{}, {Hash: api.Id{1}}, {Parent: api.Id{1}}, {Txids: []api.Id{{}}}, blockOf(ids(1)...), blockOf(make([]api.Id, 2)...)} {
								judged(t, api.Record{Kind: kind, Session: session, Seq: seq, Quota: quota, Hint: hint, Blob: blob, Block: b})
							}
						}
					}
				}
			}
		}
	}
}

// TestP17_1_Beginnings reads each beginning of what was encoded, which is too short but where an Upload has less of its Blob, and those bytes with bytes behind.
func TestP17_1_Beginnings(t *testing.T) {
	const bare = 1 + 4 + 4 + 16 // bytes of an Upload without a Blob
	for _, r := range some() {
		b := bytesOf(r)
		for end := range b {
			if r.Kind == upload && end >= bare {
				less := r
				less.Blob = r.Blob[:end-bare]
				decodes(t, b[:end], less)
				continue
			}
			refuses(t, b[:end], api.ErrShort)
		}
		decodes(t, b, r)
		for _, more := range [][]byte{{0}, {1}, {255}, {0, 0}, {4, 0, 0, 0, 3}, filled(31, 0), filled(32, 9), b, filled(1<<16, 9)} {
			if all := with(b, more...); r.Kind == upload && len(all) <= bare+maxBlob {
				longer := r
				longer.Blob = with(r.Blob, more...)
				decodes(t, all, longer)
				continue
			}
			refuses(t, with(b, more...), api.ErrLong)
		}
	}
	refuses(t, nil, api.ErrShort)
	refuses(t, []byte{}, api.ErrShort)
	refuses(t, make([]byte, 0, 30), api.ErrShort)
}

// TestP17_1_FirstByte reads each first byte: one that is no such kind is told ahead of what is behind it, whatever that is.
func TestP17_1_FirstByte(t *testing.T) {
	for n := range 256 {
		kind := slices.Contains(kinds, api.Kind(n))
		want := api.ErrForm
		if kind {
			want = api.ErrShort
		}
		refuses(t, []byte{byte(n)}, want)
		for _, r := range some() {
			b := changed(bytesOf(r), 0, byte(n))
			if !kind {
				refuses(t, b, api.ErrForm)
			}
			reads(t, b)
		}
		for _, size := range []int{1, 3, 4, 5, 6, 24, 25, 31, 32, 33, 64, 65, 66, 96, 97, 98, 624, 625, 1089, 1090, 5000} {
			for _, fill := range []byte{0, 1, 64, 255} {
				reads(t, append([]byte{byte(n)}, filled(size, fill)...))
			}
		}
	}
}

// TestP17_1_DecodeQuotas reads each Quota that a byte can tell: one that may not be is told behind bytes that are too few or too many.
func TestP17_1_DecodeQuotas(t *testing.T) {
	for quota := range 256 {
		b := []byte{open, 0, 0, 0, 3, byte(quota)}
		if quota >= 1 && quota <= maxQuota {
			decodes(t, b, api.Record{Kind: open, Session: 3, Quota: uint32(quota)})
		} else {
			refuses(t, b, api.ErrForm)
		}
		refuses(t, with(b, 0), api.ErrLong)
		refuses(t, with(b, 5), api.ErrLong)
		refuses(t, with(b, filled(90, 5)...), api.ErrLong)
		refuses(t, b[:5], api.ErrShort)
	}
}

// TestP17_1_DecodeBlobs reads each size of a Blob, from none on, up to more than may be.
func TestP17_1_DecodeBlobs(t *testing.T) {
	head := bytesOf(uploadOf(nil))
	for size := range 2000 {
		b := with(head, filled(size, byte(size))...)
		if size <= maxBlob {
			decodes(t, b, uploadOf(b[len(head):]))
		} else {
			refuses(t, b, api.ErrLong)
		}
	}
	refuses(t, head[:len(head)-1], api.ErrShort)
	refuses(t, with(head, filled(1<<20, 0)...), api.ErrLong)
}

// TestP17_1_DecodeConnects reads blocks behind a Connect's Kind: what is told is what layer 16's Decode tells of them.
func TestP17_1_DecodeConnects(t *testing.T) {
	told := map[api.Errno]int{}
	hold := func(b []byte) {
		t.Helper()
		want, err := block.Decode(b)
		told[err]++
		if err == api.OK {
			decodes(t, with([]byte{connect}, b...), connectOf(want))
			return
		}
		refuses(t, with([]byte{connect}, b...), err)
	}
	blocks := wrongBlocks()
	for n := range maxTxids + 3 {
		blocks = append(blocks, blockOf(ids(n)...))
	}
	for _, x := range blocks {
		b := bytesOf(connectOf(x))[1:]
		hold(b)
		for _, end := range []int{0, 1, 31, 32, 33, 63, 64, 65, 66, len(b) - idSize, len(b) - 1} {
			hold(b[:min(end, len(b))])
		}
		for _, more := range [][]byte{{0}, filled(31, 1), filled(32, 1), filled(33, 1), b, filled(1<<16, 1)} {
			hold(with(b, more...))
		}
		for _, n := range []byte{0, 1, 2, 3, maxTxids - 1, maxTxids, maxTxids + 1, 128, 255} {
			hold(changed(b, 64, n))
		}
	}
	for _, e := range []api.Errno{api.OK, api.ErrShort, api.ErrForm, api.ErrLong} {
		if told[e] < 20 {
			t.Errorf("%d was told %d times alone", e, told[e])
		}
	}
}

// TestP17_1_FirstFault reads bytes in which two faults stand one behind the other: the first that the chapter names is told.
func TestP17_1_FirstFault(t *testing.T) {
	one := api.Id{9}
	blockHead := func(hash, parent api.Id, n byte) []byte {
		return append(append(append([]byte{connect}, hash[:]...), parent[:]...), n)
	}
	self := func(n byte) []byte { return blockHead(one, one, n) }
	right := func(n byte) []byte { return blockHead(one, api.Id{8}, n) }
	for _, known := range []struct {
		b []byte
		e api.Errno
	}{
		{[]byte{0, 0}, api.ErrForm},                                              // no such kind, then too few bytes for any
		{[]byte{3, 0, 0, 0, 3}, api.ErrForm},                                     // no such kind, then bytes that a Close would have
		{[]byte{3, 0, 0, 0, 3, 5}, api.ErrForm},                                  // no such kind, then bytes that an Open would have
		{[]byte{7, 0, 0, 0, 3, 0}, api.ErrForm},                                  // no such kind, then a Quota that may not be
		{with([]byte{0}, filled(1<<16, 255)...), api.ErrForm},                    // no such kind, then a lot of bytes
		{with([]byte{8}, self(33)[1:]...), api.ErrForm},                          // no such kind, then a block that may not be
		{[]byte{1, 255, 255, 255}, api.ErrShort},                                 // too few bytes of a Session
		{[]byte{1, 255, 255, 255, 255}, api.ErrShort},                            // no Quota
		{[]byte{1, 0, 0, 0, 3, 0, 5}, api.ErrLong},                               // a Quota of 0, then a byte behind
		{[]byte{1, 0, 0, 0, 3, 65, 0}, api.ErrLong},                              // a Quota that is too great, then a byte behind
		{[]byte{1, 0, 0, 0, 3, 255, 1, 0, 0, 0}, api.ErrLong},                    // a Quota that is too great, then bytes that are too few
		{[]byte{1, 0, 0, 0, 3, 0}, api.ErrForm},                                  // a Quota of 0
		{[]byte{1, 0, 0, 0, 3, 65}, api.ErrForm},                                 // a Quota that is too great
		{[]byte{4, 0, 0, 3}, api.ErrShort},                                       // too few bytes of a Session
		{[]byte{4, 0, 0, 0, 3, 3}, api.ErrLong},                                  // bytes behind, which are no such kind
		{[]byte{4, 0, 0, 0, 3, 1, 0, 0, 0, 3, 0}, api.ErrLong},                   // bytes behind, which hold a Quota that may not be
		{with([]byte{2}, filled(23, 255)...), api.ErrShort},                      // too few bytes of a Hint
		{with([]byte{2}, filled(624, 255)...), api.OK},                           // a Blob of as many bytes as may be
		{with([]byte{2}, filled(625, 255)...), api.ErrLong},                      // more of it
		{with([]byte{4}, filled(625, 255)...), api.ErrLong},                      // more than an Upload could have, behind a Close
		{with([]byte{6}, filled(31, 255)...), api.ErrShort},                      // too few bytes of a Hash
		{with([]byte{6}, filled(33, 255)...), api.ErrLong},                       // a byte behind a Hash
		{with([]byte{6}, self(0)[1:]...), api.ErrLong},                           // a Hash, then the rest of a block that may not be
		{with([]byte{6}, right(0)[1:]...), api.ErrLong},                          // a Hash, then the rest of a block that may be
		{self(0), api.ErrForm},                                                   // its Hash is its Parent
		{self(0)[:65], api.ErrShort},                                             // its Hash is its Parent, then no number
		{self(1), api.ErrShort},                                                  // its Hash is its Parent, then no Txid
		{with(self(0), 0), api.ErrLong},                                          // its Hash is its Parent, then a byte behind
		{with(self(33), 0), api.ErrForm},                                         // too many Txids, that lack
		{with(right(33), filled(33*32, 9)...), api.ErrForm},                      // too many Txids
		{with(right(33), filled(33*32+1, 9)...), api.ErrForm},                    // too many Txids, then a byte behind
		{with(right(2), filled(63, 9)...), api.ErrShort},                         // a Txid would be there twice, but for a byte
		{with(right(2), filled(64, 9)...), api.ErrForm},                          // a Txid twice
		{with(right(2), filled(65, 9)...), api.ErrLong},                          // a Txid twice, then a byte behind
		{with(right(1), filled(31, 9)...), api.ErrShort},                         // too few bytes of a Txid
		{with(right(0), 4, 0, 0, 0, 3), api.ErrLong},                             // a Connect, then a Close
		{with(bytesOf(connectOf(blockOf(ids(32)...))), 0), api.ErrLong},          // the longest, then a byte behind
		{with(bytesOf(connectOf(blockOf(ids(32)...)))[:1089], 7), api.OK},        // the longest, its last byte another
		{bytesOf(connectOf(blockOf(ids(32)...)))[:1089], api.ErrShort},           // a byte less than the longest
		{with(with([]byte{2}, filled(624, 1)...), self(33)...), api.ErrLong},     // an Upload, then a block that may not be
		{with([]byte{1, 0, 0, 0, 3, 0}, filled(1<<16, 7)...), api.ErrLong},       // a Quota of 0, then a lot of bytes
		{with([]byte{5}, with([]byte{5}, self(0)[1:]...)...), api.ErrLong},       // a byte put in, so that there is one behind
		{with([]byte{5}, with(filled(64, 3), 33)...), api.ErrForm},               // its Hash is its Parent, then too many Txids
		{with([]byte{5}, with(filled(64, 3), filled(33, 1)...)...), api.ErrForm}, // its Hash is its Parent, then a Txid
	} {
		if _, e := readOf(known.b); e != known.e {
			t.Errorf("the test's own reading of %s: %d; not %d", brief(known.b), e, known.e)
		}
		reads(t, known.b)
	}
}

// TestP17_1_DecodeFewBytes reads every mix of few bytes, and holds each against the chapter's words.
func TestP17_1_DecodeFewBytes(t *testing.T) {
	mix := func(signs []byte, most int, ahead []byte) {
		last := [][]byte{ahead}
		for range most {
			var next [][]byte
			for _, b := range last {
				for _, sign := range signs {
					next = append(next, with(b, sign))
				}
			}
			for _, b := range next {
				reads(t, b)
			}
			last = next
		}
	}
	mix([]byte{0, 1, 2, 3, 4, 5, 6, 7, 255}, 5, nil)
	mix([]byte{0, 1, 64, 65, 255}, 6, []byte{open})
	mix([]byte{0, 4, 255}, 7, []byte{closes})
	mix([]byte{0, 1, 255}, 4, bytesOf(uploadOf(nil))[:23])
	mix([]byte{0, 1, 255}, 4, bytesOf(uploadOf(filled(maxBlob-2, 1))))
	mix([]byte{0, 1, 255}, 4, bytesOf(disconnectOf(api.Id{}))[:31])
	mix([]byte{0, 1, 32, 33, 255}, 3, bytesOf(connectOf(blockOf()))[:headSize])
}

// TestP17_1_DecodeTurned reads bytes of records in which one byte was made another, was left out, or was put in, and holds each against the chapter's words.
func TestP17_1_DecodeTurned(t *testing.T) {
	r := rand.New(rand.NewSource(1))
	for range 60 {
		b := bytesOf(drawnRecord(r))
		for at := range b {
			for _, to := range []byte{0, 1, b[at] - 1, b[at] + 1, b[at] ^ 128, 32, 33, 65} {
				reads(t, changed(b, at, to))
			}
			reads(t, slices.Delete(bytes.Clone(b), at, at+1))
			reads(t, slices.Insert(bytes.Clone(b), at, byte(r.Intn(256))))
		}
	}
}

// TestP17_1_DecodeDrawn reads drawn bytes, of each kind cut, lengthened, or of few values, and holds each against the chapter's words.
func TestP17_1_DecodeDrawn(t *testing.T) {
	r := rand.New(rand.NewSource(2))
	told := map[api.Errno]int{}
	for range 20000 {
		x := drawnRecord(r)
		if x.Kind == connect && r.Intn(2) == 0 { // ids are often the same
			x.Block = api.Block{Hash: api.Id{byte(r.Intn(2))}, Parent: api.Id{byte(r.Intn(2))}}
			for range r.Intn(4) {
				x.Block.Txids = append(x.Block.Txids, api.Id{31: byte(r.Intn(4))})
			}
		}
		if x.Kind == open {
			x.Quota = uint32(r.Intn(130))
		}
		b := bytesOf(x)
		switch r.Intn(6) {
		case 0:
			b = b[:r.Intn(len(b))]
		case 1:
			b = append(b, drawn(r, 1+r.Intn(700))...)
		case 2:
			b[0] = byte(r.Intn(9))
		}
		reads(t, b)
		_, e := readOf(b)
		told[e]++
	}
	for _, e := range []api.Errno{api.OK, api.ErrShort, api.ErrLong, api.ErrForm} {
		if told[e] < 500 {
			t.Errorf("%d was told %d times alone", e, told[e])
		}
	}
}

// TestP17_1_Unchanged holds that what was handed in is as it was, and that nothing of it is kept or handed out.
func TestP17_1_Unchanged(t *testing.T) {
	for _, r := range append(some(), strange()...) {
		r = twin(r)
		was := twin(r)
		record.Right(r)
		b, e := record.Encode(r)
		untouched(t, "Right or Encode", r, was)
		spoil(r)
		if e == api.OK && !bytes.Equal(b, bytesOf(was)) {
			t.Errorf("the bytes go on with the record: %s", brief(b))
		}
	}
	for _, r := range some() {
		size := len(bytesOf(r))
		for _, end := range []int{0, 1, size - 1, size, size + 1, size + 50} {
			all := append(bytesOf(r), filled(90, 8)...)
			was := bytes.Clone(all)
			got, e := record.Decode(all[:end])
			if !bytes.Equal(all, was) {
				t.Error("Decode changed bytes")
			}
			spoilBytes(all)
			if want, _ := readOf(was[:end]); e == api.OK && !alike(got, want) {
				t.Errorf("the record goes on with the bytes: %s", brief(got))
			}
		}
	}
}

// TestP17_1_AnswersAreNew changes what was answered: no other answer changes.
func TestP17_1_AnswersAreNew(t *testing.T) {
	for _, r := range some() {
		b, _ := record.Encode(r)
		again, _ := record.Encode(r)
		spoilBytes(b)
		if !bytes.Equal(again, bytesOf(r)) {
			t.Errorf("two answers of Encode share memory: %s", brief(again))
		}
		got, _ := record.Decode(again)
		other, _ := record.Decode(again)
		spoil(got)
		if !alike(other, r) || !bytes.Equal(again, bytesOf(r)) {
			t.Errorf("an answer of Decode shares memory: %s", brief(other))
		}
	}
}

// parts are ways in which a record may part from another one, each in one field alone.
var parts = []func(*api.Record){
	func(r *api.Record) { r.Kind++ },
	func(r *api.Record) { r.Kind-- },
	func(r *api.Record) { r.Kind ^= 256 },
	func(r *api.Record) { r.Kind ^= 1 << 40 },
	func(r *api.Record) { r.Session++ },
	func(r *api.Record) { r.Session-- },
	func(r *api.Record) { r.Session ^= 1 << 31 },
	func(r *api.Record) { r.Seq++ },
	func(r *api.Record) { r.Seq-- },
	func(r *api.Record) { r.Seq ^= 1 << 31 },
	func(r *api.Record) { r.Quota++ },
	func(r *api.Record) { r.Quota-- },
	func(r *api.Record) { r.Quota ^= 1 << 8 },
	func(r *api.Record) { r.Quota ^= 1 << 31 },
	func(r *api.Record) { r.Hint[0] ^= 1 },
	func(r *api.Record) { r.Hint[7] ^= 128 },
	func(r *api.Record) { r.Hint[15] ^= 1 },
	func(r *api.Record) { r.Blob = with(r.Blob, 0) },
	func(r *api.Record) { r.Blob = with(r.Blob, 99) },
	func(r *api.Record) { r.Blob = with([]byte{0}, r.Blob...) },
	func(r *api.Record) { r.Block.Hash[0] ^= 1 },
	func(r *api.Record) { r.Block.Hash[16] ^= 64 },
	func(r *api.Record) { r.Block.Hash[31] ^= 128 },
	func(r *api.Record) { r.Block.Parent[0] ^= 1 },
	func(r *api.Record) { r.Block.Parent[16] ^= 64 },
	func(r *api.Record) { r.Block.Parent[31] ^= 128 },
	func(r *api.Record) { r.Block.Txids = append(slices.Clone(r.Block.Txids), api.Id{}) },
	func(r *api.Record) { r.Block.Txids = append([]api.Id{{99}}, r.Block.Txids...) },
}

// same holds what Same answers, either way round.
func same(t *testing.T, a, b api.Record, want bool) {
	t.Helper()
	if record.Same(a, b) != want || record.Same(b, a) != want {
		t.Errorf("Same of %s and %s: not %v", brief(a), brief(b), want)
	}
}

// TestP17_2_Same holds records, such as may not be too, against those that are alike, and against those that part in one field alone, in a byte of the Blob or of a Txid, or in how many they have.
func TestP17_2_Same(t *testing.T) {
	for _, r := range append(some(), strange()...) {
		r = twin(r)
		was := twin(r)
		same(t, r, r, true)
		same(t, r, twin(r), true)
		for i, change := range parts {
			q := twin(r)
			if change(&q); alike(q, r) {
				t.Fatalf("the change %d is none", i)
			}
			same(t, r, q, false)
		}
		for at := range r.Blob {
			q := twin(r)
			q.Blob[at] ^= 1
			same(t, r, q, false)
		}
		for i := range r.Block.Txids {
			for _, at := range []int{0, 15, 16, 31} {
				q := twin(r)
				q.Block.Txids[i][at] ^= 1
				same(t, r, q, false)
			}
		}
		if n := len(r.Blob); n > 0 {
			q := twin(r)
			q.Blob = q.Blob[:n-1]
			same(t, r, q, false)
			q.Blob = nil
			same(t, r, q, false)
		}
		if n := len(r.Block.Txids); n > 0 {
			q := twin(r)
			q.Block.Txids = q.Block.Txids[:n-1]
			same(t, r, q, false)
			q.Block.Txids = nil
			same(t, r, q, false)
			q = twin(r)
			q.Block.Txids[0], q.Block.Txids[n-1] = q.Block.Txids[n-1], q.Block.Txids[0]
			same(t, r, q, q.Block.Txids[0] == r.Block.Txids[0])
		}
		untouched(t, "Same", r, was)
	}
}

// TestP17_2_SameOfAll holds each record against each other one.
func TestP17_2_SameOfAll(t *testing.T) {
	all := append(some(), strange()...)
	for i, a := range all {
		for j, b := range all {
			same(t, a, b, i == j || alike(a, b))
		}
	}
}

// TestP17_2_SameFields holds that something at one field is not the same at another, and that lists without an element are the same, be they nil or empty.
func TestP17_2_SameFields(t *testing.T) {
	for _, kind := range append(slices.Clone(kinds), otherKinds...) {
		l := []api.Record{{}, {Session: 1}, {Seq: 1}, {Quota: 1}, {Hint: api.Hint{1}}, {Hint: api.Hint{15: 1}}, {Blob: []byte{1}}, {Blob: []byte{0}}, {Blob: []byte{0, 0}}, {Blob: []byte{1, 2}}, {Blob: []byte{2, 1}},
			{Block: api.Block{Hash: api.Id{1}}}, {Block: api.Block{Parent: api.Id{1}}}, {Block: api.Block{Txids: []api.Id{{1}}}}, {Block: api.Block{Txids: []api.Id{{}}}}, {Block: api.Block{Txids: []api.Id{{}, {}}}}, {Block: api.Block{Txids: []api.Id{{1}, {2}}}}, {Block: api.Block{Txids: []api.Id{{2}, {1}}}}}
		for i := range l {
			l[i].Kind = kind
		}
		for i, a := range l {
			for j, b := range l {
				same(t, a, b, i == j)
			}
		}
		bare := api.Record{Kind: kind}
		same(t, bare, api.Record{Kind: kind, Blob: []byte{}}, true)
		same(t, bare, api.Record{Kind: kind, Blob: make([]byte, 0, 9)}, true)
		same(t, bare, api.Record{Kind: kind, Block: api.Block{Txids: []api.Id{}}}, true)
		same(t, bare, api.Record{Kind: kind, Block: api.Block{Txids: make([]api.Id, 0, 9)}}, true)
		same(t, bare, api.Record{Kind: kind + 1}, false)
	}
}

// TestP17_2_Copy holds that a copy is the same, and apart either way.
func TestP17_2_Copy(t *testing.T) {
	for _, r := range append(some(), strange()...) {
		r = twin(r)
		was := twin(r)
		q, again := record.Copy(r), record.Copy(r)
		if !alike(q, r) || !record.Same(q, r) {
			t.Errorf("Copy of %s: %s", brief(r), brief(q))
		}
		_ = append(q.Blob, 77)
		_ = append(q.Block.Txids, api.Id{77})
		spoil(q)
		untouched(t, "Copy, or a change of the copy,", r, was)
		spoil(r)
		if !alike(again, was) {
			t.Errorf("a copy goes on with the record: %s, not %s", brief(again), brief(was))
		}
	}
}

// TestP17_2_CopyApart changes a byte of the Blob, and one of a Txid, in one of two: the other's is as it was.
func TestP17_2_CopyApart(t *testing.T) {
	for _, kind := range append(slices.Clone(kinds), otherKinds...) {
		r := full(kind)
		q := record.Copy(r)
		q.Blob[1], q.Block.Txids[1][31] = 200, 201
		if !alike(r, full(kind)) {
			t.Errorf("a change of the copy is one of the record: %s", brief(r))
		}
		q = record.Copy(r)
		r.Blob[0], r.Block.Txids[0][0] = 202, 203
		if !alike(q, full(kind)) {
			t.Errorf("a change of the record is one of the copy: %s", brief(q))
		}
	}
}

// TestP17_3_ThereAndBack holds that what was encoded is decoded, and that what is decoded may be and, encoded again, is those bytes.
func TestP17_3_ThereAndBack(t *testing.T) {
	r := rand.New(rand.NewSource(3))
	l := some()
	for range 5000 {
		l = append(l, drawnRecord(r))
	}
	for _, x := range l {
		b, e := record.Encode(x)
		if e != api.OK {
			t.Fatalf("Encode of %s: %d", brief(x), e)
		}
		q, e := record.Decode(b)
		if e != api.OK || !alike(x, q) || !record.Same(x, q) || !record.Right(q) {
			t.Errorf("%s came back as %s, %d", brief(x), brief(q), e)
		}
		reads(t, b)
	}
}

// TestP17_3_OneRecordOneText holds that two records have the same bytes just if they are the same.
func TestP17_3_OneRecordOneText(t *testing.T) {
	l := some()
	for _, a := range l {
		for _, b := range l {
			x, _ := record.Encode(a)
			y, _ := record.Encode(b)
			if bytes.Equal(x, y) != record.Same(a, b) {
				t.Errorf("%s and %s", brief(a), brief(b))
			}
		}
	}
}

// TestP17_3_AsTheReaderReads holds that the bytes are such as a reader reads, field by field, and a block's such as layer 16 reads.
func TestP17_3_AsTheReaderReads(t *testing.T) {
	x := api.Record{Kind: upload, Session: math.MaxUint32, Seq: 1 << 31, Hint: hints[2], Blob: filled(maxBlob, 1)}
	b, _ := record.Encode(x)
	r := reader.New(b)
	if kind, session, seq := r.Num(1), r.Num(4), r.Num(4); kind != upload || session != uint64(x.Session) || seq != uint64(x.Seq) {
		t.Errorf("%d, %d, %d", kind, session, seq)
	}
	if hint, blob := r.Hint(), r.Bytes(maxBlob); hint != x.Hint || !bytes.Equal(blob, x.Blob) || r.Done() != api.OK {
		t.Errorf("%v, %s, %d", hint, brief(blob), r.Done())
	}
	for n := range maxTxids + 1 {
		b, _ = record.Encode(connectOf(blockOf(ids(n)...)))
		if read, e := block.Decode(b[1:]); b[0] != connect || e != api.OK || !block.Same(read, blockOf(ids(n)...)) {
			t.Errorf("%d, then %s, %d", b[0], brief(read), e)
		}
	}
}
