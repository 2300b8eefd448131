package block_test

import (
	"bytes"
	"fmt"
	"math/rand"
	"reflect"
	"slices"
	"testing"

	"mirador/api"
	"mirador/block"
	"mirador/reader"
	"mirador/seal"
)

// The chapter's sizes, as numbers of the test's own.
const (
	maxTxids = 32
	idSize   = 32
	hintSize = 16
	headSize = 65 // of a block without Txids
)

// brief is a thing's text, cut where it is long.
func brief(x any) string {
	s := fmt.Sprint(x)
	return s[:min(len(s), 300)]
}

// filled are so many bytes, each of them b.
func filled(n int, b byte) []byte { return bytes.Repeat([]byte{b}, n) }

// drawn are bytes that a draw of the test's own makes.
func drawn(r *rand.Rand, n int) []byte {
	b := make([]byte, n)
	r.Read(b)
	return b
}

// drawnId is an id that a draw of the test's own makes.
func drawnId(r *rand.Rand) api.Id { return api.Id(drawn(r, idSize)) }

// numbered is an id that has a number, unlike those of all other numbers.
func numbered(n int) api.Id { return api.Id{0: 77, 5: byte(n), 17: byte(n >> 8), 30: byte(n >> 16)} }

// ids are so many ids, of which no two are the same.
func ids(n int) []api.Id {
	var l []api.Id
	for i := range n {
		l = append(l, numbered(i))
	}
	return l
}

// of is a block of these Txids, whose Hash and Parent are neither the same nor any of ids.
func of(txids ...api.Id) api.Block {
	return api.Block{Hash: api.Id{0: 1, 31: 2}, Parent: api.Id{0: 3, 31: 4}, Txids: txids}
}

// turned is an id in which the bits of a mask are turned in one byte.
func turned(id api.Id, at int, mask byte) api.Id {
	id[at] ^= mask
	return id
}

// drawnBlock is one that may be.
func drawnBlock(r *rand.Rand) api.Block {
	b := api.Block{Hash: drawnId(r), Parent: drawnId(r)}
	for range r.Intn(maxTxids + 1) {
		b.Txids = append(b.Txids, drawnId(r))
	}
	return b
}

// mayBe is what the chapter's words ask of a block.
func mayBe(b api.Block) bool {
	if len(b.Txids) > maxTxids || b.Hash == b.Parent {
		return false
	}
	for i, x := range b.Txids {
		for _, y := range b.Txids[:i] {
			if x == y {
				return false
			}
		}
	}
	return true
}

// bytesOf are a block's bytes by the chapter's words, also of one that may not be (as far as its number of Txids is a byte).
func bytesOf(b api.Block) []byte {
	l := append(bytes.Clone(b.Hash[:]), b.Parent[:]...)
	l = append(l, byte(len(b.Txids)))
	for _, id := range b.Txids {
		l = append(l, id[:]...)
	}
	return l
}

// readOf reads a block by the chapter's words, from the left.
func readOf(b []byte) (api.Block, api.Errno) {
	if len(b) < headSize {
		return api.Block{}, api.ErrShort
	}
	x := api.Block{Hash: api.Id(b[:32]), Parent: api.Id(b[32:64])}
	n := int(b[64])
	if b = b[headSize:]; n > maxTxids {
		return api.Block{}, api.ErrForm
	}
	if len(b) < n*idSize {
		return api.Block{}, api.ErrShort
	}
	if len(b) > n*idSize {
		return api.Block{}, api.ErrLong
	}
	for i := range n {
		x.Txids = append(x.Txids, api.Id(b[i*idSize:(i+1)*idSize]))
	}
	if !mayBe(x) {
		return api.Block{}, api.ErrForm
	}
	return x, api.OK
}

// alike tells whether two blocks have the same fields; lists without an element may be nil or empty.
func alike(a, b api.Block) bool {
	if a.Hash != b.Hash || a.Parent != b.Parent || len(a.Txids) != len(b.Txids) {
		return false
	}
	for i := range a.Txids {
		if a.Txids[i] != b.Txids[i] {
			return false
		}
	}
	return true
}

// twin is a block in memory of its own, with spare room where the other has some, so that what was there before a call can be held against what is there behind it.
func twin(b api.Block) api.Block {
	if b.Txids != nil {
		all := b.Txids[:cap(b.Txids)]
		own := make([]api.Id, len(all))
		copy(own, all)
		b.Txids = own[:len(b.Txids)]
	}
	return b
}

// untouched holds that a block is as it was, spare room and all.
func untouched(t *testing.T, what string, b, was api.Block) {
	t.Helper()
	if !reflect.DeepEqual(b, was) || !slices.Equal(b.Txids[:cap(b.Txids)], was.Txids[:cap(was.Txids)]) {
		t.Errorf("%s changed what was handed in: %s, not %s", what, brief(b), brief(was))
	}
}

// spoil writes over ids and their spare room.
func spoil(l []api.Id) {
	all := l[:cap(l)]
	for i := range all {
		all[i] = turned(all[i], i%idSize, 0xa5)
	}
}

// with is bytes with others behind them, in new memory.
func with(b []byte, behind ...byte) []byte { return append(bytes.Clone(b), behind...) }

// changed is bytes with one of them made another.
func changed(b []byte, at int, to byte) []byte {
	b = bytes.Clone(b)
	b[at] = to
	return b
}

// some are blocks that may be.
func some() []api.Block {
	r := rand.New(rand.NewSource(11))
	l := []api.Block{of(), of([]api.Id{}...), of(api.Id{}), {Hash: api.Id{1}}, {Parent: api.Id{31: 1}}, {Hash: api.Id(filled(32, 255)), Parent: api.Id(filled(32, 254)), Txids: []api.Id{api.Id(filled(32, 255)), api.Id(filled(32, 254))}}, roomy()}
	for n := range maxTxids + 1 {
		l = append(l, of(ids(n)...))
	}
	for range 20 {
		l = append(l, drawnBlock(r))
	}
	return l
}

// strange are blocks that may not be, each for its own reason, or for several.
func strange() []api.Block {
	a, b, c := numbered(1), numbered(2), numbered(300)
	twice := roomy()
	twice.Txids[2] = twice.Txids[0]
	return []api.Block{
		{}, {Txids: []api.Id{}}, {Txids: []api.Id{{}}}, {Hash: a, Parent: a}, {Hash: a, Parent: a, Txids: []api.Id{a, b}}, {Hash: a, Parent: a, Txids: []api.Id{b, b}},
		of(a, a), of(a, b, a), of(a, a, b), of(b, a, a), of(a, a, a), of(a, b, c, b, a), of(api.Id{}, api.Id{}), of(make([]api.Id, 32)...), of(make([]api.Id, 33)...),
		of(ids(33)...), of(ids(34)...), of(ids(300)...), of(append(ids(32), numbered(0))...), of(append(ids(31), numbered(30))...),
		{Hash: b, Parent: b, Txids: ids(33)}, twice,
	}
}

// roomy is a block that may be whose list has spare room, with something in it.
func roomy() api.Block { return of(ids(9)[:5]...) }

// encodes holds that a block may be, and has the bytes that the chapter's words tell.
func encodes(t *testing.T, b api.Block) {
	t.Helper()
	if !block.Right(b) {
		t.Errorf("Right of %s: false", brief(b))
	}
	if l, e := block.Encode(b); e != api.OK || !bytes.Equal(l, bytesOf(b)) {
		t.Errorf("Encode of %s: %s, %d; not %s", brief(b), brief(l), e, brief(bytesOf(b)))
	}
}

// wrong holds that a block may not be: ErrArg, and no bytes.
func wrong(t *testing.T, b api.Block) {
	t.Helper()
	if block.Right(b) {
		t.Errorf("Right of %d Txids, %s: true", len(b.Txids), brief(b))
	}
	if l, e := block.Encode(b); e != api.ErrArg || len(l) != 0 {
		t.Errorf("Encode of %d Txids, %s: %s, %d", len(b.Txids), brief(b), brief(l), e)
	}
}

// judged holds that a block is what the chapter's words say: it may be, or not.
func judged(t *testing.T, b api.Block) {
	t.Helper()
	if mayBe(b) {
		encodes(t, b)
	} else {
		wrong(t, b)
	}
}

// decodes holds that these are the bytes of this block.
func decodes(t *testing.T, l []byte, want api.Block) {
	t.Helper()
	if b, e := block.Decode(l); e != api.OK || !alike(b, want) {
		t.Errorf("Decode of %s: %s, %d; not %s", brief(l), brief(b), e, brief(want))
	}
}

// refuses holds that bytes are none's: this error, and no block.
func refuses(t *testing.T, l []byte, want api.Errno) {
	t.Helper()
	if b, e := block.Decode(l); e != want || !alike(b, api.Block{}) {
		t.Errorf("Decode of %d bytes, %s: %s, %d; not %d", len(l), brief(l), brief(b), e, want)
	}
}

// reads holds that Decode tells what the chapter's words do, and what follows of it.
func reads(t *testing.T, l []byte) {
	t.Helper()
	want, err := readOf(l)
	if err != api.OK {
		refuses(t, l, err)
		return
	}
	decodes(t, l, want)
	b, _ := block.Decode(l)
	if again, e := block.Encode(b); !block.Right(b) || e != api.OK || !bytes.Equal(again, l) {
		t.Errorf("Decode of %s, encoded again: %s, %d, Right %v", brief(l), brief(again), e, block.Right(b))
	}
}

// TestP16_1_Example holds the chapter's example.
func TestP16_1_Example(t *testing.T) {
	l, e := block.Encode(api.Block{Hash: api.Id{5}, Parent: api.Id{6}})
	if e != api.OK || len(l) != 65 || l[64] != 0 {
		t.Errorf("Encode of a block without Txids: %v, %d", l, e)
	}
	decodes(t, l, api.Block{Hash: api.Id{5}, Parent: api.Id{6}})
}

// TestP16_1_Bytes holds bytes that are written out.
func TestP16_1_Bytes(t *testing.T) {
	rising := func(from byte) []byte {
		var l []byte
		for i := range byte(idSize) {
			l = append(l, from+i)
		}
		return l
	}
	hash, parent, a, b := rising(0), rising(32), rising(100), rising(224)
	for _, known := range []struct {
		b api.Block
		l []byte
	}{
		{api.Block{Hash: api.Id(hash), Parent: api.Id(parent)}, bytes.Join([][]byte{hash, parent, {0}}, nil)},
		{api.Block{Hash: api.Id(parent), Parent: api.Id(hash)}, bytes.Join([][]byte{parent, hash, {0}}, nil)},
		{api.Block{Hash: api.Id(hash), Parent: api.Id(parent), Txids: []api.Id{api.Id(a)}}, bytes.Join([][]byte{hash, parent, {1}, a}, nil)},
		{api.Block{Hash: api.Id(hash), Parent: api.Id(parent), Txids: []api.Id{api.Id(a), api.Id(b)}}, bytes.Join([][]byte{hash, parent, {2}, a, b}, nil)},
		{api.Block{Hash: api.Id(hash), Parent: api.Id(parent), Txids: []api.Id{api.Id(b), api.Id(a)}}, bytes.Join([][]byte{hash, parent, {2}, b, a}, nil)},
		{api.Block{Parent: api.Id(parent), Txids: []api.Id{{}}}, bytes.Join([][]byte{filled(32, 0), parent, {1}, filled(32, 0)}, nil)},
		{api.Block{Hash: api.Id(hash), Txids: []api.Id{{}, api.Id(hash)}}, bytes.Join([][]byte{hash, filled(32, 0), {2}, filled(32, 0), hash}, nil)},
	} {
		if !bytes.Equal(bytesOf(known.b), known.l) {
			t.Fatalf("the test's own bytes of %s", brief(known.b))
		}
		encodes(t, known.b)
		decodes(t, known.l, known.b)
	}
}

// TestP16_1_Txids holds blocks of each number of Txids, from none to more than one more than may be.
func TestP16_1_Txids(t *testing.T) {
	encodes(t, of())
	encodes(t, of([]api.Id{}...))
	encodes(t, of(make([]api.Id, 0, 40)...))
	encodes(t, of(api.Id{}))
	for n := range maxTxids + 1 {
		encodes(t, of(ids(n)...))
		decodes(t, bytesOf(of(ids(n)...)), of(ids(n)...))
	}
	for _, n := range []int{maxTxids + 1, maxTxids + 2, 64, 128, 255, 256, 257, 256 + maxTxids, 256 + maxTxids + 1, 65536, 65536 + 1, 65536 + maxTxids} {
		wrong(t, of(ids(n)...))
	}
}

// TestP16_1_TwiceAlone holds blocks in which just one pair of Txids is the same, at every two places: side by side, the first and the last, and far apart.
func TestP16_1_TwiceAlone(t *testing.T) {
	for _, n := range []int{2, 3, 4, 7, 16, maxTxids - 1, maxTxids} {
		for i := range n {
			for j := range i {
				b := of(ids(n)...)
				b.Txids[i] = b.Txids[j]
				wrong(t, b)
				refuses(t, bytesOf(b), api.ErrForm)
			}
		}
	}
	for _, id := range []api.Id{{}, {0: 1}, {31: 1}, api.Id(filled(32, 255)), of().Hash, of().Parent} {
		wrong(t, of(id, id))
		wrong(t, of(id, id, id))
		wrong(t, of(id, numbered(1), id))
	}
}

// TestP16_1_OneByteApart holds Txids that part in one byte alone, each in turn, side by side and far apart: they are not the same.
func TestP16_1_OneByteApart(t *testing.T) {
	r := rand.New(rand.NewSource(1))
	for _, id := range []api.Id{{}, numbered(40), api.Id(filled(32, 255)), drawnId(r)} {
		for at := range idSize {
			for _, mask := range []byte{1, 2, 128, 255} {
				other := turned(id, at, mask)
				encodes(t, of(id, other))
				encodes(t, of(other, numbered(7), id))
				decodes(t, bytesOf(of(id, other)), of(id, other))
				full := of(ids(maxTxids)...)
				full.Txids[0], full.Txids[maxTxids-1] = id, other
				encodes(t, full)
				wrong(t, of(id, other, id))
				wrong(t, of(other, id, other))
			}
		}
	}
	var each []api.Id // that part in one byte, each of them in another one
	for at := range idSize {
		each = append(each, turned(numbered(40), at, 1))
	}
	encodes(t, of(each...))
	decodes(t, bytesOf(of(each...)), of(each...))
}

// TestP16_1_HashAndParent holds a Hash that is the Parent, and such as part from it in one byte.
func TestP16_1_HashAndParent(t *testing.T) {
	r := rand.New(rand.NewSource(2))
	for _, id := range []api.Id{{}, {0: 1}, numbered(40), api.Id(filled(32, 255)), drawnId(r), drawnId(r)} {
		for _, n := range []int{0, 1, 5, maxTxids} {
			self := api.Block{Hash: id, Parent: id, Txids: ids(n)}
			wrong(t, self)
			refuses(t, bytesOf(self), api.ErrForm)
			for at := range idSize {
				for _, mask := range []byte{1, 128, 255} {
					b := api.Block{Hash: id, Parent: turned(id, at, mask), Txids: ids(n)}
					encodes(t, b)
					decodes(t, bytesOf(b), b)
					b.Hash, b.Parent = b.Parent, b.Hash
					encodes(t, b)
				}
			}
		}
	}
}

// TestP16_1_OwnIdsAsTxids holds that a Txid may be the Hash, or the Parent, or both may stand among them, at each place.
func TestP16_1_OwnIdsAsTxids(t *testing.T) {
	for _, n := range []int{1, 2, 3, maxTxids} {
		for at := range n {
			for _, own := range []api.Id{of().Hash, of().Parent} {
				b := of(ids(n)...)
				b.Txids[at] = own
				encodes(t, b)
				decodes(t, bytesOf(b), b)
			}
		}
	}
	encodes(t, of(of().Hash, of().Parent))
	encodes(t, of(of().Parent, of().Hash))
	wrong(t, of(of().Parent, of().Hash, of().Parent))
	encodes(t, api.Block{Parent: api.Id{1}, Txids: []api.Id{{}}})
	encodes(t, api.Block{Hash: api.Id{1}, Txids: []api.Id{{}}})
}

// TestP16_1_EveryMix holds all blocks of few ids: each Hash, each Parent, and each list of up to four Txids.
func TestP16_1_EveryMix(t *testing.T) {
	few := []api.Id{{}, {0: 1}, {31: 1}, {15: 1}}
	lists := [][]api.Id{nil}
	for from := 0; len(lists[from]) < 4; from++ {
		for _, id := range few {
			lists = append(lists, append(slices.Clone(lists[from]), id))
		}
	}
	for _, hash := range few {
		for _, parent := range few {
			for _, l := range lists {
				b := api.Block{Hash: hash, Parent: parent, Txids: l}
				judged(t, b)
				reads(t, bytesOf(b))
			}
		}
	}
}

// TestP16_1_WithOneMore holds that one Txid more than may be is one too many, be it the same as another or not.
func TestP16_1_WithOneMore(t *testing.T) {
	for i := range maxTxids {
		wrong(t, of(append(ids(maxTxids), numbered(i))...))
	}
	wrong(t, of(append(ids(maxTxids), numbered(maxTxids))...))
	for _, b := range strange() {
		wrong(t, b)
	}
}

// TestP16_1_Beginnings reads each beginning of what was encoded, and those bytes with bytes behind.
func TestP16_1_Beginnings(t *testing.T) {
	for _, b := range some() {
		l := bytesOf(b)
		for end := range l {
			refuses(t, l[:end], api.ErrShort)
		}
		decodes(t, l, b)
		for _, more := range [][]byte{{0}, {1}, {255}, filled(31, 0), filled(32, 9), l, filled(1<<16, 9)} {
			refuses(t, with(l, more...), api.ErrLong)
		}
	}
	refuses(t, nil, api.ErrShort)
	refuses(t, []byte{}, api.ErrShort)
	refuses(t, make([]byte, 0, 200), api.ErrShort)
}

// TestP16_1_TxidNumber reads each number of Txids with fewer, as many and more of them: one that may not be is told ahead of these, be they there or not.
func TestP16_1_TxidNumber(t *testing.T) {
	for n := range 256 {
		head := changed(bytesOf(of()), 64, byte(n))
		all := with(head, bytesOf(of(ids(n)...))[headSize:]...)
		there := []int{0, 1, 31, 32, 33, n*idSize - 1, n * idSize, n*idSize + 1, (n + 1) * idSize, maxTxids * idSize, (maxTxids + 1) * idSize}
		for _, size := range there {
			l := with(all, filled((maxTxids+2)*idSize, 200)...)[:headSize+max(0, size)]
			if n > maxTxids {
				refuses(t, l, api.ErrForm)
			}
			reads(t, l)
		}
	}
	for n := maxTxids + 1; n < 256; n++ {
		refuses(t, changed(bytesOf(of()), 64, byte(n)), api.ErrForm)
		refuses(t, bytesOf(of(make([]api.Id, n)...)), api.ErrForm)
		refuses(t, append(bytesOf(of(ids(n)...)), filled(1<<16, 255)...), api.ErrForm)
	}
	// Of another number the bytes are too few, or too many.
	l := bytesOf(of(ids(4)...))
	refuses(t, changed(l, 64, 5), api.ErrShort)
	refuses(t, changed(l, 64, 3), api.ErrLong)
	refuses(t, changed(l, 64, 0), api.ErrLong)
}

// TestP16_1_MayNotBe reads bytes of blocks that may not be: ErrForm, behind ErrShort and ErrLong.
func TestP16_1_MayNotBe(t *testing.T) {
	for _, b := range strange() {
		if len(b.Txids) > maxTxids {
			continue // the number itself is told, ahead of what is behind it
		}
		l := bytesOf(b)
		refuses(t, l, api.ErrForm)
		for end := range l {
			refuses(t, l[:end], api.ErrShort)
		}
		for _, more := range [][]byte{{0}, {1}, filled(32, 9), l, filled(1<<16, 9)} {
			refuses(t, with(l, more...), api.ErrLong)
		}
	}
}

// TestP16_1_FirstFault reads bytes in which two faults stand one behind the other: the one that is named first is told.
func TestP16_1_FirstFault(t *testing.T) {
	one := api.Id{9}
	head := func(hash, parent api.Id, n byte) []byte { return append(append(hash[:], parent[:]...), n) }
	self := func(n byte) []byte { return head(one, one, n) }
	right := func(n byte) []byte { return head(one, api.Id{8}, n) }
	for _, known := range []struct {
		l []byte
		e api.Errno
	}{
		{self(0), api.ErrForm},                                                       // its Hash is its Parent
		{self(0)[:64], api.ErrShort},                                                 // its Hash is its Parent, then no number
		{self(0)[:63], api.ErrShort},                                                 // its Hash would be its Parent, but for a byte
		{self(1), api.ErrShort},                                                      // its Hash is its Parent, then no Txid
		{with(self(1), filled(31, 9)...), api.ErrShort},                              // its Hash is its Parent, then a byte of a Txid less
		{with(self(0), 0), api.ErrLong},                                              // its Hash is its Parent, then a byte behind
		{with(self(1), filled(33, 9)...), api.ErrLong},                               // its Hash is its Parent, then a byte behind a Txid
		{with(self(2), filled(64, 9)...), api.ErrForm},                               // its Hash is its Parent, then a Txid twice
		{with(self(2), filled(65, 9)...), api.ErrLong},                               // its Hash is its Parent, then a Txid twice, then a byte behind
		{with(self(2), filled(63, 9)...), api.ErrShort},                              // its Hash is its Parent, then a byte of a Txid less
		{self(33), api.ErrForm},                                                      // its Hash is its Parent, then too many Txids, that lack
		{with(self(33), filled(33*32, 9)...), api.ErrForm},                           // its Hash is its Parent, then too many Txids
		{right(33), api.ErrForm},                                                     // too many Txids, that lack
		{with(right(33), filled(33*32-1, 9)...), api.ErrForm},                        // too many Txids, then too few bytes
		{with(right(33), filled(33*32+1, 9)...), api.ErrForm},                        // too many Txids, then a byte behind
		{with(right(255), filled(64, 9)...), api.ErrForm},                            // too many Txids, that lack, and are the same
		{with(right(2), filled(63, 9)...), api.ErrShort},                             // a Txid would be there twice, but for a byte
		{with(right(3), filled(64, 9)...), api.ErrShort},                             // a Txid twice, then none
		{with(right(3), filled(95, 9)...), api.ErrShort},                             // a Txid twice, then a byte of one less
		{with(right(2), filled(64, 9)...), api.ErrForm},                              // a Txid twice
		{with(right(2), filled(65, 9)...), api.ErrLong},                              // a Txid twice, then a byte behind
		{with(right(2), filled(96, 9)...), api.ErrLong},                              // a Txid twice, then one behind
		{with(right(1), filled(64, 9)...), api.ErrLong},                              // a Txid, then the same one behind
		{with(right(0), filled(64, 9)...), api.ErrLong},                              // no Txid, then two that are the same behind
		{with(right(32), bytesOf(of(ids(32)...))[headSize+1:]...), api.ErrShort},     // as many as may be, then a byte less
		{append(with(right(32), filled(32*32, 9)...), right(33)...), api.ErrLong},    // a Txid 32 times, then bytes behind, that hold too many
		{append(bytesOf(of(ids(32)...)), bytesOf(of())...), api.ErrLong},             // a block, then another one
		{append(with(right(1), one[:]...), with(self(0), 3)...), api.ErrLong},        // a block, then one whose Hash is its Parent
		{append(right(1)[:64], append([]byte{0}, filled(32, 9)...)...), api.ErrLong}, // no Txid, then one behind
		{filled(64, 255), api.ErrShort},                                              // no number
		{filled(65, 255), api.ErrForm},                                               // too many Txids, that lack
		{filled(65, 0), api.ErrForm},                                                 // its Hash is its Parent
		{filled(66, 0), api.ErrLong},                                                 // its Hash is its Parent, then a byte behind
	} {
		if _, e := readOf(known.l); e != known.e {
			t.Fatalf("the test's own reading of %s: %d; not %d", brief(known.l), e, known.e)
		}
		refuses(t, known.l, known.e)
	}
}

// TestP16_1_DecodeTurned reads bytes of blocks in which one byte was made another, was left out, or was put in, and holds each against the chapter's words.
func TestP16_1_DecodeTurned(t *testing.T) {
	r := rand.New(rand.NewSource(3))
	for range 12 {
		l := bytesOf(drawnBlock(r))
		for at := range l {
			for _, to := range []byte{0, l[at] - 1, l[at] + 1, l[at] ^ 128, 32, 33} {
				reads(t, changed(l, at, to))
			}
			reads(t, slices.Delete(bytes.Clone(l), at, at+1))
			reads(t, slices.Insert(bytes.Clone(l), at, byte(r.Intn(256))))
		}
	}
}

// TestP16_1_DecodeDrawn reads drawn bytes of few values, so that ids are often the same, and holds each against the chapter's words.
func TestP16_1_DecodeDrawn(t *testing.T) {
	r := rand.New(rand.NewSource(4))
	told := map[api.Errno]int{}
	for range 20000 {
		n := r.Intn(8)
		var l []byte
		for range n + 2 {
			id := make([]byte, idSize)
			id[[]int{0, 16, 31}[r.Intn(3)]] = byte(r.Intn(4))
			l = append(l, id...)
		}
		l = slices.Insert(l, 64, byte(n))
		switch r.Intn(6) {
		case 0:
			l = l[:r.Intn(len(l))]
		case 1:
			l = append(l, drawn(r, 1+r.Intn(40))...)
		case 2:
			l[64] = byte(r.Intn(256))
		}
		reads(t, l)
		_, e := readOf(l)
		told[e]++
	}
	for _, e := range []api.Errno{api.OK, api.ErrShort, api.ErrLong, api.ErrForm} {
		if told[e] < 500 {
			t.Errorf("%d was told %d times alone", e, told[e])
		}
	}
}

// TestP16_1_Unchanged holds that what was handed in is as it was, and that nothing of it is kept or handed out.
func TestP16_1_Unchanged(t *testing.T) {
	for _, b := range append(some(), strange()...) {
		b = twin(b)
		was := twin(b)
		block.Right(b)
		l, e := block.Encode(b)
		untouched(t, "Right or Encode", b, was)
		spoil(b.Txids)
		if e == api.OK && !bytes.Equal(l, bytesOf(was)) {
			t.Errorf("the bytes go on with the block: %s", brief(l))
		}
	}
	for _, b := range some() {
		size := len(bytesOf(b))
		for _, end := range []int{0, 1, headSize - 1, headSize, size - 1, size, size + 1} {
			all := append(bytesOf(b), filled(90, 8)...)
			was := bytes.Clone(all)
			got, e := block.Decode(all[:end])
			if !bytes.Equal(all, was) {
				t.Error("Decode changed bytes")
			}
			for i := range all {
				all[i] ^= 0xa5
			}
			if e == api.OK && !alike(got, b) {
				t.Errorf("the block goes on with the bytes: %s", brief(got))
			}
		}
	}
}

// TestP16_1_AnswersAreNew changes what was answered: no other answer changes.
func TestP16_1_AnswersAreNew(t *testing.T) {
	for _, b := range some() {
		l, _ := block.Encode(b)
		again, _ := block.Encode(b)
		all := l[:cap(l)]
		for i := range all {
			all[i] ^= 0xa5
		}
		if !bytes.Equal(again, bytesOf(b)) {
			t.Errorf("two answers of Encode share memory: %s", brief(again))
		}
		got, _ := block.Decode(again)
		other, _ := block.Decode(again)
		spoil(got.Txids)
		if !alike(other, b) || !bytes.Equal(again, bytesOf(b)) {
			t.Errorf("an answer of Decode shares memory: %s", brief(other))
		}
	}
}

// TestP16_2_Has finds each Txid, and none that parts from it in one byte, nor the Hash or the Parent where they are none.
func TestP16_2_Has(t *testing.T) {
	for _, b := range append(some(), strange()...) {
		b = twin(b)
		was := twin(b)
		has := func(id api.Id) {
			t.Helper()
			want := false
			for _, own := range b.Txids {
				want = want || own == id
			}
			if block.Has(b, id) != want {
				t.Errorf("Has of %v in %s: not %v", id, brief(b), want)
			}
		}
		for i, id := range b.Txids {
			if !block.Has(b, id) {
				t.Errorf("Has of the Txid %d in %s: false", i, brief(b))
			}
			for at := range idSize {
				has(turned(id, at, 1))
				has(turned(id, at, 128))
			}
		}
		has(b.Hash)
		has(b.Parent)
		has(api.Id{})
		has(api.Id(filled(32, 255)))
		for i := range 40 {
			has(numbered(i))
		}
		untouched(t, "Has", b, was)
	}
}

// TestP16_2_HasOwnIds holds that the Hash and the Parent are found just where they are Txids too.
func TestP16_2_HasOwnIds(t *testing.T) {
	hash, parent := of().Hash, of().Parent
	for _, known := range []struct {
		b            api.Block
		hash, parent bool
	}{
		{of(), false, false},
		{of(numbered(1), numbered(2)), false, false},
		{of(numbered(1), hash), true, false},
		{of(parent, numbered(1)), false, true},
		{of(parent, hash), true, true},
		{of(turned(hash, 0, 1), turned(parent, 31, 1)), false, false},
		{of(hash, hash), true, false},
	} {
		if block.Has(known.b, hash) != known.hash || block.Has(known.b, parent) != known.parent {
			t.Errorf("Has of the Hash and of the Parent in %s: %v, %v", brief(known.b), block.Has(known.b, hash), block.Has(known.b, parent))
		}
	}
	if block.Has(api.Block{}, api.Id{}) || block.Has(api.Block{Txids: make([]api.Id, 0, 4)}, api.Id{}) {
		t.Error("Has in no Txid")
	}
	if !block.Has(api.Block{Txids: make([]api.Id, 1)}, api.Id{}) {
		t.Error("Has of the id of bytes 0, which is there")
	}
}

// TestP16_2_Few holds what is written out: a hint that none has, one has, and several have, in their order, not in that of their bytes.
func TestP16_2_Few(t *testing.T) {
	a, b, c := api.Id{0: 5, 31: 3}, api.Id{0: 5, 31: 1}, api.Id{0: 5, 16: 2}
	x, y := api.Id{0: 5, 15: 1}, api.Id{16: 5}
	for _, known := range []struct {
		b    api.Block
		h    api.Hint
		want []api.Id
	}{
		{of(), api.Hint{}, nil},
		{of(), api.Hint{0: 5}, nil},
		{of(a), api.Hint{0: 5}, []api.Id{a}},
		{of(x, a, y), api.Hint{0: 5}, []api.Id{a}},
		{of(x, y), api.Hint{0: 5}, nil},
		{of(a, x, b, y, c), api.Hint{0: 5}, []api.Id{a, b, c}},
		{of(c, y, x, b, a), api.Hint{0: 5}, []api.Id{c, b, a}},
		{of(b, c, a), api.Hint{0: 5}, []api.Id{b, c, a}},
		{of(a, x, b), api.Hint{0: 5, 15: 1}, []api.Id{x}},
		{of(a, x, y), api.Hint{}, []api.Id{y}},
		{of(a, x, api.Id{}, y), api.Hint{}, []api.Id{{}, y}},
		{of(a, b, a), api.Hint{0: 5}, []api.Id{a, b, a}},
		{of(a, a), api.Hint{0: 5}, []api.Id{a, a}},
		{api.Block{Hash: a, Parent: b}, api.Hint{0: 5}, nil},
		{api.Block{Hash: a, Parent: a, Txids: []api.Id{c, x}}, api.Hint{0: 5}, []api.Id{c}},
		{api.Block{}, api.Hint{}, nil},
		{api.Block{Txids: make([]api.Id, 40)}, api.Hint{}, make([]api.Id, 40)},
	} {
		hinted(t, known.b, known.h, known.want)
	}
}

// hinted holds what Hinted answers.
func hinted(t *testing.T, b api.Block, h api.Hint, want []api.Id) {
	t.Helper()
	if l := block.Hinted(b, h); !slices.Equal(l, want) {
		t.Errorf("Hinted of %v in %s: %v, not %v", h, brief(b), l, want)
	}
}

// withHint are the Txids with a hint by the chapter's words: it is the first half of an id.
func withHint(b api.Block, h api.Hint) []api.Id {
	var l []api.Id
	for _, id := range b.Txids {
		if string(id[:hintSize]) == string(h[:]) {
			l = append(l, id)
		}
	}
	return l
}

// TestP16_2_Hinted asks for the hint of each Txid of blocks of any kind, and for such as part from it in one byte.
func TestP16_2_Hinted(t *testing.T) {
	for _, b := range append(some(), strange()...) {
		b = twin(b)
		was := twin(b)
		for _, id := range append(slices.Clone(b.Txids), b.Hash, b.Parent, api.Id{}, api.Id(filled(32, 255))) {
			h := seal.HintOf(id)
			hinted(t, b, h, withHint(b, h))
			hinted(t, b, api.Hint(id[hintSize:]), withHint(b, api.Hint(id[hintSize:])))
			for at := range hintSize {
				h[at] ^= 1
				hinted(t, b, h, withHint(b, h))
				h[at] ^= 1
			}
		}
		untouched(t, "Hinted", b, was)
	}
}

// TestP16_2_HintedDrawn asks for hints in blocks of up to forty Txids, several of which share one, also such as stand twice.
func TestP16_2_HintedDrawn(t *testing.T) {
	r := rand.New(rand.NewSource(5))
	for range 500 {
		var b api.Block
		for range r.Intn(40) {
			b.Txids = append(b.Txids, api.Id{0: byte(r.Intn(2)), 15: byte(r.Intn(2)), 16: byte(r.Intn(3)), 31: byte(r.Intn(3))})
		}
		for _, h := range []api.Hint{{}, {0: 1}, {15: 1}, {0: 1, 15: 1}, {7: 1}} {
			hinted(t, b, h, withHint(b, h))
		}
	}
}

// TestP16_2_HintedIsNew changes what was answered: neither the block nor another answer changes; nor does an answer go on with the block.
func TestP16_2_HintedIsNew(t *testing.T) {
	for _, n := range []int{1, 2, 5, maxTxids} {
		b := api.Block{Txids: make([]api.Id, n, n+7)}
		for i := range b.Txids {
			b.Txids[i] = api.Id{0: 5, 31: byte(i)}
		}
		was := twin(b)
		l, other := block.Hinted(b, api.Hint{5}), block.Hinted(b, api.Hint{5})
		_ = append(l, api.Id{99})
		spoil(l)
		untouched(t, "Hinted, or a change of what it answered,", b, was)
		spoil(b.Txids)
		if !slices.Equal(other, was.Txids) {
			t.Errorf("an answer of Hinted shares memory: %v", other)
		}
	}
}

// TestP16_2_Child holds blocks that stand on another, that part from it in one byte, and that stand on themselves.
func TestP16_2_Child(t *testing.T) {
	child := func(parent, b api.Block, want bool) {
		t.Helper()
		if block.Child(parent, b) != want {
			t.Errorf("Child of %s, %s: not %v", brief(parent), brief(b), want)
		}
	}
	a, b, c := numbered(1), numbered(2), numbered(3)
	child(api.Block{Hash: a}, api.Block{Hash: b, Parent: a}, true)
	child(api.Block{Hash: b, Parent: a}, api.Block{Hash: a}, false)                     // the other way round
	child(api.Block{Hash: a, Parent: b}, api.Block{Hash: b, Parent: c}, false)          // the parent stands on the block
	child(api.Block{Hash: a, Parent: c}, api.Block{Hash: b, Parent: c}, false)          // both stand on one
	child(api.Block{Hash: a, Parent: c}, api.Block{Hash: a, Parent: c}, false)          // one block, twice
	child(api.Block{Hash: a, Parent: a}, api.Block{Hash: a, Parent: a}, true)           // one that stands on itself
	child(api.Block{Hash: a, Parent: b}, api.Block{Hash: b, Parent: a}, true)           // each stands on the other
	child(api.Block{}, api.Block{}, true)                                               // both are bytes 0
	child(api.Block{Hash: a}, api.Block{}, false)                                       // the Parent is bytes 0
	child(api.Block{}, api.Block{Hash: a}, true)                                        // on a Hash of bytes 0
	child(of(ids(40)...), api.Block{Parent: of().Hash, Txids: []api.Id{b, b}}, true)    // both may not be
	child(of(ids(40)...), api.Block{Parent: of().Parent, Txids: []api.Id{b, b}}, false) // both may not be
	child(api.Block{Txids: []api.Id{a}}, api.Block{Hash: b, Parent: a}, false)          // on a Txid
	child(api.Block{Hash: a}, api.Block{Hash: b, Txids: []api.Id{a}}, false)            // the Hash is a Txid
	for at := range idSize {
		child(api.Block{Hash: a}, api.Block{Hash: b, Parent: turned(a, at, 1)}, false)
		child(api.Block{Hash: turned(a, at, 128)}, api.Block{Hash: b, Parent: a}, false)
		child(api.Block{Hash: turned(a, at, 255)}, api.Block{Parent: turned(a, at, 255)}, true)
	}
	for _, x := range append(some(), strange()...) {
		for _, y := range append(some(), strange()...) {
			child(x, y, x.Hash == y.Parent)
		}
	}
}

// same holds what Same answers, either way round.
func same(t *testing.T, a, b api.Block, want bool) {
	t.Helper()
	if block.Same(a, b) != want || block.Same(b, a) != want {
		t.Errorf("Same of %s and %s: not %v", brief(a), brief(b), want)
	}
}

// TestP16_2_Same holds blocks against those that are alike, and against those that part in the Hash, the Parent, in how many Txids they have, in their order, and in a byte of one.
func TestP16_2_Same(t *testing.T) {
	for _, b := range append(some(), strange()...) {
		b = twin(b)
		was := twin(b)
		same(t, b, b, true)
		same(t, b, twin(b), true)
		for at := range idSize {
			x := twin(b)
			x.Hash[at] ^= 1
			same(t, b, x, false)
			x = twin(b)
			x.Parent[at] ^= 128
			same(t, b, x, false)
		}
		for i := range b.Txids {
			for _, at := range []int{0, 15, 16, 31} {
				x := twin(b)
				x.Txids[i][at] ^= 1
				same(t, b, x, false)
			}
			x := twin(b)
			x.Txids = slices.Delete(x.Txids, i, i+1)
			same(t, b, x, false)
			x = twin(b)
			x.Txids = slices.Insert(x.Txids, i, b.Txids[i])
			same(t, b, x, false)
			for j := range i {
				x := twin(b)
				x.Txids[i], x.Txids[j] = x.Txids[j], x.Txids[i]
				same(t, b, x, b.Txids[i] == b.Txids[j])
			}
		}
		x := twin(b)
		x.Txids = append(x.Txids, api.Id{})
		same(t, b, x, false)
		untouched(t, "Same", b, was)
	}
}

// TestP16_2_SameFew holds few blocks against each other: each is the same as itself alone.
func TestP16_2_SameFew(t *testing.T) {
	a, b := numbered(1), numbered(2)
	l := []api.Block{
		{}, {Hash: a}, {Parent: a}, {Hash: a, Parent: a}, {Hash: a, Parent: b}, {Hash: b, Parent: a},
		{Txids: []api.Id{a}}, {Txids: []api.Id{b}}, {Txids: []api.Id{a, a}}, {Txids: []api.Id{a, b}}, {Txids: []api.Id{b, a}}, {Txids: []api.Id{a, b, a}}, {Txids: []api.Id{a, b, b}},
		{Txids: []api.Id{{}}}, {Txids: make([]api.Id, 2)}, {Hash: a, Txids: []api.Id{a}}, {Parent: a, Txids: []api.Id{a}}, of(ids(33)...), of(ids(32)...),
	}
	for i, x := range l {
		for j, y := range l {
			same(t, x, y, i == j)
		}
	}
	same(t, api.Block{}, api.Block{Txids: []api.Id{}}, true)
	same(t, of(), of(make([]api.Id, 0, 9)...), true)
	same(t, of(ids(5)...), roomy(), true)
}

// TestP16_2_Copy holds that a copy is the same, and apart either way.
func TestP16_2_Copy(t *testing.T) {
	for _, b := range append(some(), strange()...) {
		b = twin(b)
		was := twin(b)
		x, again := block.Copy(b), block.Copy(b)
		if !alike(x, b) || !block.Same(x, b) {
			t.Errorf("Copy of %s: %s", brief(b), brief(x))
		}
		_ = append(x.Txids, api.Id{77})
		_ = append(x.Txids[:0], api.Id{78})
		spoil(x.Txids)
		untouched(t, "Copy, or a change of the copy,", b, was)
		spoil(b.Txids)
		if !alike(again, was) {
			t.Errorf("a copy goes on with the block: %s, not %s", brief(again), brief(was))
		}
	}
}

// TestP16_3_ThereAndBack holds that what was encoded is decoded, and that what is decoded may be and, encoded again, is those bytes.
func TestP16_3_ThereAndBack(t *testing.T) {
	r := rand.New(rand.NewSource(6))
	l := some()
	for range 3000 {
		l = append(l, drawnBlock(r))
	}
	for _, b := range l {
		enc, e := block.Encode(b)
		if e != api.OK {
			t.Fatalf("Encode of %s: %d", brief(b), e)
		}
		x, e := block.Decode(enc)
		if e != api.OK || !alike(b, x) || !block.Same(b, x) || !block.Right(x) {
			t.Errorf("%s came back as %s, %d", brief(b), brief(x), e)
		}
		reads(t, enc)
	}
}

// TestP16_3_AsTheReaderReads holds that the bytes are such as a reader reads, piece by piece.
func TestP16_3_AsTheReaderReads(t *testing.T) {
	for _, b := range some() {
		l, _ := block.Encode(b)
		r := reader.New(l)
		if hash := r.Id(); hash != b.Hash {
			t.Errorf("the Hash: %v", hash)
		}
		if parent := r.Id(); parent != b.Parent {
			t.Errorf("the Parent: %v", parent)
		}
		if n := r.Num(1); n != uint64(len(b.Txids)) {
			t.Errorf("%d Txids", n)
		}
		if txids := r.Ids(len(b.Txids)); !slices.Equal(txids, b.Txids) {
			t.Errorf("the Txids: %v", txids)
		}
		if e := r.Done(); e != api.OK {
			t.Errorf("%d behind the Txids", e)
		}
	}
}
