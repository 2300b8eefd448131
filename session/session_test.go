package session_test

import (
	"fmt"
	"math"
	"math/rand"
	"slices"
	"testing"

	"mirador/api"
	"mirador/session"
)

// The limits, as numbers of the test's own.
const (
	maxQuota = 64
	greatest = math.MaxUint32 // of an ID, a Quota, a seq, a height
)

// ids are IDs at the edges, in no order; as numbers with a sign some would be below others.
var ids = []uint32{7, greatest, 1 << 31, 0, 256, 1, 1<<31 - 1, 255, 1<<31 + 1, 65536, greatest - 1, 3}

// heights are heights at the edges.
var heights = []uint32{0, 1, 4, 5, 6, 9, 10, 11, 255, 256, 1<<31 - 1, 1 << 31, greatest - 1, greatest}

// model is a table by the chapter's words: its sessions stand in the order in which they were granted.
type model struct {
	most int
	all  []api.Session
}

// at is a session's place; -1: there is none.
func (m *model) at(id uint32) int {
	for i, s := range m.all {
		if s.ID == id {
			return i
		}
	}
	return -1
}

// room is for how many more there is room.
func (m *model) room() int { return max(m.most, 0) - len(m.all) }

func (m *model) grant(s api.Session) api.Errno {
	switch {
	case s.Quota == 0, s.Quota > maxQuota, s.Used > s.Quota:
		return api.ErrArg
	case m.at(s.ID) >= 0:
		return api.ErrTwice
	case m.room() == 0:
		return api.ErrMany
	}
	m.all = append(m.all, s)
	return api.OK
}

func (m *model) may(id, seq, height uint32) api.Errno {
	i := m.at(id)
	if i < 0 {
		return api.ErrSession
	}
	if height >= m.all[i].Expiry {
		return api.ErrExpired
	}
	if seq != m.all[i].Used {
		return api.ErrSeq
	}
	if m.all[i].Used == m.all[i].Quota {
		return api.ErrQuota
	}
	return api.OK
}

func (m *model) use(id, seq, height uint32) api.Errno {
	e := m.may(id, seq, height)
	if e == api.OK {
		m.all[m.at(id)].Used++
	}
	return e
}

func (m *model) get(id uint32) (api.Session, bool) {
	if i := m.at(id); i >= 0 {
		return m.all[i], true
	}
	return api.Session{}, false
}

func (m *model) end(id uint32) bool {
	i := m.at(id)
	if i < 0 {
		return false
	}
	m.all = slices.Delete(slices.Clone(m.all), i, i+1)
	return true
}

// before are the IDs of those whose Expiry is less than the height, ascending.
func (m *model) before(height uint32) []uint32 {
	var l []uint32
	for _, s := range m.list() {
		if s.Expiry < height {
			l = append(l, s.ID)
		}
	}
	return l
}

// list are all, the least ID that is left again and again.
func (m *model) list() []api.Session {
	var l []api.Session
	left := slices.Clone(m.all)
	for len(left) > 0 {
		least := 0
		for i := range left {
			if left[i].ID < left[least].ID {
				least = i
			}
		}
		l = append(l, left[least])
		left = slices.Delete(left, least, least+1)
	}
	return l
}

func (m *model) clone() *model { return &model{m.most, slices.Clone(m.all)} }

// is fails, unless a table tells what the model's words say, of each of its sessions, and of some that are none.
func is(t *testing.T, what string, b *session.Table, m *model) {
	t.Helper()
	if l := b.List(); !slices.Equal(l, m.list()) {
		t.Errorf("%s: List: %v, not %v", what, l, m.list())
	}
	if b.Len() != len(m.all) || b.Room() != m.room() {
		t.Errorf("%s: Len %d, Room %d; not %d, %d", what, b.Len(), b.Room(), len(m.all), m.room())
	}
	gone := []uint32{0, 2, greatest}
	edges := []uint32{0, 1, greatest}
	for _, s := range m.all {
		gone = append(gone, s.ID, s.ID+1, s.ID-1)
		edges = append(edges, s.Expiry, s.Expiry+1, s.Expiry-1)
	}
	for _, id := range gone {
		got, ok := b.Get(id)
		if s, there := m.get(id); got != s || ok != there {
			t.Errorf("%s: Get(%d): %v, %v; not %v, %v", what, id, got, ok, s, there)
		}
	}
	for _, height := range edges {
		if l := b.Before(height); !slices.Equal(l, m.before(height)) {
			t.Errorf("%s: Before(%d): %v, not %v", what, height, l, m.before(height))
		}
	}
	if t.Failed() {
		t.FailNow()
	}
}

// pair is a table, and a model to which the same is done.
type pair struct {
	t *testing.T
	b *session.Table
	m *model
}

// made is a table with room for so many.
func made(t *testing.T, most int) pair {
	t.Helper()
	p := pair{t, session.New(most), &model{most: most}}
	if p.b == nil {
		t.Fatalf("New(%d) is nil", most)
	}
	is(t, fmt.Sprintf("New(%d)", most), p.b, p.m)
	return p
}

// same fails, unless the table answers as the model does, and tells the same behind that.
func (p pair) same(what string, got, want api.Errno) api.Errno {
	p.t.Helper()
	if got != want {
		p.t.Errorf("%s: %d, not %d", what, got, want)
	}
	is(p.t, what, p.b, p.m)
	return got
}

func (p pair) grant(s api.Session) api.Errno {
	p.t.Helper()
	return p.same(fmt.Sprintf("Grant(%v)", s), p.b.Grant(s), p.m.grant(s))
}

func (p pair) may(id, seq, height uint32) api.Errno {
	p.t.Helper()
	return p.same(fmt.Sprintf("May(%d, %d, %d)", id, seq, height), p.b.May(id, seq, height), p.m.may(id, seq, height))
}

func (p pair) use(id, seq, height uint32) api.Errno {
	p.t.Helper()
	p.may(id, seq, height)
	e := p.same(fmt.Sprintf("Use(%d, %d, %d)", id, seq, height), p.b.Use(id, seq, height), p.m.use(id, seq, height))
	p.may(id, seq, height)
	return e
}

func (p pair) end(id uint32) bool {
	p.t.Helper()
	got, want := p.b.End(id), p.m.end(id)
	if got != want {
		p.t.Errorf("End(%d): %v, not %v", id, got, want)
	}
	is(p.t, fmt.Sprintf("End(%d)", id), p.b, p.m)
	return got
}

// clone is a pair of clones.
func (p pair) clone() pair {
	p.t.Helper()
	c := pair{p.t, p.b.Clone(), p.m.clone()}
	if c.b == nil || c.b == p.b {
		p.t.Fatal("Clone is nil, or the same table")
	}
	is(p.t, "Clone", c.b, c.m)
	return c
}

// want fails, unless an answer is this one.
func want(t *testing.T, what string, got, want api.Errno) {
	t.Helper()
	if got != want {
		t.Errorf("%s: %d, not %d", what, got, want)
	}
}

// has fails, unless a table has just these sessions, in this order, and room for so many more.
func has(t *testing.T, what string, b *session.Table, room int, l ...api.Session) {
	t.Helper()
	if got := b.List(); !slices.Equal(got, l) {
		t.Errorf("%s: List: %v, not %v", what, got, l)
	}
	if b.Len() != len(l) || b.Room() != room {
		t.Errorf("%s: Len %d, Room %d; not %d, %d", what, b.Len(), b.Room(), len(l), room)
	}
	for _, s := range l {
		if got, ok := b.Get(s.ID); got != s || !ok {
			t.Errorf("%s: Get(%d): %v, %v; not %v", what, s.ID, got, ok, s)
		}
	}
}

// none fails, unless a table tells nothing of an ID.
func none(t *testing.T, what string, b *session.Table, id uint32) {
	t.Helper()
	if s, ok := b.Get(id); ok || s != (api.Session{}) {
		t.Errorf("%s: Get(%d): %v, %v", what, id, s, ok)
	}
	for _, s := range b.List() {
		if s.ID == id {
			t.Errorf("%s: %d is in List", what, id)
		}
	}
	if slices.Contains(b.Before(greatest), id) {
		t.Errorf("%s: %d is in Before", what, id)
	}
	for _, height := range []uint32{0, 9, greatest} {
		for _, seq := range []uint32{0, 1, 2, greatest} {
			want(t, fmt.Sprintf("%s: May(%d, %d, %d)", what, id, seq, height), b.May(id, seq, height), api.ErrSession)
			want(t, fmt.Sprintf("%s: Use(%d, %d, %d)", what, id, seq, height), b.Use(id, seq, height), api.ErrSession)
		}
	}
}

// of is a table with room for so many, and with these sessions.
func of(t *testing.T, most int, l ...api.Session) *session.Table {
	t.Helper()
	b := session.New(most)
	for _, s := range l {
		if e := b.Grant(s); e != api.OK {
			t.Fatalf("Grant(%v): %d", s, e)
		}
	}
	return b
}

// unmade are tables that no call made.
func unmade() map[string]*session.Table {
	return map[string]*session.Table{"nil": nil, "zero value": {}, "new": new(session.Table)}
}

// TestP23_Example holds the chapter's example.
func TestP23_Example(t *testing.T) {
	b := of(t, 1, api.Session{ID: 4, Quota: 1, Expiry: 10})
	want(t, "the seq 0", b.Use(4, 0, 1), api.OK)
	want(t, "the seq 0 again", b.Use(4, 0, 1), api.ErrSeq)
	want(t, "the seq 1", b.Use(4, 1, 1), api.ErrQuota)
}

// TestP23_1_New makes tables with room for some, and for none: so many Grants are let, and no more.
func TestP23_1_New(t *testing.T) {
	for most, room := range map[int]int{math.MinInt: 0, math.MinInt + 1: 0, -1 << 32: 0, 1 - 1<<32: 0, -256: 0, -64: 0, -2: 0, -1: 0, 0: 0, 1: 1, 2: 2, 3: 3, 63: 63, 64: 64, 65: 65, 256: 256, 300: 300} {
		p := made(t, most)
		has(t, fmt.Sprintf("New(%d)", most), p.b, room)
		for i := range room {
			want(t, fmt.Sprintf("New(%d): Grant %d", most, i), p.b.Grant(api.Session{ID: uint32(i), Quota: 1}), api.OK)
			if p.b.Len() != i+1 || p.b.Room() != room-i-1 {
				t.Errorf("New(%d): behind Grant %d: Len %d, Room %d", most, i, p.b.Len(), p.b.Room())
			}
		}
		for range 2 {
			want(t, fmt.Sprintf("New(%d): a Grant more", most), p.b.Grant(api.Session{ID: uint32(room), Quota: 1}), api.ErrMany)
			if p.b.Len() != room || p.b.Room() != 0 {
				t.Errorf("New(%d): Len %d, Room %d at last", most, p.b.Len(), p.b.Room())
			}
		}
		none(t, fmt.Sprintf("New(%d): a Grant more", most), p.b, uint32(room))
	}
}

// TestP23_1_NewOfMuch makes tables with more room than may ever be needed.
func TestP23_1_NewOfMuch(t *testing.T) {
	for _, most := range []int{65535, 65536, 1 << 31, 1<<32 + 1, math.MaxInt - 1, math.MaxInt} {
		p := made(t, most)
		has(t, fmt.Sprintf("New(%d)", most), p.b, most)
		p.grant(api.Session{ID: 1, Quota: 1})
		p.grant(api.Session{ID: 2, Quota: 1})
		if p.b.Room() != most-2 {
			t.Errorf("New(%d): Room %d behind two Grants", most, p.b.Room())
		}
		p.clone().grant(api.Session{ID: 3, Quota: 1})
	}
}

// TestP23_1_NewApart makes two tables: what is done to the one is not seen in the other.
func TestP23_1_NewApart(t *testing.T) {
	p, other := made(t, 2), made(t, 2)
	p.grant(api.Session{ID: 1, Quota: 1, Expiry: 5})
	is(t, "the other", other.b, other.m)
	other.grant(api.Session{ID: 1, Quota: 2, Expiry: 6})
	p.use(1, 0, 0)
	is(t, "the other", other.b, other.m)
	other.end(1)
	is(t, "the one", p.b, p.m)
}

// TestP23_1_Grant grants sessions that may be, and such as may not.
func TestP23_1_Grant(t *testing.T) {
	for _, c := range []struct {
		quota, used uint32
		e           api.Errno
	}{
		{0, 0, api.ErrArg}, {0, 1, api.ErrArg}, {0, greatest, api.ErrArg},
		{1, 0, api.OK}, {1, 1, api.OK}, {1, 2, api.ErrArg}, {1, greatest, api.ErrArg},
		{2, 1, api.OK}, {2, 2, api.OK}, {2, 3, api.ErrArg}, {2, 1 << 31, api.ErrArg}, {2, 256, api.ErrArg}, {2, 1 << 16, api.ErrArg},
		{maxQuota - 1, 0, api.OK}, {maxQuota - 1, maxQuota - 1, api.OK}, {maxQuota - 1, maxQuota, api.ErrArg},
		{maxQuota, 0, api.OK}, {maxQuota, maxQuota - 1, api.OK}, {maxQuota, maxQuota, api.OK}, {maxQuota, maxQuota + 1, api.ErrArg},
		{maxQuota + 1, 0, api.ErrArg}, {maxQuota + 1, maxQuota, api.ErrArg}, {maxQuota + 1, maxQuota + 1, api.ErrArg},
		{255, 0, api.ErrArg}, {256, 0, api.ErrArg}, {257, 1, api.ErrArg}, {1<<16 + 1, 0, api.ErrArg}, {1 << 31, 0, api.ErrArg}, {1<<31 + 1, 0, api.ErrArg}, {greatest, 0, api.ErrArg}, {greatest, greatest, api.ErrArg},
	} {
		for _, id := range ids {
			for _, expiry := range []uint32{0, 1, 9, 1 << 31, greatest} {
				p := made(t, 2)
				s := api.Session{ID: id, Quota: c.quota, Used: c.used, Expiry: expiry}
				want(t, fmt.Sprintf("Grant(%v)", s), p.grant(s), c.e)
				if c.e == api.OK {
					has(t, fmt.Sprintf("Grant(%v)", s), p.b, 1, s)
				} else {
					has(t, fmt.Sprintf("Grant(%v)", s), p.b, 2)
					none(t, fmt.Sprintf("Grant(%v)", s), p.b, id)
				}
			}
		}
	}
}

// TestP23_1_EachQuota grants each Quota up to some above the greatest, with each Used up to some above that.
func TestP23_1_EachQuota(t *testing.T) {
	for quota := range uint32(maxQuota + 3) {
		for used := range quota + 3 {
			s := api.Session{ID: 5, Quota: quota, Used: used, Expiry: 9}
			e := made(t, 1).grant(s)
			if (e == api.OK) != (quota >= 1 && quota <= maxQuota && used <= quota) || e != api.OK && e != api.ErrArg {
				t.Errorf("Grant(%v): %d", s, e)
			}
		}
	}
}

// TestP23_1_GrantTwice grants an ID that is there: the session that is there stays as it is, be the other the same or not.
func TestP23_1_GrantTwice(t *testing.T) {
	for _, id := range ids {
		s := api.Session{ID: id, Quota: 3, Used: 1, Expiry: 9}
		b := of(t, 3, s)
		for _, other := range []api.Session{s, {ID: id, Quota: 1}, {ID: id, Quota: maxQuota, Used: 5, Expiry: greatest}, {ID: id, Quota: 3, Used: 3, Expiry: 9}} {
			want(t, fmt.Sprintf("Grant(%v)", other), b.Grant(other), api.ErrTwice)
			has(t, fmt.Sprintf("Grant(%v)", other), b, 2, s)
			want(t, "May behind that", b.May(id, 1, 8), api.OK)
		}
	}
}

// TestP23_1_GrantFirst holds which error of Grant is told where several hold: ErrArg, then ErrTwice, then ErrMany.
func TestP23_1_GrantFirst(t *testing.T) {
	there := api.Session{ID: 1, Quota: 2, Used: 1, Expiry: 9}
	other := api.Session{ID: 2, Quota: 1, Expiry: 5}
	full, spare := of(t, 2, there, other), of(t, 3, there, other)
	for _, c := range []struct {
		id, quota, used uint32
		full, spare     api.Errno
	}{
		{1, 0, 0, api.ErrArg, api.ErrArg}, {1, 65, 0, api.ErrArg, api.ErrArg}, {1, 2, 3, api.ErrArg, api.ErrArg},
		{3, 0, 0, api.ErrArg, api.ErrArg}, {3, 65, 0, api.ErrArg, api.ErrArg}, {3, 2, 3, api.ErrArg, api.ErrArg},
		{1, 2, 1, api.ErrTwice, api.ErrTwice}, {1, 64, 64, api.ErrTwice, api.ErrTwice}, {2, 1, 0, api.ErrTwice, api.ErrTwice},
		{3, 1, 0, api.ErrMany, api.OK}, {0, 64, 64, api.ErrMany, api.ErrMany}, {greatest, 1, 1, api.ErrMany, api.ErrMany},
	} {
		s := api.Session{ID: c.id, Quota: c.quota, Used: c.used, Expiry: 7}
		want(t, fmt.Sprintf("Grant(%v) without room", s), full.Grant(s), c.full)
		has(t, fmt.Sprintf("Grant(%v) without room", s), full, 0, there, other)
		want(t, fmt.Sprintf("Grant(%v)", s), spare.Grant(s), c.spare)
	}
	for _, most := range []int{math.MinInt, -1, 0} {
		b := session.New(most)
		want(t, "no room: a Quota of 0", b.Grant(api.Session{}), api.ErrArg)
		want(t, "no room: a Quota of 65", b.Grant(api.Session{Quota: 65}), api.ErrArg)
		want(t, "no room: Used above it", b.Grant(api.Session{Quota: 1, Used: 2}), api.ErrArg)
		want(t, "no room", b.Grant(api.Session{Quota: 1}), api.ErrMany)
		has(t, "no room", b, 0)
	}
}

// TestP23_1_RoomAgain grants where another one was ended: there is room for one again, no more.
func TestP23_1_RoomAgain(t *testing.T) {
	p := made(t, 2)
	p.grant(api.Session{ID: 1, Quota: 1})
	p.grant(api.Session{ID: 2, Quota: 1})
	for id := uint32(3); id < 20; id++ {
		want(t, "without room", p.grant(api.Session{ID: id, Quota: 1}), api.ErrMany)
		p.end(id) // there is none: no room comes of it
		want(t, "still without room", p.grant(api.Session{ID: id, Quota: 1}), api.ErrMany)
		p.end(id - 2)
		want(t, "with room", p.grant(api.Session{ID: id, Quota: 1}), api.OK)
		want(t, "without room again", p.grant(api.Session{ID: id - 2, Quota: 1}), api.ErrMany)
	}
}

// TestP23_2_May asks for each answer, and for that which is told where several hold.
func TestP23_2_May(t *testing.T) {
	fresh := api.Session{ID: 1, Quota: 2, Expiry: 10}
	half := api.Session{ID: 2, Quota: 2, Used: 1, Expiry: 10}
	full := api.Session{ID: 3, Quota: 2, Used: 2, Expiry: 10}
	over := api.Session{ID: 4, Quota: 2, Used: 1, Expiry: 0}
	long := api.Session{ID: 5, Quota: 64, Used: 63, Expiry: greatest}
	for _, c := range []struct {
		id, seq, height uint32
		e               api.Errno
	}{
		{0, 0, 0, api.ErrSession}, {6, 0, 0, api.ErrSession}, {greatest, 0, 0, api.ErrSession}, {257, 0, 0, api.ErrSession}, {1 + 1<<31, 0, 0, api.ErrSession},
		{6, 1, 0, api.ErrSession}, {6, 0, 10, api.ErrSession}, {6, 1, greatest, api.ErrSession}, {6, 2, greatest, api.ErrSession},

		{1, 0, 0, api.OK}, {1, 0, 9, api.OK}, {1, 0, 10, api.ErrExpired}, {1, 0, 11, api.ErrExpired}, {1, 0, greatest, api.ErrExpired}, {1, 0, 1 << 31, api.ErrExpired},
		{1, 1, 9, api.ErrSeq}, {1, 2, 9, api.ErrSeq}, {1, greatest, 9, api.ErrSeq}, {1, 256, 9, api.ErrSeq}, {1, 1 << 31, 9, api.ErrSeq},
		{1, 1, 10, api.ErrExpired}, {1, greatest, 11, api.ErrExpired},

		{2, 1, 0, api.OK}, {2, 1, 9, api.OK}, {2, 1, 10, api.ErrExpired}, {2, 1, 11, api.ErrExpired},
		{2, 0, 9, api.ErrSeq}, {2, 2, 9, api.ErrSeq}, {2, greatest, 9, api.ErrSeq}, {2, 257, 9, api.ErrSeq}, {2, 1 + 1<<16, 9, api.ErrSeq}, {2, 1 + 1<<31, 9, api.ErrSeq},
		{2, 0, 10, api.ErrExpired}, {2, 2, 10, api.ErrExpired},

		{3, 2, 0, api.ErrQuota}, {3, 2, 9, api.ErrQuota}, {3, 2, 10, api.ErrExpired}, {3, 2, 11, api.ErrExpired},
		{3, 0, 9, api.ErrSeq}, {3, 1, 9, api.ErrSeq}, {3, 3, 9, api.ErrSeq}, {3, greatest, 9, api.ErrSeq}, {3, 3, 10, api.ErrExpired},

		{4, 1, 0, api.ErrExpired}, {4, 0, 0, api.ErrExpired}, {4, 1, 1, api.ErrExpired}, {4, 1, greatest, api.ErrExpired},

		{5, 63, greatest - 1, api.OK}, {5, 63, greatest, api.ErrExpired}, {5, 63, 1 << 31, api.OK}, {5, 63, 0, api.OK}, {5, 62, greatest - 1, api.ErrSeq}, {5, 64, greatest - 1, api.ErrSeq}, {5, 64, greatest, api.ErrExpired},
	} {
		b := of(t, 9, fresh, half, full, over, long)
		what := fmt.Sprintf("(%d, %d, %d)", c.id, c.seq, c.height)
		for range 3 {
			want(t, "May"+what, b.May(c.id, c.seq, c.height), c.e)
			has(t, "May"+what, b, 4, fresh, half, full, over, long)
		}
		want(t, "Use"+what, b.Use(c.id, c.seq, c.height), c.e)
		l := []api.Session{fresh, half, full, over, long}
		if c.e == api.OK {
			l[c.id-1].Used++
		}
		has(t, "Use"+what, b, 4, l...)
	}
}

// TestP23_2_Heights uses sessions of each Expiry at each height of some at the edges.
func TestP23_2_Heights(t *testing.T) {
	for _, expiry := range heights {
		for _, height := range append([]uint32{expiry - 1, expiry + 1}, heights...) {
			p := made(t, 1)
			p.grant(api.Session{ID: 8, Quota: 3, Used: 1, Expiry: expiry})
			if e := p.use(8, 1, height); (e == api.ErrExpired) != (height >= expiry) || e != api.OK && e != api.ErrExpired {
				t.Errorf("the Expiry %d, Use at %d: %d", expiry, height, e)
			}
			p.use(8, 2, height)
			p.use(8, 2, 0)
		}
	}
}

// TestP23_2_Seqs uses sessions with each Used, with each seq of some about it and at the edges.
func TestP23_2_Seqs(t *testing.T) {
	for used := range uint32(maxQuota + 1) {
		for _, seq := range []uint32{0, 1, used - 2, used - 1, used, used + 1, used + 2, 63, 64, 65, used + 256, used + 1<<16, used + 1<<31, greatest - 1, greatest} {
			p := made(t, 1)
			p.grant(api.Session{ID: 8, Quota: maxQuota, Used: used, Expiry: 9})
			w := api.OK
			if seq != used {
				w = api.ErrSeq
			} else if used == maxQuota {
				w = api.ErrQuota
			}
			want(t, fmt.Sprintf("Used %d, the seq %d", used, seq), p.use(8, seq, 8), w)
		}
	}
}

// TestP23_2_UseOfOne uses one session of several: the others stay as they are.
func TestP23_2_UseOfOne(t *testing.T) {
	l := make([]api.Session, len(ids))
	for i, id := range ids {
		l[i] = api.Session{ID: id, Quota: uint32(i + 1), Used: uint32(i / 2), Expiry: uint32(10 + i)}
	}
	for i, s := range l {
		p := made(t, len(ids))
		for _, one := range l {
			p.grant(one)
		}
		want(t, "the first Use", p.use(s.ID, s.Used, 9), api.OK)
		for _, other := range l {
			used := other.Used
			if other.ID == s.ID {
				used++
			}
			if got, _ := p.b.Get(other.ID); got != (api.Session{ID: other.ID, Quota: other.Quota, Used: used, Expiry: other.Expiry}) {
				t.Errorf("Use of %d: of %v there is %v", s.ID, other, got)
			}
		}
		if i > 1 {
			want(t, "the second Use", p.use(s.ID, s.Used+1, 9), api.OK)
		}
	}
}

// TestP23_2_FullAtFirst uses sessions that are granted with Used at their Quota: none is ever let.
func TestP23_2_FullAtFirst(t *testing.T) {
	for quota := uint32(1); quota <= maxQuota; quota++ {
		p := made(t, 2)
		p.grant(api.Session{ID: 1, Quota: quota, Used: quota, Expiry: 9})
		p.grant(api.Session{ID: 2, Quota: quota, Used: quota - 1, Expiry: 9})
		for range 3 {
			want(t, fmt.Sprintf("the Quota %d", quota), p.use(1, quota, 8), api.ErrQuota)
		}
		want(t, "one below it", p.use(2, quota-1, 8), api.OK)
		want(t, "at it", p.use(2, quota, 8), api.ErrQuota)
	}
}

// TestP23_3_Get tells sessions that are there, and such as are not.
func TestP23_3_Get(t *testing.T) {
	var l []api.Session
	for i, id := range ids {
		l = append(l, api.Session{ID: id, Quota: uint32(i + 2), Used: uint32(i), Expiry: heights[i]})
	}
	b := of(t, 100, l...)
	for _, s := range l {
		if got, ok := b.Get(s.ID); got != s || !ok {
			t.Errorf("Get(%d): %v, %v; not %v", s.ID, got, ok, s)
		}
	}
	for _, id := range []uint32{2, 4, 6, 8, 254, 257, 65535, 65537, 1<<31 - 2, 1<<31 + 2, greatest - 2} {
		none(t, "there is none", b, id)
	}
	empty := session.New(5)
	for _, id := range ids {
		none(t, "an empty table", empty, id)
	}
}

// TestP23_3_End ends sessions that are there, and such as are not, and grants their IDs again.
func TestP23_3_End(t *testing.T) {
	for i, id := range ids {
		p := made(t, len(ids))
		for j, other := range ids {
			p.grant(api.Session{ID: other, Quota: 3, Used: 1, Expiry: uint32(10 + j)})
		}
		p.use(id, 1, 5)
		if !p.end(id) {
			t.Errorf("End(%d) of one that is there", id)
		}
		none(t, fmt.Sprintf("End(%d)", id), p.b, id)
		if p.end(id) || p.end(id) || p.end(2) || p.end(1<<31+2) {
			t.Errorf("End(%d) of one that is not there", id)
		}
		if p.b.Len() != len(ids)-1 || p.b.Room() != 1 {
			t.Errorf("End(%d): Len %d, Room %d", id, p.b.Len(), p.b.Room())
		}
		again := api.Session{ID: id, Quota: uint32(i + 1), Expiry: 7}
		want(t, "Grant of it again", p.grant(again), api.OK)
		if s, ok := p.b.Get(id); s != again || !ok {
			t.Errorf("Grant(%v) behind End: %v, %v", again, s, ok)
		}
		want(t, "Use of it", p.use(id, 0, 6), api.OK)
		for _, other := range ids {
			if !p.end(other) {
				t.Errorf("End(%d) of one that is there, at last", other)
			}
		}
		has(t, "without any", p.b, len(ids))
		if p.end(id) {
			t.Errorf("End(%d) without any", id)
		}
	}
}

// TestP23_3_EndOfAny ends sessions that are over, that are full, or neither: it asks for no height.
func TestP23_3_EndOfAny(t *testing.T) {
	for _, s := range []api.Session{{ID: 1, Quota: 1}, {ID: 1, Quota: 1, Used: 1}, {ID: 1, Quota: 1, Used: 1, Expiry: greatest}, {ID: 1, Quota: 64, Used: 5, Expiry: 9}} {
		b := of(t, 1, s)
		if !b.End(1) || b.End(1) {
			t.Errorf("End of %v", s)
		}
		has(t, fmt.Sprintf("End of %v", s), b, 1)
	}
}

// TestP23_3_Before tells whose Expiry is below a height: at it, a session is not among them yet.
func TestP23_3_Before(t *testing.T) {
	for _, expiry := range heights {
		b := of(t, 1, api.Session{ID: 9, Quota: 1, Expiry: expiry})
		for _, height := range append([]uint32{expiry, expiry + 1, expiry - 1}, heights...) {
			if l := b.Before(height); slices.Equal(l, []uint32{9}) != (expiry < height) || len(l) > 1 {
				t.Errorf("the Expiry %d: Before(%d): %v", expiry, height, l)
			}
		}
	}
	b := of(t, 5, api.Session{ID: 1 << 31, Quota: 1, Expiry: 5}, api.Session{ID: 3, Quota: 1, Expiry: 7}, api.Session{ID: greatest, Quota: 2, Used: 2, Expiry: 4}, api.Session{ID: 0, Quota: 1, Expiry: 5}, api.Session{ID: 2, Quota: 1, Expiry: 6})
	for height, l := range [][]uint32{{}, {}, {}, {}, {}, {greatest}, {0, 1 << 31, greatest}, {0, 2, 1 << 31, greatest}, {0, 2, 3, 1 << 31, greatest}, {0, 2, 3, 1 << 31, greatest}} {
		if got := b.Before(uint32(height)); !slices.Equal(got, l) {
			t.Errorf("Before(%d): %v, not %v", height, got, l)
		}
	}
	if l := b.Before(greatest); len(l) != 5 {
		t.Errorf("Before(2^32 - 1): %v", l)
	}
	has(t, "behind Before", b, 0, api.Session{Quota: 1, Expiry: 5}, api.Session{ID: 2, Quota: 1, Expiry: 6}, api.Session{ID: 3, Quota: 1, Expiry: 7}, api.Session{ID: 1 << 31, Quota: 1, Expiry: 5}, api.Session{ID: greatest, Quota: 2, Used: 2, Expiry: 4})
}

// TestP23_3_Order grants the same sessions in many orders: List and Before are by their IDs in each.
func TestP23_3_Order(t *testing.T) {
	r := rand.New(rand.NewSource(2))
	rising := slices.Clone(ids)
	slices.Sort(rising)
	for n := range 300 {
		order := slices.Clone(ids)
		r.Shuffle(len(order), func(i, j int) { order[i], order[j] = order[j], order[i] })
		if n == 0 {
			order = slices.Clone(rising)
		}
		if n == 1 {
			slices.Reverse(order)
		}
		b := session.New(len(ids))
		for i, id := range order {
			want(t, fmt.Sprintf("Grant of %d", id), b.Grant(api.Session{ID: id, Quota: 4, Used: id % 4, Expiry: uint32(5 * (n % 2 * i))}), api.OK)
		}
		var listed []uint32
		for _, s := range b.List() {
			listed = append(listed, s.ID)
			if s.Used != s.ID%4 || s.Quota != 4 {
				t.Errorf("granted as %v: List tells %v", order, s)
			}
		}
		if !slices.Equal(listed, rising) {
			t.Errorf("granted as %v: List: %v", order, listed)
		}
		if l := b.Before(greatest); !slices.Equal(l, rising) {
			t.Errorf("granted as %v: Before: %v", order, l)
		}
		if t.Failed() {
			t.FailNow()
		}
	}
}

// TestP23_3_Many lists more sessions than a tower may have.
func TestP23_3_Many(t *testing.T) {
	const many = 3000
	b := session.New(many)
	for i := range uint32(many) {
		want(t, "Grant", b.Grant(api.Session{ID: i * 2654435761, Quota: 1, Expiry: i % 10}), api.OK)
	}
	l := b.List()
	if len(l) != many || !slices.IsSortedFunc(l, func(a, b api.Session) int { return int(int64(a.ID) - int64(b.ID)) }) {
		t.Errorf("List: %d sessions, or not by their IDs", len(l))
	}
	for _, s := range l {
		if got, ok := b.Get(s.ID); got != s || !ok {
			t.Errorf("List has %v, Get tells %v, %v", s, got, ok)
		}
	}
	if l := b.Before(5); len(l) != many/2 || !slices.IsSorted(l) {
		t.Errorf("Before: %d IDs, or not ascending", len(l))
	}
}

// worked is a table with sessions of several kinds, and room for two more.
func worked(t *testing.T) pair {
	t.Helper()
	p := made(t, 6)
	p.grant(api.Session{ID: 1 << 31, Quota: 2, Expiry: 10})
	p.grant(api.Session{ID: 5, Quota: 3, Used: 3, Expiry: 9})
	p.grant(api.Session{ID: 1, Quota: 64, Used: 62, Expiry: greatest})
	p.grant(api.Session{ID: 0, Quota: 1})
	p.use(1, 62, 7)
	return p
}

// deeds are calls that change what worked tells, and such as change nothing.
func deeds() map[string]func(pair) {
	return map[string]func(pair){
		"Grant": func(p pair) { p.grant(api.Session{ID: 3, Quota: 7, Expiry: 8}) },
		"Grants, till there is no room": func(p pair) {
			for id := range uint32(9) {
				p.grant(api.Session{ID: id, Quota: 2, Expiry: 20 + id})
			}
		},
		"Use":                  func(p pair) { p.use(1<<31, 0, 0) },
		"the last Use":         func(p pair) { p.use(1, 63, 9) },
		"a Use that is not":    func(p pair) { p.use(5, 3, 0) },
		"End":                  func(p pair) { p.end(5) },
		"End of none":          func(p pair) { p.end(6) },
		"End and Grant":        func(p pair) { p.end(1); p.grant(api.Session{ID: 1, Quota: 1, Expiry: 3}) },
		"End of all":           func(p pair) { p.end(0); p.end(1); p.end(5); p.end(1 << 31) },
		"Clone":                func(p pair) { p.clone().end(1) },
		"a Clone that is used": func(p pair) { p.clone().use(1<<31, 0, 0) },
	}
}

// TestP23_3_Clone does each deed to a table, and to its clone: it is not seen in the other one, nor in a clone's clone.
func TestP23_3_Clone(t *testing.T) {
	for name, deed := range deeds() {
		for which := range 3 {
			p := worked(t)
			c := p.clone()
			family := []pair{p, c, c.clone()}
			deed(family[which])
			for i, one := range family {
				is(t, fmt.Sprintf("%s, done to %d: %d", name, which, i), one.b, one.m)
			}
			for second, other := range deeds() {
				deeper := []pair{family[0].clone(), family[1].clone(), family[2].clone()}
				other(deeper[which])
				other(deeper[(which+1)%3])
				for i, one := range append(deeper, family...) {
					is(t, fmt.Sprintf("%s, then %s of clones: %d", name, second, i), one.b, one.m)
				}
			}
		}
	}
}

// TestP23_3_CloneOfNone clones tables without sessions: the clone is a table with the same room, apart.
func TestP23_3_CloneOfNone(t *testing.T) {
	for _, most := range []int{-1, 0, 1, 3} {
		p := made(t, most)
		c := p.clone()
		cc := c.clone()
		c.grant(api.Session{ID: 1, Quota: 1, Expiry: 5})
		is(t, "the first", p.b, p.m)
		is(t, "the clone's clone", cc.b, cc.m)
		p.grant(api.Session{ID: 2, Quota: 1, Expiry: 6})
		p.grant(api.Session{ID: 1, Quota: 2, Expiry: 7})
		is(t, "the clone", c.b, c.m)
		is(t, "the clone's clone", cc.b, cc.m)
		c.use(1, 0, 0)
		is(t, "the first", p.b, p.m)
		p.end(1)
		is(t, "the clone", c.b, c.m)
	}
	p := made(t, 2)
	p.grant(api.Session{ID: 1, Quota: 1})
	p.end(1)
	c := p.clone()
	want(t, "a clone behind the last End", c.grant(api.Session{ID: 1, Quota: 1}), api.OK)
	is(t, "the first", p.b, p.m)
}

// TestP23_3_AnswersAreNew changes what was told: nothing else changes, no later answer either.
func TestP23_3_AnswersAreNew(t *testing.T) {
	p := worked(t)
	c := p.clone()
	first, second := p.b.List(), p.b.List()
	early, late := p.b.Before(greatest), p.b.Before(greatest)
	for i := range first {
		first[i] = api.Session{ID: 77, Quota: 1, Used: 9, Expiry: 3}
	}
	for i := range early {
		early[i] = 77
	}
	_ = append(first[:1], first[:1]...)
	_ = append(early[:1], early[:1]...)
	if !slices.Equal(second, p.m.list()) || !slices.Equal(late, p.m.before(greatest)) {
		t.Errorf("the other lists: %v, %v", second, late)
	}
	is(t, "behind changed lists", p.b, p.m)
	is(t, "the clone", c.b, c.m)
	s, _ := p.b.Get(1)
	s.Used, s.Expiry, s.ID = 0, 0, 9
	is(t, "behind a changed session", p.b, p.m)
	kept, before := p.b.List(), p.b.Before(greatest)
	listed, told := slices.Clone(kept), slices.Clone(before)
	p.use(1<<31, 0, 0)
	p.end(5)
	p.grant(api.Session{ID: 2, Quota: 1})
	p.grant(api.Session{ID: 5, Quota: 1})
	if !slices.Equal(kept, listed) || !slices.Equal(before, told) {
		t.Errorf("lists that were told have changed: %v, %v", kept, before)
	}
}

// TestP23_3_HandedIn changes a session behind the call that it was handed to.
func TestP23_3_HandedIn(t *testing.T) {
	l := []api.Session{{ID: 4, Quota: 2, Expiry: 9}, {ID: 2, Quota: 3, Used: 1, Expiry: 8}}
	p := made(t, 2)
	for i := range l {
		p.grant(l[i])
		l[i].ID, l[i].Quota, l[i].Used, l[i].Expiry = 50, 1, 1, 0
		is(t, "behind a session that was changed", p.b, p.m)
		if l[i] != (api.Session{ID: 50, Quota: 1, Used: 1}) {
			t.Errorf("what was handed in: %v", l[i])
		}
	}
	p.use(4, 0, 0)
	if l[0] != (api.Session{ID: 50, Quota: 1, Used: 1}) {
		t.Errorf("what was handed in, behind Use: %v", l[0])
	}
}

// TestP23_3_Unmade calls each function of tables that no call made.
func TestP23_3_Unmade(t *testing.T) {
	for name, b := range unmade() {
		for range 2 {
			for _, n := range ids {
				for _, s := range []api.Session{{ID: n, Quota: 1, Expiry: 9}, {ID: n}, {ID: n, Quota: 65}, {ID: n, Quota: 1, Used: 2}} {
					want(t, name+": Grant", b.Grant(s), api.ErrNil)
				}
				want(t, name+": May", b.May(n, 0, 0), api.ErrNil)
				want(t, name+": May", b.May(n, n, n), api.ErrNil)
				want(t, name+": Use", b.Use(n, 0, 0), api.ErrNil)
				want(t, name+": Use", b.Use(n, n, n), api.ErrNil)
				if s, ok := b.Get(n); ok || s != (api.Session{}) {
					t.Errorf("%s: Get(%d): %v, %v", name, n, s, ok)
				}
				if b.End(n) || len(b.Before(n)) != 0 {
					t.Errorf("%s: End(%d), Before(%d): %v", name, n, n, b.Before(n))
				}
			}
			if len(b.List()) != 0 || b.Len() != 0 || b.Room() != 0 || b.Clone() != nil {
				t.Errorf("%s: List %v, Len %d, Room %d, Clone %v", name, b.List(), b.Len(), b.Room(), b.Clone())
			}
		}
	}
}

// TestP23_4_Quotas uses sessions of each Quota as often as they may be; behind that each further Use is refused, whatever comes between.
func TestP23_4_Quotas(t *testing.T) {
	for quota := uint32(1); quota <= maxQuota; quota++ {
		p := made(t, 4)
		p.grant(api.Session{ID: 6, Quota: quota, Expiry: 100})
		for seq := range quota {
			want(t, fmt.Sprintf("the Quota %d, Use %d", quota, seq), p.use(6, seq, seq), api.OK)
		}
		refused := func(when string) {
			t.Helper()
			want(t, fmt.Sprintf("the Quota %d: %s", quota, when), p.use(6, quota, 99), api.ErrQuota)
			if s, _ := p.b.Get(6); s != (api.Session{ID: 6, Quota: quota, Used: quota, Expiry: 100}) {
				t.Errorf("the Quota %d: %s: %v", quota, when, s)
			}
		}
		refused("a Use more")
		refused("and one more")
		p.use(6, quota-1, 0)
		p.use(6, quota+1, 0)
		p.use(6, 0, 0)
		p.use(6, greatest, 0)
		refused("behind other seqs")
		p.use(6, quota, 100)
		p.use(6, quota, greatest)
		refused("behind it was over")
		p.grant(api.Session{ID: 5, Quota: quota, Expiry: 100})
		p.grant(api.Session{ID: 7, Quota: maxQuota, Expiry: 100})
		p.grant(api.Session{ID: 6, Quota: quota, Expiry: 100})
		p.grant(api.Session{ID: 6, Quota: maxQuota, Expiry: 200})
		refused("behind Grants")
		p.use(5, 0, 0)
		p.use(7, 0, 0)
		refused("behind others' Uses")
		p.end(5)
		p.end(8)
		refused("behind others' Ends")
		c := p.clone()
		want(t, "a clone", c.use(6, quota, 0), api.ErrQuota)
		c.end(6)
		c.grant(api.Session{ID: 6, Quota: quota, Expiry: 100})
		want(t, "a clone, granted anew", c.use(6, 0, 0), api.OK)
		refused("behind a Clone")
	}
}

// TestP23_4_Drawn does drawn calls to tables with room for few, and holds each answer, and what is told behind each, against the chapter's words; and what follows of them.
func TestP23_4_Drawn(t *testing.T) {
	r := rand.New(rand.NewSource(1))
	told := map[api.Errno]int{}
	ended := map[bool]int{}
	for range 800 {
		p := made(t, r.Intn(7)-1)
		some := make([]uint32, 1+r.Intn(8))
		for i := range some {
			some[i] = r.Uint32() >> r.Intn(32)
		}
		one := func() uint32 { return some[r.Intn(len(some))] }
		for range 60 {
			id := one()
			s, _ := p.b.Get(id)
			switch r.Intn(10) {
			case 0, 1, 2:
				quota := uint32(1 + r.Intn(4))
				if r.Intn(6) == 0 {
					quota = r.Uint32() >> r.Intn(32)
				}
				told[p.grant(api.Session{ID: id, Quota: quota, Used: uint32(max(0, r.Intn(int(quota%8)+3)-2)), Expiry: uint32(r.Intn(12))})]++
			case 3, 4, 5, 6:
				told[p.use(id, s.Used+uint32(r.Intn(9)/7)-uint32(r.Intn(9)/8), uint32(r.Intn(12)))]++
			case 7:
				told[p.may(id, s.Used, uint32(r.Intn(12)))]++
			case 8:
				ended[p.end(id)]++
			case 9:
				if r.Intn(2) == 0 {
					left := p
					p = p.clone()
					if r.Intn(2) == 0 {
						left.end(one())
						left.use(id, s.Used, 0)
						is(t, "the clone", p.b, p.m)
					}
				}
			}
			for _, s := range p.b.List() {
				if s.Used > s.Quota || s.Quota < 1 || s.Quota > maxQuota {
					t.Fatalf("there is %v", s)
				}
			}
		}
	}
	for _, e := range []api.Errno{api.OK, api.ErrArg, api.ErrTwice, api.ErrMany, api.ErrSession, api.ErrExpired, api.ErrSeq, api.ErrQuota} {
		if told[e] < 500 {
			t.Errorf("%d was told %d times alone", e, told[e])
		}
	}
	if ended[true] < 500 || ended[false] < 500 {
		t.Errorf("End: %v", ended)
	}
}

// TestP23_4_EachWay does every way of a few calls to a table with room for two, and holds all against the chapter's words.
func TestP23_4_EachWay(t *testing.T) {
	ways := []func(pair){
		func(p pair) { p.grant(api.Session{ID: 1 << 31, Quota: 1, Expiry: 5}) },
		func(p pair) { p.grant(api.Session{ID: 4, Quota: 2, Used: 1, Expiry: 5}) },
		func(p pair) { p.grant(api.Session{ID: 2, Quota: 1, Used: 1, Expiry: 6}) },
		func(p pair) { p.use(1<<31, 0, 4) },
		func(p pair) { p.use(4, 1, 4) },
		func(p pair) { p.use(4, 2, 5) },
		func(p pair) { p.end(4) },
		func(p pair) { p.end(1 << 31) },
	}
	var goOn func(p pair, more int)
	goOn = func(p pair, more int) {
		if more == 0 {
			return
		}
		for _, way := range ways {
			next := p.clone()
			way(next)
			goOn(next, more-1)
			is(t, "behind what was done to a clone", p.b, p.m)
		}
	}
	goOn(made(t, 2), 5)
}
