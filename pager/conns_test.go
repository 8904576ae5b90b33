package pager

import (
	"testing"

	"cadastre/api"
	"cadastre/locks"
)

// several opens as many pagers as there are connections, of the modes in turn.
func several(t *testing.T, files []api.File, first int) ([]*Pager, *locks.Table) {
	t.Helper()
	d, l := newDisk(t, files), locks.New()
	var ps []*Pager
	for c := range api.Conns {
		ps = append(ps, openConn(t, d, modes()[(first+c)%2], l, c))
	}
	return ps, l
}

// P12.2, P12.3: readers do not meet; one alone writes, and the others do not see it.
func TestReadersAndWriter(t *testing.T) {
	for first := range 2 {
		ps, l := several(t, base("xy"), first)
		for c, p := range ps {
			begin(t, p)
			wantLevel(t, l, c, api.LockShared)
			wantInside(t, p, "xy")
		}
		write(t, ps[2], 1, 'a')
		write(t, ps[2], 2, 'a')
		for c, p := range ps {
			if c == 2 {
				wantInside(t, p, "xaa")
				continue
			}
			want(t, "Write", p.Write(0, page('b')), api.ErrBusy)
			want(t, "Write of no page", p.Write(0, nil), api.ErrForm)
			wantLevel(t, l, c, api.LockShared)
			wantInside(t, p, "xy")
		}
		want(t, "Rollback", ps[2].Rollback(), api.OK)
		write(t, ps[3], 0, 'c')
		want(t, "Write", ps[2].Write(0, page('b')), api.ErrState)
		want(t, "Write", ps[1].Write(0, page('b')), api.ErrBusy)
	}
}

// P12.4: who commits is alone; told ErrBusy it goes on, and nobody notices.
func TestCommitBusy(t *testing.T) {
	for first := range 2 {
		ps, l := several(t, base("xy"), first)
		p, q, r := ps[0], ps[1], ps[2]
		begin(t, p)
		begin(t, q)
		write(t, p, 0, 'a')
		for range 2 {
			want(t, "Commit", p.Commit(), api.ErrBusy)
			wantLevel(t, l, 0, api.LockReserved)
			wantInside(t, p, "ay")
			wantInside(t, q, "xy")
			// The one that waits turns nobody away.
			begin(t, r)
			wantInside(t, r, "xy")
			want(t, "Commit", r.Commit(), api.OK)
			write(t, p, 0, 'a')
		}
		m := setMark(t, p)
		write(t, p, 2, 'b')
		want(t, "Back", p.Back(m), api.OK)
		write(t, p, 1, 'c')
		want(t, "Commit", q.Commit(), api.OK)
		commit(t, p)
		for c := range ps {
			wantLevel(t, l, c, api.LockNone)
			wantCommitted(t, ps[c], "ac")
		}
	}
}

// P12.4: Commit of a transaction that has written is told ErrBusy though Back undid it all, else others would write upon
// what they saw ahead of it.
func TestCommitUndone(t *testing.T) {
	for first := range 2 {
		ps, _ := several(t, base("x"), first)
		p, q := ps[0], ps[1]
		begin(t, p)
		begin(t, q)
		m := setMark(t, p)
		write(t, p, 0, 'a')
		want(t, "Back", p.Back(m), api.OK)
		if e := p.Commit(); e == api.OK {
			want(t, "Write", q.Write(0, page('b')), api.ErrBusy)
		} else {
			want(t, "Commit", e, api.ErrBusy)
			want(t, "Write", q.Write(0, page('b')), api.ErrBusy)
			want(t, "Rollback", p.Rollback(), api.OK)
			write(t, q, 0, 'b')
		}
	}
}

// P12.6: Fold is told ErrBusy only beside another one's transaction, and leaves no lock.
func TestFoldBusy(t *testing.T) {
	for first := range 2 {
		ps, l := several(t, nil, first)
		commitAll(t, ps[1], "abc")
		begin(t, ps[0])
		if e := ps[1].Fold(); e != api.OK {
			want(t, "Fold", e, api.ErrBusy)
		}
		wantLevel(t, l, 1, api.LockNone)
		wantInside(t, ps[0], "abc")
		write(t, ps[0], 0, 'd')
		if e := ps[1].Fold(); e != api.OK {
			want(t, "Fold", e, api.ErrBusy)
		}
		wantLevel(t, l, 1, api.LockNone)
		wantInside(t, ps[0], "dbc")
		commit(t, ps[0])
		for c, p := range ps {
			want(t, "Fold", p.Fold(), api.OK)
			wantLevel(t, l, c, api.LockNone)
			wantBaseAlone(t, p.files.d, "dbc")
		}
	}
}

// A lock that somebody holds without a pager is heeded as well.
func TestForeignLocks(t *testing.T) {
	ps, l := several(t, base("x"), 0)
	for _, level := range []int{api.LockShared, api.LockReserved, api.LockExclusive} {
		want(t, "Raise", l.Raise(3, level), api.OK)
	}
	want(t, "Begin", ps[0].Begin(), api.ErrBusy)
	want(t, "Fold", ps[0].Fold(), api.ErrBusy)
	wantLevel(t, l, 0, api.LockNone)
	want(t, "Lower", l.Lower(3, api.LockNone), api.OK)
	wantCommitted(t, ps[0], "x")
}
