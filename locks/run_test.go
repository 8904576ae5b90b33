package locks

import (
	"math/rand"
	"testing"

	"cadastre/api"
)

// others asks whether another one than c has the level or more.
func (row *levels) others(c, level int) bool {
	for i, own := range row {
		if i != c && own >= level {
			return true
		}
	}
	return false
}

// raise is P10.2, sentence by sentence.
func (row *levels) raise(c, level int) api.Errno {
	if c < 0 || c >= api.Conns {
		return api.ErrForm
	}
	if level != shared && level != reserved && level != exclusive {
		return api.ErrForm
	}
	if !(row[c] < level) {
		return api.OK
	}
	if level == shared && row.others(c, pending) {
		return api.ErrBusy
	}
	if level == reserved && row[c] == none {
		return api.ErrState
	}
	if level == reserved && row.others(c, reserved) {
		return api.ErrBusy
	}
	if level == exclusive && row[c] != reserved && row[c] != pending {
		return api.ErrState
	}
	if level == exclusive && row.others(c, shared) {
		row[c] = pending
		return api.ErrBusy
	}
	row[c] = level
	return api.OK
}

// lower is P10.3, likewise.
func (row *levels) lower(c, level int) api.Errno {
	if c < 0 || c >= api.Conns {
		return api.ErrForm
	}
	if level != none && level != shared {
		return api.ErrForm
	}
	if row[c] > level {
		row[c] = level
	}
	return api.OK
}

// step makes one call, of a table and of the chapter's words, and holds them against each other.
func step(t *testing.T, r *rand.Rand, x *Table, row *levels) {
	t.Helper()
	// One below and one above all that there are, too.
	c, level := r.Intn(api.Conns+2)-1, r.Intn(7)-1
	before := *row
	var got, want api.Errno
	what := "Raise"
	if r.Intn(3) == 0 {
		what, got, want = "Lower", x.Lower(c, level), row.lower(c, level)
	} else {
		got, want = x.Raise(c, level), row.raise(c, level)
	}
	if got != want {
		t.Fatalf("%v: %s(%d, %d): told %d, want %d", before, what, c, level, got, want)
	}
	if behind := look(t, x); behind != *row {
		t.Fatalf("%v: %s(%d, %d): levels %v, want %v", before, what, c, level, behind, *row)
	}
}

// P10.1 to P10.4: long runs of calls, on two tables in turn: both are as the chapter says, at most one has LockReserved
// or more, and with LockExclusive it is alone.
func TestLongRuns(t *testing.T) {
	met := map[levels]int{}
	for seed := range int64(20) {
		r := rand.New(rand.NewSource(seed))
		tables := [2]*Table{New(), New()}
		rows := [2]levels{}
		for range 10000 {
			i := r.Intn(2)
			step(t, r, tables[i], &rows[i])
			if row := look(t, tables[1-i]); row != rows[1-i] {
				t.Fatalf("the other table: levels %v, want %v", row, rows[1-i])
			}
			row := look(t, tables[i])
			if !isSound(row) {
				t.Fatalf("levels %v", row)
			}
			met[row]++
		}
	}
	for _, row := range sound() {
		if met[row] == 0 {
			t.Errorf("levels %v: never met", row)
		}
	}
}

// R1: the same calls tell the same.
func TestSameAgain(t *testing.T) {
	tell := func() []int {
		r := rand.New(rand.NewSource(1))
		x, l := New(), []int{}
		for range 2000 {
			c, level := r.Intn(api.Conns), r.Intn(5)
			l = append(l, int(x.Raise(c, level)), int(x.Lower(r.Intn(api.Conns), r.Intn(5))))
			for _, own := range look(t, x) {
				l = append(l, own)
			}
		}
		return l
	}
	a, b := tell(), tell()
	for i := range a {
		if a[i] != b[i] {
			t.Fatalf("at %d: %d, then %d", i, a[i], b[i])
		}
	}
}
