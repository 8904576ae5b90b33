package locks

import (
	"math"
	"testing"

	"cadastre/api"
)

const (
	none      = api.LockNone
	shared    = api.LockShared
	reserved  = api.LockReserved
	pending   = api.LockPending
	exclusive = api.LockExclusive
)

// levels are those of a table's connections.
type levels [api.Conns]int

// allLevels tells every level there is.
func allLevels() []int { return []int{none, shared, reserved, pending, exclusive} }

// notConns tells numbers that are no connections; those beyond 32 bits would be some, if cut.
func notConns() []int {
	return []int{math.MinInt, math.MinInt32, -1 << 32, -api.Conns, -1, api.Conns, api.Conns + 1, math.MaxInt32, 1 << 32, 1<<32 + 1, math.MaxInt}
}

// notLevels tells numbers that are no levels.
func notLevels() []int {
	return []int{math.MinInt, math.MinInt32, -1 << 32, -2, -1, 5, 6, math.MaxInt32, 1 << 32, 1<<32 + 1, math.MaxInt}
}

// sound tells every row of levels that P10.4 lets be.
func sound() []levels {
	var l []levels
	for i := range 5 * 5 * 5 * 5 {
		row := levels{i % 5, i / 5 % 5, i / 25 % 5, i / 125}
		if isSound(row) {
			l = append(l, row)
		}
	}
	return l
}

// isSound asks for what P10.4 says, in its words.
func isSound(row levels) bool {
	high, top, held := 0, 0, 0
	for _, level := range row {
		if level >= reserved {
			high++
		}
		if level == exclusive {
			top++
		}
		if level > none {
			held++
		}
	}
	return high <= 1 && (top == 0 || held == 1)
}

func look(t *testing.T, x *Table) levels {
	t.Helper()
	row := levels{}
	for c := range row {
		level, e := x.Level(c)
		if e != api.OK {
			t.Fatalf("Level(%d): told %d", c, e)
		}
		row[c] = level
	}
	return row
}

func wantLevels(t *testing.T, x *Table, want levels) {
	t.Helper()
	if row := look(t, x); row != want {
		t.Errorf("levels %v, want %v", row, want)
	}
}

func wantRaise(t *testing.T, x *Table, c, level int, want api.Errno) {
	t.Helper()
	if e := x.Raise(c, level); e != want {
		t.Errorf("Raise(%d, %d): told %d, want %d", c, level, e, want)
	}
}

func wantLower(t *testing.T, x *Table, c, level int, want api.Errno) {
	t.Helper()
	if e := x.Lower(c, level); e != want {
		t.Errorf("Lower(%d, %d): told %d, want %d", c, level, e, want)
	}
}

// reached tells a table with these levels, which have to be sound, by calls alone.
func reached(t *testing.T, want levels) *Table {
	t.Helper()
	x := New()
	for c, level := range want {
		if level >= reserved {
			wantRaise(t, x, c, shared, api.OK)
			wantRaise(t, x, c, reserved, api.OK)
		}
		if level == pending {
			// Somebody has to be in the way, be it for a while.
			guest := (c + 1) % api.Conns
			wantRaise(t, x, guest, shared, api.OK)
			for i, other := range want {
				if other == shared {
					wantRaise(t, x, i, shared, api.OK)
				}
			}
			wantRaise(t, x, c, exclusive, api.ErrBusy)
			wantLower(t, x, guest, want[guest], api.OK)
		}
		if level == exclusive {
			wantRaise(t, x, c, exclusive, api.OK)
		}
	}
	for c, level := range want {
		if level == shared {
			wantRaise(t, x, c, shared, api.OK)
		}
	}
	if row := look(t, x); row != want {
		t.Fatalf("levels %v instead of %v", row, want)
	}
	return x
}

// P10.1: a new table has each connection at LockNone.
func TestNew(t *testing.T) {
	x := New()
	if x == nil {
		t.Fatal("no table")
	}
	wantLevels(t, x, levels{none, none, none, none})
	for c := range api.Conns {
		wantRaise(t, New(), c, shared, api.OK)
	}
}

// P10.1: Level tells each level of each connection, and changes nothing.
func TestLevel(t *testing.T) {
	for _, row := range sound() {
		x := reached(t, row)
		wantLevels(t, x, row)
		wantLevels(t, x, row)
	}
}

// P10.1: Level of what is no connection: ErrForm, with 0, whatever the others' levels are.
func TestLevelOfNoConnection(t *testing.T) {
	for _, row := range sound() {
		x := reached(t, row)
		for _, c := range notConns() {
			if level, e := x.Level(c); level != 0 || e != api.ErrForm {
				t.Errorf("Level(%d): %d, told %d", c, level, e)
			}
		}
		wantLevels(t, x, row)
	}
}

// P10.2, P10.4: the chapter's example, and how it goes on.
func TestExample(t *testing.T) {
	x := New()
	wantRaise(t, x, 0, shared, api.OK)
	wantRaise(t, x, 1, shared, api.OK)
	wantRaise(t, x, 0, reserved, api.OK)
	wantLevels(t, x, levels{reserved, shared, none, none})
	wantRaise(t, x, 0, exclusive, api.ErrBusy)
	wantLevels(t, x, levels{pending, shared, none, none})
	wantRaise(t, x, 0, exclusive, api.ErrBusy)
	wantLevels(t, x, levels{pending, shared, none, none})
	wantLower(t, x, 1, none, api.OK)
	wantRaise(t, x, 1, shared, api.ErrBusy)
	wantRaise(t, x, 0, exclusive, api.OK)
	wantLevels(t, x, levels{exclusive, none, none, none})
	wantRaise(t, x, 1, shared, api.ErrBusy)
	wantLower(t, x, 0, none, api.OK)
	wantRaise(t, x, 1, shared, api.OK)
	wantLevels(t, x, levels{none, shared, none, none})
}

// raising is what a connection is told that asks for a level, and what level it has then.
type raising struct {
	told   api.Errno
	behind int
}

// raisings tells, by the level asked for, one's own level, and the highest one of the others, what is to be. A row with
// fewer than five has none for what P10.4 does not let be.
func raisings() map[int][5][]raising {
	in := func(level int) []raising {
		r := raising{api.OK, level}
		return []raising{r, r, r, r, r}
	}
	not := func(level int) []raising {
		r := raising{api.ErrState, level}
		return []raising{r, r, r, r, r}
	}
	return map[int][5][]raising{
		shared: {
			{{api.OK, shared}, {api.OK, shared}, {api.OK, shared}, {api.ErrBusy, none}, {api.ErrBusy, none}},
			in(shared), in(reserved), in(pending), in(exclusive),
		},
		reserved: {
			not(none),
			{{api.OK, reserved}, {api.OK, reserved}, {api.ErrBusy, shared}, {api.ErrBusy, shared}},
			in(reserved), in(pending), in(exclusive),
		},
		exclusive: {
			not(none), not(shared),
			{{api.OK, exclusive}, {api.ErrBusy, pending}},
			{{api.OK, exclusive}, {api.ErrBusy, pending}},
			in(exclusive),
		},
	}
}

// P10.2: each level asked for by each connection, from each level, with the others at each level.
func TestRaise(t *testing.T) {
	for level, rows := range raisings() {
		for _, row := range sound() {
			for c, own := range row {
				other := none
				for i := range row {
					if i != c {
						other = max(other, row[i])
					}
				}
				want := rows[own][other]
				behind := row
				behind[c] = want.behind
				x := reached(t, row)
				if e := x.Raise(c, level); e != want.told {
					t.Errorf("%v: Raise(%d, %d): told %d, want %d", row, c, level, e, want.told)
				}
				wantLevels(t, x, behind)
			}
		}
	}
}

// P10.2, R4: Raise of what is no connection, or to what may not be asked for: ErrForm goes ahead of all, and nothing
// changes.
func TestRaiseForm(t *testing.T) {
	for _, row := range sound() {
		x := reached(t, row)
		for _, c := range notConns() {
			for _, level := range append(notLevels(), allLevels()...) {
				wantRaise(t, x, c, level, api.ErrForm)
			}
		}
		for c := range api.Conns {
			for _, level := range append(notLevels(), none, pending) {
				wantRaise(t, x, c, level, api.ErrForm)
			}
		}
		wantLevels(t, x, row)
	}
}

// P10.2: a level that is held, or a lower one: OK, whoever else is there, and one's own stays.
func TestRaiseHeld(t *testing.T) {
	for _, row := range sound() {
		x := reached(t, row)
		for c, own := range row {
			for _, level := range []int{shared, reserved, exclusive} {
				if own >= level {
					wantRaise(t, x, c, level, api.OK)
				}
			}
		}
		wantLevels(t, x, row)
	}
}

// P10.2: LockShared is let be beside LockReserved, and is busy beside LockPending and LockExclusive.
func TestRaiseShared(t *testing.T) {
	x := reached(t, levels{reserved, shared, none, none})
	wantRaise(t, x, 2, shared, api.OK)
	wantRaise(t, x, 0, exclusive, api.ErrBusy)
	wantRaise(t, x, 3, shared, api.ErrBusy)
	// Those that are in stay in.
	wantRaise(t, x, 1, shared, api.OK)
	wantLevels(t, x, levels{pending, shared, shared, none})
	wantLower(t, x, 1, none, api.OK)
	wantRaise(t, x, 1, shared, api.ErrBusy)
	wantLower(t, x, 2, none, api.OK)
	wantRaise(t, x, 1, shared, api.ErrBusy)
	wantRaise(t, x, 0, exclusive, api.OK)
	wantRaise(t, x, 1, shared, api.ErrBusy)
	wantLevels(t, x, levels{exclusive, none, none, none})
}

// P10.2, R4: a level that is skipped is ErrState, ahead of ErrBusy, and then nobody waits.
func TestRaiseTooFar(t *testing.T) {
	for _, row := range []levels{
		{none, none, none, none}, {none, shared, shared, shared}, {none, reserved, shared, none},
		{none, pending, shared, none}, {none, exclusive, none, none},
	} {
		x := reached(t, row)
		wantRaise(t, x, 0, reserved, api.ErrState)
		wantRaise(t, x, 0, exclusive, api.ErrState)
		wantLevels(t, x, row)
	}
	for _, row := range []levels{
		{shared, none, none, none}, {shared, shared, none, shared}, {shared, none, reserved, none},
		{shared, none, none, pending},
	} {
		x := reached(t, row)
		wantRaise(t, x, 0, exclusive, api.ErrState)
		wantLevels(t, x, row)
	}
}

// P10.2: LockReserved is one's alone, up to its end.
func TestRaiseReserved(t *testing.T) {
	for _, high := range []int{reserved, pending} {
		x := reached(t, levels{shared, none, high, shared})
		wantRaise(t, x, 0, reserved, api.ErrBusy)
		wantRaise(t, x, 3, reserved, api.ErrBusy)
		wantRaise(t, x, 2, reserved, api.OK)
		wantLevels(t, x, levels{shared, none, high, shared})
		wantLower(t, x, 2, shared, api.OK)
		wantRaise(t, x, 3, reserved, api.OK)
		wantRaise(t, x, 0, reserved, api.ErrBusy)
		wantLevels(t, x, levels{shared, none, shared, reserved})
	}
}

// P10.2: LockExclusive waits at LockPending, until the last one that shares has gone.
func TestRaiseExclusive(t *testing.T) {
	x := reached(t, levels{shared, shared, shared, reserved})
	for c := range 3 {
		wantRaise(t, x, 3, exclusive, api.ErrBusy)
		// To share on is not to go.
		wantLower(t, x, c, shared, api.OK)
		wantRaise(t, x, 3, exclusive, api.ErrBusy)
		want := levels{shared, shared, shared, pending}
		for i := range c {
			want[i] = none
		}
		wantLevels(t, x, want)
		wantLower(t, x, c, none, api.OK)
	}
	wantLevels(t, x, levels{none, none, none, pending})
	wantRaise(t, x, 3, exclusive, api.OK)
	wantLevels(t, x, levels{none, none, none, exclusive})
	alone := reached(t, levels{none, reserved, none, none})
	wantRaise(t, alone, 1, exclusive, api.OK)
	wantLevels(t, alone, levels{none, exclusive, none, none})
}

// P10.3: Lower to LockNone and to LockShared, from each level: one's own level alone, and never upward.
func TestLower(t *testing.T) {
	toShared := map[int]int{none: none, shared: shared, reserved: shared, pending: shared, exclusive: shared}
	for _, row := range sound() {
		for c, own := range row {
			behind := row
			x := reached(t, row)
			wantLower(t, x, c, shared, api.OK)
			behind[c] = toShared[own]
			wantLevels(t, x, behind)
			x = reached(t, row)
			wantLower(t, x, c, none, api.OK)
			behind[c] = none
			wantLevels(t, x, behind)
			wantLower(t, x, c, none, api.OK)
			wantLower(t, x, c, shared, api.OK)
			wantLevels(t, x, behind)
		}
	}
}

// P10.3: Lower of what is no connection, or to another level: ErrForm, and nothing changes.
func TestLowerForm(t *testing.T) {
	for _, row := range sound() {
		x := reached(t, row)
		for _, c := range notConns() {
			for _, level := range append(notLevels(), allLevels()...) {
				wantLower(t, x, c, level, api.ErrForm)
			}
		}
		for c := range api.Conns {
			for _, level := range append(notLevels(), reserved, pending, exclusive) {
				wantLower(t, x, c, level, api.ErrForm)
			}
		}
		wantLevels(t, x, row)
	}
}

// P10.3: whoever goes makes room for the others.
func TestLowerMakesRoom(t *testing.T) {
	for _, level := range []int{none, shared} {
		x := reached(t, levels{none, none, exclusive, none})
		wantRaise(t, x, 0, shared, api.ErrBusy)
		wantLower(t, x, 2, level, api.OK)
		wantRaise(t, x, 0, shared, api.OK)
		wantRaise(t, x, 0, reserved, api.OK)
		wantLevels(t, x, levels{reserved, none, level, none})
	}
}

// R2: tables have nothing in common.
func TestTwoTables(t *testing.T) {
	for _, row := range sound() {
		for _, other := range sound() {
			x, y := reached(t, row), reached(t, other)
			wantLevels(t, x, row)
			for c := range api.Conns {
				wantLower(t, y, c, none, api.OK)
			}
			wantLevels(t, x, row)
			wantLevels(t, y, levels{})
			wantLevels(t, New(), levels{})
		}
	}
}
