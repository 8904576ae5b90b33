package pager

import (
	"fmt"
	"math"
	"math/rand"
	"strings"
	"testing"

	"cadastre/api"
)

// P12.5: marks within marks, gone back to again, and undone.
func TestMarks(t *testing.T) {
	for _, mode := range modes() {
		p := open(t, newDisk(t, base("xyz")), mode)
		begin(t, p)
		for _, m := range []int{0, 1, 2, -1, math.MaxInt, math.MinInt} {
			want(t, "Back", p.Back(m), api.ErrForm)
		}
		a := setMark(t, p)
		write(t, p, 0, 'a')
		b := setMark(t, p)
		c := setMark(t, p)
		write(t, p, 0, 'b')
		write(t, p, 4, 'b')
		wantInside(t, p, "byz\x00b")
		for range 2 {
			want(t, "Back to the last", p.Back(c), api.OK)
			wantInside(t, p, "ayz")
			write(t, p, 3, 'c')
			write(t, p, 1, 'c')
		}
		want(t, "Back to one alike", p.Back(b), api.OK)
		wantInside(t, p, "ayz")
		want(t, "Back to one undone", p.Back(c), api.ErrForm)
		wantInside(t, p, "ayz")
		d := setMark(t, p)
		if d == a || d == b || d == c {
			t.Errorf("%d again: %d, %d, %d", d, a, b, c)
		}
		write(t, p, 2, 'd')
		want(t, "Back to the first", p.Back(a), api.OK)
		wantInside(t, p, "xyz")
		for _, m := range []int{b, c, d} {
			want(t, fmt.Sprint("Back to ", m), p.Back(m), api.ErrForm)
		}
		write(t, p, 1, 'e')
		wantInside(t, p, "xez")
		commit(t, p)
		wantCommitted(t, p, "xez")
		begin(t, p)
		for _, m := range []int{a, b, c, d} {
			want(t, fmt.Sprint("Back to ", m, " of another transaction"), p.Back(m), api.ErrForm)
		}
		wantInside(t, p, "xez")
	}
}

func setMark(t *testing.T, p *Pager) int {
	t.Helper()
	m, e := p.Mark()
	want(t, "Mark", e, api.OK)
	return m
}

// P12.5: Mark and Back need no lock to write, and leave it as it is.
func TestMarkLevels(t *testing.T) {
	p := open(t, newDisk(t, base("x")), api.ModeLog)
	begin(t, p)
	m := setMark(t, p)
	want(t, "Back", p.Back(m), api.OK)
	wantLevel(t, p.locks, 0, api.LockShared)
	write(t, p, 0, 'y')
	want(t, "Back", p.Back(m), api.OK)
	wantLevel(t, p.locks, 0, api.LockReserved)
}

// saved is a state that a number was told for.
type saved struct {
	number int
	pages  string
}

// P12.5: long runs, held against whole copies.
func TestMarkRuns(t *testing.T) {
	for seed := range int64(200) {
		r := rand.New(rand.NewSource(seed))
		first := strings.Repeat("x", r.Intn(4))
		p := open(t, newDisk(t, base(first)), modes()[seed%2])
		now := first
		for range 5 {
			begin(t, p)
			end := markRun(t, r, p, now)
			if r.Intn(3) == 0 {
				want(t, "Rollback", p.Rollback(), api.OK)
			} else {
				commit(t, p)
				now = end
			}
			wantCommitted(t, p, now)
		}
	}
}

// markRun makes calls within one transaction, and tells its pages at the end.
func markRun(t *testing.T, r *rand.Rand, p *Pager, pages string) string {
	t.Helper()
	var marks []saved
	told := map[int]int{}
	for range 40 {
		switch r.Intn(5) {
		case 0:
			m := setMark(t, p)
			told[m]++
			marks = append(marks, saved{m, pages})
		case 1:
			m := r.Intn(len(told)+3) - 1
			i := len(marks) - 1
			for i >= 0 && marks[i].number != m {
				i--
			}
			if i < 0 {
				want(t, "Back", p.Back(m), api.ErrForm)
			} else {
				want(t, "Back", p.Back(m), api.OK)
				marks, pages = marks[:i+1], marks[i].pages
			}
		default:
			n, c := r.Intn(6), byte(r.Intn(256))
			write(t, p, n, c)
			pages = put(pages, n, c)
		}
		wantInside(t, p, pages)
	}
	return pages
}

// put tells pages with c as page n.
func put(pages string, n int, c byte) string {
	for len(pages) <= n {
		pages += "\x00"
	}
	return pages[:n] + string([]byte{c}) + pages[n+1:]
}
