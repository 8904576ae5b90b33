package split

import (
	"math"
	"math/rand"
	"slices"
	"testing"

	"cadastre/api"
)

// nine tells nine items, each made of its place.
func nine(f func(i int64) item) []item {
	var l []item
	for i := range int64(9) {
		l = append(l, f(i))
	}
	return l
}

// splits asks for the IDs of both sides, by hand as by the model.
func splits(t *testing.T, what string, l []item, want string) {
	t.Helper()
	a, b, e := Split(made(t, l))
	if got := ids(a) + "/ " + ids(b); got != want || e != api.OK {
		t.Errorf("%s: %s, %d, not %s", what, got, e, want)
	}
	agrees(t, l)
}

// TestExample: the chapter's, with boxes of no breadth and of some.
func TestExample(t *testing.T) {
	for breadth := range int64(2) {
		splits(t, "example", nine(func(i int64) item {
			x := i + i/5*95
			return item{i, x, x + breadth, 0, 1}
		}), "0 1 2 3 4 / 5 6 7 8 ")
	}
}

// TestOrders: P17.1: what is alike in the first number goes by the second, then by ID, then as it stands.
func TestOrders(t *testing.T) {
	splits(t, "by the lower number", nine(func(i int64) item { return item{i, -i, -i, 0, 9} }), "8 7 6 / 5 4 3 2 1 0 ")
	splits(t, "by the upper one behind it", nine(func(i int64) item { return item{i, 0, 100 - i, 0, 0} }), "8 7 6 / 5 4 3 2 1 0 ")
	splits(t, "by ID", nine(func(i int64) item { return item{9 - i, 1, 2, 3, 4} }), "1 2 3 / 4 5 6 7 8 9 ")
	far := []int64{math.MaxInt64, 0, math.MinInt64, -1, 1, math.MaxInt64 - 1, math.MinInt64 + 1, 2, -2}
	splits(t, "by IDs far from each other", nine(func(i int64) item { return item{far[i], 0, 0, 0, 0} }),
		"-9223372036854775808 -9223372036854775807 -2 / -1 0 1 2 9223372036854775806 9223372036854775807 ")
	// By x there are six at 0, then three at 50, all of one ID: only y, which is mixed, tells which is which.
	stand := nine(func(i int64) item { return item{7, i / 6 * 50, i / 6 * 50, i * 5 % 9, i * 5 % 9} })
	if p := agrees(t, stand); p != (plan{0, 0, 6}) {
		t.Errorf("as they stand: %v", p)
	}
	c, d, _ := Split(made(t, stand))
	if !slices.Equal(append(c, d...), made(t, stand)) {
		t.Errorf("as they stand: %v, %v", c, d)
	}
	for which, want := range []string{"0 1 2 / 3 4 5 6 7 8 ", "8 7 6 / 5 4 3 2 1 0 "} {
		// One lower number for all of them, or one upper one: the other number sorts.
		splits(t, "one number for all", nine(func(i int64) item {
			if which == 0 {
				return item{i, 0, i, 0, 0}
			}
			return item{i, -i, 0, 0, 0}
		}), want)
	}
}

// TestAxis: P17.1: the axis with the lesser margins; 0, if both are alike.
func TestAxis(t *testing.T) {
	alike := nine(func(i int64) item { return item{i, i % 3 * 10, i % 3 * 10, i / 3 * 10, i / 3 * 10} })
	if margins(alike, 0) != margins(alike, 1) {
		t.Fatal("margins of a grid differ")
	}
	splits(t, "a grid", alike, "0 3 6 / 1 4 7 2 5 8 ")
	wide := slices.Clone(alike)
	wide[8].x1++
	high := slices.Clone(alike)
	high[8].y1++
	agrees(t, wide)
	agrees(t, high)
	splits(t, "along y", nine(func(i int64) item { return item{i, 0, 1, i * 8 % 9, i * 8 % 9} }), "0 8 7 / 6 5 4 3 2 1 ")
	for i := range alike {
		alike[i].x0, alike[i].x1 = alike[i].x0*2, alike[i].x1*2
	}
	splits(t, "a grid, longer along x", alike, "0 3 6 / 1 4 7 2 5 8 ")
	for i := range alike {
		alike[i].y0, alike[i].y1 = alike[i].y0*4, alike[i].y1*4
	}
	splits(t, "a grid, longer along y", alike, "0 1 2 / 3 4 5 6 7 8 ")
}

// TestWrap: P17.1: sums of areas are modulo 2^64. Of each list it is seen that without it another cut is the best.
func TestWrap(t *testing.T) {
	const low, half = -api.Coord, api.Coord / 2
	for _, l := range [][]item{
		{{1, half, top, low, 0}, {1, 0, half, -half, -half}, {-2, 0, half, -half, 0}, {1, low, half, -half, -half}, {-2, top, top, -half, top},
			{-1, -half, half, low, -half}, {-2, -half, top, -half, 0}, {0, 0, top, -half, 0}, {0, 0, top, -half, -half}},
		{{1, low, low, 0, top}, {2, -half, half, low, 0}, {3, half, top, -half, 0}, {4, low, -half, low, -half}, {5, low, -half, low, 0},
			{6, low, 0, 0, half}, {7, top, top, 0, half}, {8, -half, top, 0, half}, {9, low, -half, half, top}},
	} {
		if p := agrees(t, l); p == planned(l, false) {
			t.Errorf("%v: %v, with sums without bound too", l, p)
		}
	}
}

// TestModel: P17.1, by the model; each axis, order and number of entries ahead is among the answers.
func TestModel(t *testing.T) {
	r := rand.New(rand.NewSource(17))
	seen, wrapped, level := map[plan]int{}, 0, 0
	for _, number := range numbers(r) {
		for _, many := range []int64{1, 3, 1000} {
			for range 700 {
				l := some(r, 9, many, number)
				p := agrees(t, l)
				seen[p]++
				if p != planned(l, false) {
					wrapped++
				}
				if margins(l, 0) == margins(l, 1) {
					level++
				}
			}
		}
	}
	if len(seen) != 2*2*4 || wrapped == 0 || level == 0 {
		t.Errorf("plans %v, %d by sums that wrap round, %d with axes alike", seen, wrapped, level)
	}
}

// TestLong: P17.1, of boxes that are long along one axis, and those that lie within one another.
func TestLong(t *testing.T) {
	r := rand.New(rand.NewSource(18))
	for range 2000 {
		l := nine(func(i int64) item {
			x, y := r.Int63n(1000), r.Int63n(10)
			return item{i % 2, x, x + r.Int63n(50), y, y + r.Int63n(3)}
		})
		agrees(t, l)
		for i, x := range l {
			l[i].x0, l[i].x1, l[i].y0, l[i].y1 = x.y0, x.y1, x.x0, x.x1
		}
		agrees(t, l)
		agrees(t, nine(func(i int64) item {
			n := r.Int63n(10)
			return item{i, -n, n, -n - r.Int63n(2), n}
		}))
	}
}

// TestFollows: P17.3: both sides together are the list, each once, and each has at least FanLow.
func TestFollows(t *testing.T) {
	r := rand.New(rand.NewSource(19))
	for _, number := range numbers(r) {
		for range 500 {
			l := made(t, some(r, 9, 3, number))
			a, b, e := Split(l)
			if e != api.OK || len(a) < api.FanLow || len(b) < api.FanLow || len(a)+len(b) != len(l) {
				t.Fatalf("%v: %v, %v, %d", l, a, b, e)
			}
			left := append(slices.Clone(a), b...)
			for _, x := range l {
				i := slices.Index(left, x)
				if i < 0 {
					t.Fatalf("%v: %v is missing", l, x)
				}
				left = slices.Delete(left, i, i+1)
			}
		}
	}
}

// TestMemory: what is told is new memory, spare room too, and no side shares any with the other.
func TestMemory(t *testing.T) {
	l := made(t, nine(func(i int64) item { return item{i, i, i, 0, 0} }))
	in := append(slices.Clone(l), api.Entry{ID: 99})[:9]
	a, b, _ := Split(in)
	c, d, _ := Split(in)
	spoil(a)
	if !slices.Equal(b, d) {
		t.Errorf("who writes into the first side changes the second: %v", b)
	}
	a, b, _ = Split(in)
	spoil(b)
	if !slices.Equal(a, c) {
		t.Errorf("who writes into the second side changes the first: %v", a)
	}
	if !slices.Equal(in, l) || in[:10][9].ID != 99 {
		t.Errorf("the list has changed: %v", in[:10])
	}
	if s := ids(c) + "/ " + ids(d); s != "0 1 2 / 3 4 5 6 7 8 " {
		t.Errorf("another answer has changed: %s", s)
	}
	if e, f, _ := Split(in); !slices.Equal(e, c) || !slices.Equal(f, d) {
		t.Errorf("a later answer is another: %v, %v", e, f)
	}
}

// spoil writes into l, and into its spare room.
func spoil(l []api.Entry) {
	l = l[:cap(l)]
	for i := range l {
		l[i] = api.Entry{ID: -1}
	}
}

// TestChoose: P17.2: the least growth, then the least area, then the first.
func TestChoose(t *testing.T) {
	for i, x := range []struct {
		l    []item
		b    item
		want int
	}{
		{[]item{{5, 3, 4, 3, 4}}, item{0, -9, 9, -9, 9}, 0},
		{[]item{{1, 0, 10, 0, 10}, {2, 0, 4, 0, 4}, {3, 0, 4, 0, 4}}, item{0, 1, 2, 1, 2}, 1},
		{[]item{{1, 0, 10, 0, 10}, {2, 0, 4, 0, 4}, {3, 0, 4, 0, 4}}, item{0, 4, 5, 4, 5}, 0},
		{[]item{{1, 0, 2, 0, 2}, {2, 10, 12, 0, 2}}, item{0, 8, 8, 1, 1}, 1},
		{[]item{{1, 0, 4, 0, 4}, {2, 10, 12, 0, 4}}, item{0, 7, 7, 1, 1}, 1},
		{[]item{{1, 1, 4, 0, 4}, {2, 10, 14, 0, 4}}, item{0, 7, 7, 0, 4}, 0},
		{[]item{{1, 0, 4, 0, 4}, {2, 11, 12, 0, 4}}, item{0, 7, 7, 0, 4}, 0},
		{[]item{{2, 0, 4, 0, 4}, {1, 0, 4, 0, 4}}, item{0, 7, 7, 0, 4}, 0},
		{[]item{{1, 0, 0, 0, 9}, {2, 5, 5, 0, 9}}, item{0, 3, 3, 4, 4}, 1},
		{[]item{{1, -api.Coord, top, -api.Coord, top}, {2, 0, 0, 0, 0}}, item{0, -api.Coord, top, -api.Coord, top}, 0},
		{[]item{{1, 0, 0, 0, 0}, {2, -1, 0, -1, 0}}, item{0, -api.Coord, top, -api.Coord, top}, 1},
		{[]item{{1, -api.Coord, top, -api.Coord, top}, {2, -api.Coord, top, -api.Coord, top - 1}, {3, 7, 7, 7, 7}}, item{0, 7, 7, 7, 7}, 2},
	} {
		n, e := Choose(made(t, x.l), x.b.made(t).Box)
		if n != x.want || e != api.OK || chosen(x.l, x.b) != x.want {
			t.Errorf("%d: %d, %d, the model %d, not %d", i, n, e, chosen(x.l, x.b), x.want)
		}
	}
}

// TestChooseModel: P17.2, by the model, of lists of all lengths.
func TestChooseModel(t *testing.T) {
	r := rand.New(rand.NewSource(20))
	for _, number := range numbers(r) {
		for i := range 1500 {
			l, b := some(r, 1+i%40, 5, number), some(r, 1, 1, number)[0]
			in := made(t, l)
			if n, e := Choose(in, b.made(t).Box); n != chosen(l, b) || e != api.OK {
				t.Fatalf("Choose(%v, %v): %d, %d, not %d", l, b, n, e, chosen(l, b))
			}
			if !slices.Equal(in, made(t, l)) {
				t.Fatalf("%v: the list has changed", l)
			}
		}
	}
}

// wrong tells boxes that are none.
func wrong() []api.Box {
	minus := math.Copysign(0, -1)
	return []api.Box{{Lo: 1}, {Lo: 1i}, {Hi: -1}, {Hi: -1i}, {Lo: 0.5, Hi: 1}, {Lo: 0.5i, Hi: 1i}, {Hi: 0.5}, {Hi: 0.5i},
		{Hi: api.Coord}, {Hi: complex(0, api.Coord)}, {Lo: -api.Coord - 1}, {Lo: complex(0, -api.Coord-1)},
		{Lo: complex(minus, 0)}, {Lo: complex(0, minus)}, {Hi: complex(minus, 0)}, {Hi: complex(0, minus)},
		{Hi: complex(math.NaN(), 0)}, {Lo: complex(0, math.NaN())}, {Hi: complex(math.Inf(1), 0)}, {Lo: complex(0, math.Inf(-1))}}
}

// TestWrongSplit: P17.1: lists that are too short or too long, and boxes that are none, at each place.
func TestWrongSplit(t *testing.T) {
	refused := func(what string, l []api.Entry) {
		t.Helper()
		if a, b, e := Split(l); e != api.ErrForm || len(a) != 0 || len(b) != 0 {
			t.Errorf("%s: %v, %v, %d", what, a, b, e)
		}
	}
	refused("nil", nil)
	l := made(t, nine(func(i int64) item { return item{i, i, i, 0, 0} }))
	for n := range 40 {
		long := make([]api.Entry, n)
		copy(long, l)
		if n != 9 {
			refused("a list of another length", long)
		}
	}
	for i := range l {
		for _, b := range wrong() {
			bad := slices.Clone(l)
			bad[i].Box = b
			refused("no box", bad)
		}
	}
}

// TestWrongChoose: P17.2: no list, boxes that are none, at each place, and b that is none; whatever else is right.
func TestWrongChoose(t *testing.T) {
	refused := func(what string, l []api.Entry, b api.Box) {
		t.Helper()
		if n, e := Choose(l, b); e != api.ErrForm || n != 0 {
			t.Errorf("%s: %d, %d", what, n, e)
		}
	}
	l := made(t, nine(func(i int64) item { return item{i, 8 - i, 8 - i, 0, 0} }))
	good := l[8].Box
	refused("nil", nil, good)
	refused("an empty list", []api.Entry{}, good)
	for _, b := range wrong() {
		refused("b is none", l, b)
		refused("b is none, and no list", nil, b)
		for i := range l {
			bad := slices.Clone(l)
			bad[i].Box = b
			refused("no box", bad, good)
			refused("neither", bad, b)
		}
	}
}
