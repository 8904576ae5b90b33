package box

import (
	"fmt"
	"math"
	"math/big"
	"math/rand"
	"testing"

	"cadastre/api"
)

const top = api.Coord - 1

// four are a box's numbers: x0, x1, y0, y1. The model's answers are told of these, by integers alone.
type four [4]int64

func (f four) made(t *testing.T) api.Box {
	t.Helper()
	b, e := Make(f[0], f[1], f[2], f[3])
	if e != api.OK {
		t.Fatalf("Make%v: %d", f, e)
	}
	return b
}

func (f four) has(x, y int64) bool { return f[0] <= x && x <= f[1] && f[2] <= y && y <= f[3] }

func (f four) square(x, y int64) bool { return f.has(x, y) && f.has(x+1, y+1) }

func (f four) around(g four) four {
	return four{min(f[0], g[0]), max(f[1], g[1]), min(f[2], g[2]), max(f[3], g[3])}
}

// shared tells what f and g have in common; it is none, where a number is above its fellow.
func (f four) shared(g four) four {
	return four{max(f[0], g[0]), min(f[1], g[1]), max(f[2], g[2]), min(f[3], g[3])}
}

func (f four) empty() bool { return f[0] > f[1] || f[2] > f[3] }

func (f four) area() *big.Int {
	if f.empty() {
		return new(big.Int)
	}
	return new(big.Int).Mul(big.NewInt(f[1]-f[0]), big.NewInt(f[3]-f[2]))
}

func told[T any](v T, e api.Errno) string { return fmt.Sprint(v, " ", int(e)) }

func is(t *testing.T, what string, got, want string) {
	t.Helper()
	if got != want {
		t.Errorf("%s: %s, not %s", what, got, want)
	}
}

// small tells all boxes whose numbers are from -2 to 2.
func small() []four {
	var l []four
	for i := range int64(5 * 5 * 5 * 5) {
		f := four{i%5 - 2, i/5%5 - 2, i/25%5 - 2, i/125 - 2}
		if !f.empty() {
			l = append(l, f)
		}
	}
	return l
}

// some tells n boxes, with edges among their numbers.
func some(n int) []four {
	r := rand.New(rand.NewSource(16))
	number := func() int64 {
		switch r.Intn(4) {
		case 0:
			return []int64{-api.Coord, -api.Coord + 1, -1, 0, 1, top - 1, top}[r.Intn(7)]
		case 1:
			return r.Int63n(20) - 10
		}
		return r.Int63n(2*api.Coord) - api.Coord
	}
	l := make([]four, n)
	for i := range l {
		a, b, c, d := number(), number(), number(), number()
		l[i] = four{min(a, b), max(a, b), min(c, d), max(c, d)}
	}
	return l
}

// wrong tells boxes that are none.
func wrong() []api.Box {
	minus := math.Copysign(0, -1)
	parts := []float64{minus, 0.5, -0.5, 1e-300, -1e-300, math.SmallestNonzeroFloat64, top + 0.5, math.Nextafter(api.Coord, 0),
		api.Coord, api.Coord + 1, -api.Coord - 1, -api.Coord - 0.5, math.Nextafter(-api.Coord, -1e10), math.Nextafter(1, 2),
		math.MaxInt64, math.MinInt64, math.MaxFloat64, -math.MaxFloat64, math.NaN(), math.Inf(1), math.Inf(-1)}
	var l []api.Box
	for _, f := range parts {
		for place := range 4 {
			p := [4]float64{-api.Coord, top, -api.Coord, top}
			if f == 0 {
				p = [4]float64{}
			}
			p[place] = f
			l = append(l, api.Box{Lo: complex(p[0], p[2]), Hi: complex(p[1], p[3])})
		}
	}
	for _, p := range [][4]float64{{1, 0, 0, 0}, {0, 0, 1, 0}, {0, -1, 0, 0}, {0, 0, 0, -1}, {1, 0, 0, 1}, {0, 1, 1, 0}, {1, 0, 1, 0},
		{-5, -6, 0, 0}, {top, -api.Coord, 0, 0}, {0, 0, top, top - 1}} {
		l = append(l, api.Box{Lo: complex(p[0], p[2]), Hi: complex(p[1], p[3])})
	}
	return l
}

// TestExample: the chapter's.
func TestExample(t *testing.T) {
	b := four{0, 2, 0, 3}.made(t)
	is(t, "Area", told(Area(b)), "6 0")
	is(t, "Margin", told(Margin(b)), "5 0")
}

// TestMake: P16.1: the corners are x0 + y0 i and x1 + y1 i, Check lets them through, and Parts tells the four.
func TestMake(t *testing.T) {
	l := append(small(), some(2000)...)
	l = append(l, four{-api.Coord, top, -api.Coord, top}, four{-api.Coord, -api.Coord, top, top}, four{top, top, -api.Coord, -api.Coord})
	for _, f := range l {
		b := f.made(t)
		if real(b.Lo) != float64(f[0]) || real(b.Hi) != float64(f[1]) || imag(b.Lo) != float64(f[2]) || imag(b.Hi) != float64(f[3]) {
			t.Errorf("Make%v: %v", f, b)
		}
		if e := Check(b); e != api.OK {
			t.Errorf("Check(%v): %d", b, e)
		}
		x0, x1, y0, y1, e := Parts(b)
		if (four{x0, x1, y0, y1}) != f || e != api.OK {
			t.Errorf("Parts(%v): %d, %d, %d, %d, %d", b, x0, x1, y0, y1, e)
		}
	}
	if e := Check(api.Box{}); e != api.OK {
		t.Errorf("the box from 0 to 0: %d", e)
	}
}

// TestMakeWrong: P16.1: numbers out of their range, and those that are the wrong way round; each place by itself.
func TestMakeWrong(t *testing.T) {
	refused := func(f four) {
		t.Helper()
		if b, e := Make(f[0], f[1], f[2], f[3]); e != api.ErrForm || b != (api.Box{}) {
			t.Errorf("Make%v: %v, %d", f, b, e)
		}
	}
	for _, n := range []int64{api.Coord, api.Coord + 1, 1 << 32, 1 << 53, 1<<53 + 1, math.MaxInt64, math.MaxInt64 - 1} {
		for _, f := range []four{{0, n, 0, 0}, {n, n, 0, 0}, {0, 0, 0, n}, {0, 0, n, n}} {
			refused(f)
		}
		n = -n - 1
		for _, f := range []four{{n, 0, 0, 0}, {n, n, 0, 0}, {0, 0, n, 0}, {0, 0, n, n}} {
			refused(f)
		}
	}
	for _, n := range []int64{1, -api.Coord + 1, top, 0} {
		refused(four{n, n - 1, 0, 0})
		refused(four{0, 0, n, n - 1})
		refused(four{n, n - 1, n, n - 1})
	}
	refused(four{top, -api.Coord, 0, 0})
	refused(four{0, 0, top, -api.Coord})
}

// TestWrong: what is no box is refused by each call, at each place, with nothing told beside.
func TestWrong(t *testing.T) {
	good := four{-1, 2, -3, 4}.made(t)
	for _, b := range wrong() {
		if e := Check(b); e != api.ErrForm {
			t.Errorf("Check(%v): %d", b, e)
		}
		x0, x1, y0, y1, e := Parts(b)
		is(t, "Parts", fmt.Sprint(x0, x1, y0, y1, int(e)), "0 0 0 0 1")
		is(t, "Area", told(Area(b)), "0 1")
		is(t, "Margin", told(Margin(b)), "0 1")
		for _, p := range [][2]api.Box{{b, good}, {good, b}, {b, b}} {
			is(t, "Join", told(Join(p[0], p[1])), "{(0+0i) (0+0i)} 1")
			is(t, "Meets", told(Meets(p[0], p[1])), "false 1")
			is(t, "Holds", told(Holds(p[0], p[1])), "false 1")
			is(t, "Common", told(Common(p[0], p[1])), "0 1")
			is(t, "Grows", told(Grows(p[0], p[1])), "0 1")
		}
	}
}

// TestPoints: P16.2, by the points and the unit squares of small boxes, counted one by one.
func TestPoints(t *testing.T) {
	all := small()
	for _, f := range all {
		for _, g := range all {
			points, squares, own, without := 0, 0, 0, 0
			for i := range int64(25) {
				x, y := i%5-2, i/5-2
				points += one(f.has(x, y) && g.has(x, y))
				without += one(g.has(x, y) && !f.has(x, y))
				squares += one(f.square(x, y) && g.square(x, y))
				own += one(f.square(x, y))
			}
			a, b := f.made(t), g.made(t)
			is(t, "Area", told(Area(a)), fmt.Sprint(own, " 0"))
			is(t, "Meets", told(Meets(a, b)), fmt.Sprint(points > 0, " 0"))
			is(t, "Holds", told(Holds(a, b)), fmt.Sprint(without == 0, " 0"))
			is(t, "Common", told(Common(a, b)), fmt.Sprint(squares, " 0"))
			if t.Failed() {
				t.Fatalf("%v, %v", f, g)
			}
		}
	}
}

func one(yes bool) int {
	if yes {
		return 1
	}
	return 0
}

// TestNumbers: P16.2, by numbers without bound, of boxes of all sizes.
func TestNumbers(t *testing.T) {
	l := append(some(300), four{-api.Coord, top, -api.Coord, top}, four{-api.Coord, -api.Coord, -api.Coord, -api.Coord},
		four{top, top, top, top}, four{-api.Coord, top, 0, 0}, four{0, 0, -api.Coord, top}, four{-api.Coord, 0, 0, top}, four{0, top, -api.Coord, 0})
	for _, f := range l {
		a := f.made(t)
		is(t, "Area", told(Area(a)), fmt.Sprint(f.area(), " 0"))
		is(t, "Margin", told(Margin(a)), fmt.Sprint(f[1]-f[0]+f[3]-f[2], " 0"))
		for _, g := range l {
			b := g.made(t)
			is(t, "Join", told(Join(a, b)), fmt.Sprint(f.around(g).made(t), " 0"))
			is(t, "Meets", told(Meets(a, b)), fmt.Sprint(!f.shared(g).empty(), " 0"))
			is(t, "Holds", told(Holds(a, b)), fmt.Sprint(f.around(g) == f, " 0"))
			is(t, "Common", told(Common(a, b)), fmt.Sprint(f.shared(g).area(), " 0"))
			is(t, "Grows", told(Grows(a, b)), fmt.Sprint(new(big.Int).Sub(f.around(g).area(), f.area()), " 0"))
			if t.Failed() {
				t.Fatalf("%v, %v", f, g)
			}
		}
	}
}

// TestEdges: boxes with an edge or a corner in common meet, those a step apart do not, whatever the axis.
func TestEdges(t *testing.T) {
	a := four{-api.Coord, 0, -api.Coord, 0}.made(t)
	for _, x := range []struct {
		f     four
		meets bool
	}{{four{0, top, -5, -3}, true}, {four{1, top, -5, -3}, false}, {four{-5, -3, 0, top}, true}, {four{-5, -3, 1, top}, false},
		{four{0, 0, 0, 0}, true}, {four{0, top, 0, top}, true}, {four{1, top, 0, top}, false}, {four{0, top, 1, top}, false}} {
		b := x.f.made(t)
		is(t, "Meets", told(Meets(a, b)), fmt.Sprint(x.meets, " 0"))
		is(t, "Meets", told(Meets(b, a)), fmt.Sprint(x.meets, " 0"))
		is(t, "Common", told(Common(a, b)), "0 0")
	}
	all := four{-api.Coord, top, -api.Coord, top}.made(t)
	is(t, "Area", told(Area(all)), "18446744065119617025 0")
	is(t, "Margin", told(Margin(all)), "8589934590 0")
	is(t, "Common", told(Common(all, all)), "18446744065119617025 0")
	is(t, "Grows", told(Grows(four{7, 7, -2, -2}.made(t), all)), "18446744065119617025 0")
	is(t, "Grows", told(Grows(all, all)), "0 0")
}

// TestFollows: P16.3, and that what is joined is a box itself.
func TestFollows(t *testing.T) {
	l := append(some(200), small()...)
	for _, f := range l {
		for _, g := range l {
			a, b := f.made(t), g.made(t)
			j, e := Join(a, b)
			k, d := Join(b, a)
			if e != api.OK || d != api.OK || Check(j) != api.OK || j != k {
				t.Fatalf("Join(%v, %v): %v, %d; %v, %d", a, b, j, e, k, d)
			}
			is(t, "Join holds the first", told(Holds(j, a)), "true 0")
			is(t, "Join holds the second", told(Holds(j, b)), "true 0")
			is(t, "Meets goes both ways", told(Meets(a, b)), told(Meets(b, a)))
			is(t, "Common goes both ways", told(Common(a, b)), told(Common(b, a)))
			if holds, _ := Holds(a, b); holds {
				is(t, "what one holds meets it", told(Meets(a, b)), "true 0")
			}
			if t.Failed() {
				t.Fatalf("%v, %v", f, g)
			}
		}
	}
}

// TestNoMinus: no part that is told is -0, which Check would refuse.
func TestNoMinus(t *testing.T) {
	for _, f := range small() {
		b := f.made(t)
		j, _ := Join(b, four{0, 0, 0, 0}.made(t))
		for _, c := range []complex128{b.Lo, b.Hi, j.Lo, j.Hi} {
			if real(c) == 0 && math.Signbit(real(c)) || imag(c) == 0 && math.Signbit(imag(c)) {
				t.Errorf("%v: %v", f, c)
			}
		}
	}
}
