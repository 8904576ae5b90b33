package split

import (
	"fmt"
	"math/big"
	"math/rand"
	"slices"
	"testing"

	"cadastre/api"
	"cadastre/box"
)

const top = api.Coord - 1

// item is an entry as whole numbers. The model knows items alone, and numbers without bound.
type item struct{ id, x0, x1, y0, y1 int64 }

func (x item) lo(axis int) int64 { return [2]int64{x.x0, x.y0}[axis] }
func (x item) hi(axis int) int64 { return [2]int64{x.x1, x.y1}[axis] }

func (x item) made(t *testing.T) api.Entry {
	t.Helper()
	b, e := box.Make(x.x0, x.x1, x.y0, x.y1)
	if e != api.OK {
		t.Fatalf("%v is no box", x)
	}
	return api.Entry{ID: x.id, Box: b}
}

func made(t *testing.T, l []item) []api.Entry {
	t.Helper()
	var out []api.Entry
	for _, x := range l {
		out = append(out, x.made(t))
	}
	return out
}

func (x item) join(y item) item {
	return item{0, min(x.x0, y.x0), max(x.x1, y.x1), min(x.y0, y.y0), max(x.y1, y.y1)}
}

func (x item) area() *big.Int {
	if x.x0 > x.x1 || x.y0 > x.y1 {
		return new(big.Int)
	}
	return new(big.Int).Mul(big.NewInt(x.x1-x.x0), big.NewInt(x.y1-x.y0))
}

func (x item) margin() int64 { return x.x1 - x.x0 + x.y1 - x.y0 }

func (x item) common(y item) *big.Int {
	return item{0, max(x.x0, y.x0), min(x.x1, y.x1), max(x.y0, y.y0), min(x.y1, y.y1)}.area()
}

func joined(l []item) item {
	b := l[0]
	for _, x := range l {
		b = b.join(x)
	}
	return b
}

// order tells an order's items: the least of those that are left is taken again and again.
func order(l []item, axis, which int) []item {
	var out []item
	taken := make([]bool, len(l))
	for range l {
		least, at := []int64(nil), -1
		for i, x := range l {
			key := []int64{x.lo(axis), x.hi(axis), x.id, int64(i)}
			if which == 1 {
				key[0], key[1] = key[1], key[0]
			}
			if !taken[i] && (at < 0 || slices.Compare(key, least) < 0) {
				least, at = key, i
			}
		}
		taken[at] = true
		out = append(out, l[at])
	}
	return out
}

// plan is how the model splits: the axis, which of its orders, how many ahead.
type plan struct{ axis, which, k int }

func margins(l []item, axis int) int64 {
	var sum int64
	for which := range 2 {
		o := order(l, axis, which)
		for k := 3; k <= 6; k++ {
			sum += joined(o[:k]).margin() + joined(o[k:]).margin()
		}
	}
	return sum
}

// planned tells the model's plan; without wrap the sums of areas have no bound, which the document does not ask for.
func planned(l []item, wrap bool) plan {
	axis := 0
	if margins(l, 1) < margins(l, 0) {
		axis = 1
	}
	var best plan
	var common, areas *big.Int
	for which := range 2 {
		o := order(l, axis, which)
		for k := 3; k <= 6; k++ {
			a, b := joined(o[:k]), joined(o[k:])
			c, s := a.common(b), new(big.Int).Add(a.area(), b.area())
			if wrap {
				s.Mod(s, new(big.Int).Lsh(big.NewInt(1), 64))
			}
			if common == nil || c.Cmp(common) < 0 || c.Cmp(common) == 0 && s.Cmp(areas) < 0 {
				best, common, areas = plan{axis, which, k}, c, s
			}
		}
	}
	return best
}

func (p plan) sides(l []item) (a, b []item) {
	o := order(l, p.axis, p.which)
	return o[:p.k], o[p.k:]
}

// agrees holds Split against the model, and tells the model's plan.
func agrees(t *testing.T, l []item) plan {
	t.Helper()
	p := planned(l, true)
	c, d := p.sides(l)
	in := made(t, l)
	a, b, e := Split(in)
	if e != api.OK || !slices.Equal(a, made(t, c)) || !slices.Equal(b, made(t, d)) {
		t.Fatalf("Split(%v):\n%v,\n%v, %d, not\n%v,\n%v", l, a, b, e, c, d)
	}
	if !slices.Equal(in, made(t, l)) {
		t.Fatalf("%v: the list has changed", l)
	}
	return p
}

// chosen tells the model's choice.
func chosen(l []item, b item) int {
	best := 0
	for i, x := range l {
		g, h := new(big.Int).Sub(x.join(b).area(), x.area()), new(big.Int).Sub(l[best].join(b).area(), l[best].area())
		if g.Cmp(h) < 0 || g.Cmp(h) == 0 && x.area().Cmp(l[best].area()) < 0 {
			best = i
		}
	}
	return best
}

// some tells n items whose numbers number makes, with IDs of a few.
func some(r *rand.Rand, n int, ids int64, number func() int64) []item {
	var l []item
	for range n {
		a, b, c, d := number(), number(), number(), number()
		l = append(l, item{r.Int63n(ids) - ids/2, min(a, b), max(a, b), min(c, d), max(c, d)})
	}
	return l
}

// numbers tells ways to make numbers: few of them, so that much is alike; all of the range; its edges.
func numbers(r *rand.Rand) []func() int64 {
	edges := []int64{-api.Coord, -api.Coord + 1, -api.Coord / 2, -1, 0, 1, api.Coord / 2, top - 1, top}
	return []func() int64{
		func() int64 { return r.Int63n(2) },
		func() int64 { return r.Int63n(4) - 2 },
		func() int64 { return r.Int63n(20) - 10 },
		func() int64 { return r.Int63n(2*api.Coord) - api.Coord },
		func() int64 { return edges[r.Intn(len(edges))] },
		func() int64 { return edges[r.Intn(5)*2] },
	}
}

func ids(l []api.Entry) string {
	s := ""
	for _, x := range l {
		s += fmt.Sprint(x.ID, " ")
	}
	return s
}
