package print

import (
	"math"
	"slices"
	"strings"
	"testing"

	"cadastre/api"
)

// wantMost: with from 1 to n of something s may be, with none or more it may not.
func wantMost(t *testing.T, n int, s func(int) api.Stmt) {
	t.Helper()
	for k := 1; k <= n; k++ {
		wantText(t, s(k), stmtText(s(k)))
	}
	for _, k := range []int{0, n + 1, n + 2, 2 * n, 50 * n} {
		wantNone(t, s(k))
	}
}

func TestLists(t *testing.T) {
	from := []string{"t"}
	wantMost(t, api.MaxCols, func(n int) api.Stmt {
		return api.Stmt{Kind: api.StmtTable, Name: "t", Cols: slices.Repeat([]api.Column{{Name: "a", Type: api.TypeBlob}}, n)}
	})
	wantMost(t, api.MaxCols, func(n int) api.Stmt {
		return api.Stmt{Kind: api.StmtIndex, Name: "i", Table: "t", Names: slices.Repeat([]string{"a"}, n)}
	})
	wantMost(t, api.MaxCols, func(n int) api.Stmt {
		return api.Stmt{Kind: api.StmtInsert, Table: "t", Rows: [][]api.Expr{slices.Repeat(exprs(num(1)), n)}}
	})
	wantMost(t, api.MaxCols, func(n int) api.Stmt {
		return api.Stmt{Kind: api.StmtInsert, Table: "t", Rows: [][]api.Expr{exprs(num(1), num(2)), slices.Repeat(exprs(num(1)), n), exprs(num(3))}}
	})
	wantMost(t, api.MaxNodes, func(n int) api.Stmt {
		return api.Stmt{Kind: api.StmtInsert, Table: "t", Rows: slices.Repeat([][]api.Expr{exprs(null())}, n)}
	})
	wantMost(t, api.MaxCols, func(n int) api.Stmt {
		return api.Stmt{Kind: api.StmtUpdate, Table: "t", Sets: slices.Repeat([]api.Set{{Name: "a", E: col("b")}}, n), Where: exprs(null())}
	})
	wantMost(t, api.MaxCols, func(n int) api.Stmt {
		return api.Stmt{Kind: api.StmtSelect, Out: slices.Repeat(exprs(col("a")), n), From: from}
	})
	wantMost(t, api.MaxFrom, func(n int) api.Stmt {
		return api.Stmt{Kind: api.StmtSelect, Star: true, From: slices.Repeat(from, n), Where: exprs(null())}
	})
	for n := range 50 {
		s := api.Stmt{Kind: api.StmtSelect, Star: true, From: from, Order: slices.Repeat([]api.Order{{E: num(1), Desc: true}}, n)}
		if n > api.MaxCols {
			wantNone(t, s)
		} else {
			wantText(t, s, stmtText(s))
		}
		for _, s := range []api.Stmt{{Kind: api.StmtSelect, Star: true, From: from}, {Kind: api.StmtDelete, Table: "t"}, {Kind: api.StmtUpdate, Table: "t", Sets: []api.Set{{Name: "a", E: num(1)}}}} {
			s.Where = slices.Repeat(exprs(num(1)), n)
			if n > 1 {
				wantNone(t, s)
			} else {
				wantText(t, s, stmtText(s))
			}
		}
	}
}

// worth is an expression of n expressions, as low as it may be.
func worth(n int) api.Expr {
	switch {
	case n == 1:
		return num(1)
	case n%2 == 0:
		return op(api.OpTypeof, worth(n-1))
	}
	left := (n - 1) / 2
	return op(api.OpAdd, worth(left), worth(n-1-left))
}

// wantTogether: all of some expressions are counted: with n of them in each place s may be, with one more in any of them it may not.
func wantTogether(t *testing.T, places int, s func(l []api.Expr) api.Stmt) {
	t.Helper()
	l := slices.Repeat(exprs(worth(api.MaxNodes/places)), places)
	wantText(t, s(l), stmtText(s(l)))
	for i := range l {
		more := slices.Clone(l)
		more[i] = worth(api.MaxNodes/places + 1)
		wantNone(t, s(more))
	}
}

func TestNodes(t *testing.T) {
	for n := 1; n <= api.MaxNodes; n++ {
		wantExprText(t, worth(n), exprText(worth(n)))
	}
	for _, n := range []int{1, 2, 3, 50, 200, 1000, 100000} {
		wantNoExpr(t, worth(api.MaxNodes+n))
	}
	for _, f := range withExpr() {
		others := strings.Count(f.text, "1") + strings.Count(f.text, "2") + strings.Count(f.text, "by a")
		s := f.stmt(worth(api.MaxNodes - others))
		wantText(t, s, stmtText(s))
		for _, n := range []int{1, 2, 100, 10000} {
			wantNone(t, f.stmt(worth(api.MaxNodes-others+n)))
		}
	}
	from := []string{"t"}
	wantTogether(t, 5, func(l []api.Expr) api.Stmt {
		return api.Stmt{Kind: api.StmtSelect, Out: l[:2], From: from, Where: l[2:3], Order: []api.Order{{E: l[3]}, {E: l[4], Desc: true}}}
	})
	wantTogether(t, 2, func(l []api.Expr) api.Stmt {
		return api.Stmt{Kind: api.StmtSelect, Star: true, From: from, Where: l[:1], Order: []api.Order{{E: l[1]}}}
	})
	wantTogether(t, 4, func(l []api.Expr) api.Stmt {
		return api.Stmt{Kind: api.StmtUpdate, Table: "t", Sets: []api.Set{{Name: "a", E: l[0]}, {Name: "b", E: l[1]}, {Name: "c", E: l[2]}}, Where: l[3:]}
	})
	wantTogether(t, 10, func(l []api.Expr) api.Stmt {
		return api.Stmt{Kind: api.StmtInsert, Table: "t", Rows: [][]api.Expr{l[:3], l[3:4], l[4:]}}
	})
	row := slices.Repeat(exprs(num(1)), 16)
	s := api.Stmt{Kind: api.StmtInsert, Table: "t", Rows: append(slices.Repeat([][]api.Expr{row}, 12), row[:8])}
	wantText(t, s, stmtText(s))
	s.Rows[12] = row[:9]
	wantNone(t, s)
}

// tower is an expression that is so high: x, with operations round it, one of them after another.
func tower(high int, x api.Expr, ops ...int) api.Expr {
	for i := range high - 1 {
		n := ops[i%len(ops)]
		switch {
		case countOf(n) == 1:
			x = op(n, x)
		case i%2 == 0:
			x = op(n, x, num(1))
		default:
			x = op(n, null(), x)
		}
	}
	return x
}

// TestHeight: of each operation, and of several; no text has parentheses too deep.
func TestHeight(t *testing.T) {
	var rows [][]int
	for n := api.OpNeg; n <= api.OpMax; n++ {
		if n != api.OpCount {
			rows = append(rows, []int{n}, []int{n, api.OpLength}, []int{n, api.OpNot}, []int{api.OpMin, n, api.OpOr}, []int{n, n, api.OpIsNull})
		}
	}
	for _, row := range rows {
		for _, x := range exprs(num(1), col("t.a"), str("("), op(api.OpCount)) {
			for high := 1; high <= api.MaxDeep; high++ {
				w := exprText(tower(high, x, row...))
				wantExprText(t, tower(high, x, row...), w)
			}
			most := tower(api.MaxDeep, x, row...)
			wantEverywhere(t, most, exprText(most))
			for _, high := range []int{api.MaxDeep + 1, api.MaxDeep + 2, 50, 200, 1000} {
				wantNoExpr(t, tower(high, x, row...))
			}
			wantNowhere(t, tower(api.MaxDeep+1, x, row...))
		}
	}
	deep := tower(api.MaxDeep, num(1), api.OpNot)
	wantText(t, api.Stmt{Kind: api.StmtSelect, Out: slices.Repeat(exprs(deep), 5), From: []string{"t"}, Where: exprs(deep), Order: []api.Order{{E: deep}}},
		stmtText(api.Stmt{Kind: api.StmtSelect, Out: slices.Repeat(exprs(deep), 5), From: []string{"t"}, Where: exprs(deep), Order: []api.Order{{E: deep}}}))
}

// filled tells a statement whose text has that many bytes, and as one value a text, a blob or one of '.
func filled(bytes, kind int) api.Stmt {
	s := api.Stmt{Kind: api.StmtSelect, Out: exprs(str(""), num(0)), From: []string{"t"}}
	room := bytes - len("select '', 0 from t")
	switch kind {
	case 0:
		s.Out = exprs(str(strings.Repeat("a", api.MaxStr)), str(strings.Repeat("b", room-api.MaxStr-1)))
	case 1:
		s.Out[0] = blob(strings.Repeat("\xab", (room-1)/2))
	case 2:
		s.Out[0] = str(strings.Repeat("'", room/2))
	}
	if n := bytes - len(stmtText(s)); n > 0 {
		s.From[0] = "t" + strings.Repeat("t", n)
	}
	return s
}

// TestBytes: a text has at most MaxSQL bytes; the statement may be, if it has more.
func TestBytes(t *testing.T) {
	for kind := range 3 {
		for n := api.MaxSQL - 5; n < api.MaxSQL+6; n++ {
			s := filled(n, kind)
			if len(stmtText(s)) != n {
				t.Fatalf("%d bytes, want %d", len(stmtText(s)), n)
			}
			if n > api.MaxSQL {
				wantLong(t, s)
			} else {
				wantText(t, s, stmtText(s))
			}
		}
	}
	for _, f := range withExpr() {
		wantLong(t, f.stmt(str(strings.Repeat("'", api.MaxStr))))
		wantLong(t, f.stmt(blob(strings.Repeat("'", api.MaxStr))))
		wantLong(t, f.stmt(op(api.OpConcat, str(strings.Repeat("a", api.MaxStr)), str(strings.Repeat("a", api.MaxStr)))))
	}
	var all [][]api.Expr
	for range api.MaxNodes {
		all = append(all, exprs(str(strings.Repeat("'", api.MaxStr))))
	}
	wantLong(t, api.Stmt{Kind: api.StmtInsert, Table: "t", Rows: all})
}

// TestLongExpr: an expression's text has no bound of its own.
func TestLongExpr(t *testing.T) {
	long := str(strings.Repeat("'", api.MaxStr))
	wantExprText(t, op(api.OpConcat, long, long), exprText(op(api.OpConcat, long, long)))
	x := long
	for range 7 {
		x = op(api.OpConcat, x, x)
	}
	wantNoExpr(t, x)
	x = op(api.OpConcat, x.Args[0], x.Args[0].Args[0])
	wantExprText(t, x, exprText(x))
}

// TestErrorsInOrder: ErrForm goes ahead of ErrLimit, wherever it stands.
func TestErrorsInOrder(t *testing.T) {
	long := str(strings.Repeat("'", api.MaxStr))
	from := []string{"t"}
	wantLong(t, api.Stmt{Kind: api.StmtSelect, Out: exprs(long), From: from})
	for _, s := range []api.Stmt{
		{Kind: api.StmtSelect, Out: exprs(long, num(-1)), From: from},
		{Kind: api.StmtSelect, Out: exprs(long), From: []string{"t", "T"}},
		{Kind: api.StmtSelect, Out: exprs(long), From: from, Where: exprs(col("null"))},
		{Kind: api.StmtSelect, Out: exprs(long), From: from, Order: []api.Order{{}}},
		{Kind: api.StmtSelect, Out: exprs(long), From: from, Name: "a"},
		{Kind: api.StmtSelect, Out: exprs(long), From: from, Star: true},
		{Kind: api.StmtDelete, Table: "select", Where: exprs(long)},
		{Kind: api.StmtInsert, Table: "t", Rows: [][]api.Expr{exprs(long), {}}},
		{Kind: api.StmtInsert, Table: "t", Rows: [][]api.Expr{{}, exprs(long)}},
		{Kind: api.StmtInsert, Table: "t", Rows: slices.Repeat([][]api.Expr{exprs(long)}, api.MaxNodes+1)},
		{Kind: api.StmtUpdate, Table: "t", Sets: []api.Set{{Name: "a", E: long}}, Where: exprs(tower(21, num(1), api.OpNot))},
	} {
		wantNone(t, s)
	}
}

// TestEnds: what is as large as it may be handed in, or holds itself, is gone through no further than need be.
func TestEnds(t *testing.T) {
	wide := num(1)
	for i := range 200 {
		wide = op([]int{api.OpAdd, api.OpAnd, api.OpConcat}[i%3], wide, wide)
		if i > 5 {
			wantNowhere(t, wide)
		}
	}
	for _, n := range []int{api.OpNeg, api.OpSum, api.OpAdd, api.OpOr, api.OpCount, api.OpLit} {
		knot := op(n, make([]api.Expr, max(countOf(n), 1))...)
		for i := range knot.Args {
			knot.Args[i] = knot
		}
		wantNoExpr(t, knot)
		wantNone(t, api.Stmt{Kind: api.StmtDelete, Table: "t", Where: exprs(knot)})
		wantNone(t, api.Stmt{Kind: api.StmtSelect, Out: slices.Repeat(exprs(knot), 1000), From: []string{"t"}})
	}
	wantNoExpr(t, tower(1<<16, num(1), api.OpNot))
	wantNoExpr(t, tower(1<<16, num(1), api.OpLength, api.OpAdd))
	wantNoExpr(t, op(api.OpNot, make([]api.Expr, 1<<20)...))
	wantNone(t, api.Stmt{Kind: api.StmtInsert, Table: "t", Rows: make([][]api.Expr, 1<<20)})
	wantNone(t, api.Stmt{Kind: api.StmtInsert, Table: "t", Rows: slices.Repeat([][]api.Expr{exprs(num(1))}, 1<<20)})
	wantNone(t, api.Stmt{Kind: api.StmtInsert, Table: "t", Rows: [][]api.Expr{slices.Repeat(exprs(num(1)), 1<<20)}})
	wantNone(t, api.Stmt{Kind: api.StmtSelect, Star: true, From: slices.Repeat([]string{"t"}, 1<<20)})
	wantNone(t, api.Stmt{Kind: api.StmtTable, Name: "t", Cols: slices.Repeat(boxes("a"), 1<<20)})
	wantNone(t, api.Stmt{Kind: math.MaxInt, Rows: make([][]api.Expr, 1<<20)})
	huge := strings.Repeat("a", 1<<26)
	wantNone(t, api.Stmt{Kind: api.StmtDropTable, Name: huge})
	wantNoExpr(t, str(huge))
	wantNoExpr(t, col(huge))
}
