package parse

import (
	"slices"
	"strings"
	"testing"

	"cadastre/api"
)

// signs: a token of each kind that matters in an expression, and some that end one.
func signs() []string {
	return []string{"a", "1", "(", ")", "-", "not", "is", "null", "=", "*", "+", "||", "or", "and", ".", "length", "count", ",", "'null'"}
}

// TestAllShort: every row of at most four signs, as an expression, is read as by the model, which finds one reading at most.
func TestAllShort(t *testing.T) {
	m := newModel()
	rows := []string{""}
	for range 4 {
		var longer []string
		for _, s := range rows {
			for _, sign := range signs() {
				longer = append(longer, s+" "+sign)
			}
		}
		for _, s := range longer {
			wantModel(t, m, "select"+s+" from t")
		}
		if t.Failed() {
			return
		}
		rows = longer
	}
}

// tokens: all key words, names, and all else that stands in statements.
func tokens() []string {
	return append(strings.Fields(chapterWords), strings.Fields("a t rowid 1 'null' x'' ( ) , . ; * + - / % = < > || <> != <= >=")...)
}

// statements: each form of the chapter, with a blank between two tokens.
func statements() []string {
	return []string{
		"begin", "commit ;", "rollback ;",
		"create table t ( a )",
		"create table t ( a any , b integer not null , c text , d blob , e not null ) ;",
		"create virtual table r using rtree ( a , b , c , d , e )",
		"create index i on t ( a )",
		"create unique index i on t ( a , b ) ;",
		"drop table t", "drop index i ;",
		"insert into t values ( 1 )",
		"insert into t values ( 1 , 'a' ) , ( null , x'00' ) ;",
		"delete from t", "delete from t where a = 1 ;",
		"update t set a = 1",
		"update t set a = b = 1 , b = - c where not a is null ;",
		"select * from t",
		"select * from t , u where a order by b",
		"select a , t . b from t order by c desc , d ;",
		"select count ( * ) , sum ( a + 1 ) from t",
		"select ( a or b ) and c from t where typeof ( a ) <> 'text'",
		"select a * ( b - c ) || d from t where a <= b is not null",
	}
}

// TestOneTokenAside: each form with one token left out, doubled, in another place, or another one ahead of it or in its place, is read as by the model.
func TestOneTokenAside(t *testing.T) {
	m := newModel()
	for _, s := range statements() {
		l := strings.Fields(s)
		if _, e := m.parse(s); e != api.OK {
			t.Fatalf("%s: %v", s, e)
		}
		wantModel(t, m, s)
		for i := range l {
			wantModel(t, m, strings.Join(l[:i], " "))
			wantModel(t, m, strings.Join(slices.Concat(l[:i], l[i+1:]), " "))
			wantModel(t, m, strings.Join(slices.Concat(l[:i], l[i:i+1], l[i:]), " "))
			if i > 0 {
				wantModel(t, m, strings.Join(slices.Concat(l[:i-1], []string{l[i], l[i-1]}, l[i+1:]), " "))
			}
			for _, other := range tokens() {
				wantModel(t, m, strings.Join(slices.Concat(l[:i], []string{other}, l[i+1:]), " "))
				wantModel(t, m, strings.Join(slices.Concat(l[:i], []string{other}, l[i:]), " "))
				if i == 0 {
					wantModel(t, m, s+" "+other)
				}
			}
		}
		if t.Failed() {
			return
		}
	}
}

// TestKeyWords: they are no names, wherever a name may stand; all other words are.
func TestKeyWords(t *testing.T) {
	forms := []string{"create table ? (a)", "create table t (?)", "create table t (a, ? integer)", "create virtual table ? using rtree (a,b,c,d,e)", "create virtual table r using rtree (a,b,?,d,e)", "create index ? on t (a)", "create index i on ? (a)", "create index i on t (?)", "create index i on t (a, ?)", "drop table ?", "drop index ?", "insert into ? values (1)", "insert into t values (?)", "delete from ?", "delete from t where ?.a", "update ? set a = 1", "update t set ? = 1", "update t set a = 1, ? = 2", "update t set a = ?", "select ? from t", "select a.? from t", "select a from ?", "select a from t, ?", "select a from t order by ?"}
	for _, f := range forms {
		for _, w := range strings.Fields(chapterWords) {
			for _, w := range []string{w, strings.ToUpper(w), strings.ToUpper(w[:1]) + w[1:]} {
				s := strings.Replace(f, "?", w, 1)
				if l := strings.ToLower(w); l != "null" || f != "insert into t values (?)" && f != "update t set a = ?" && f != "select ? from t" && f != "select a from t order by ?" {
					wantErr(t, s, api.ErrForm)
				}
			}
		}
		for _, w := range strings.Fields("rowid asc all distinct group having int limit as in like key primary default anyone counts orders a_b _ _1 x x1 nul nulls nott isnull using_ bool true false if exists end transaction journal log") {
			if _, e := Parse(strings.Replace(f, "?", w, 1)); e != api.OK {
				t.Errorf("%s with %s: %v", f, w, e)
			}
		}
	}
}

// joins are the operations that are no functions, by level, from the loosest on.
func joins() [][]int {
	return [][]int{{api.OpOr}, {api.OpAnd}, {api.OpNot}, {api.OpEq, api.OpNe, api.OpLt, api.OpLe, api.OpGt, api.OpGe, api.OpIsNull, api.OpNotNull}, {api.OpAdd, api.OpSub}, {api.OpMul, api.OpDiv, api.OpMod}, {api.OpConcat}, {api.OpNeg}}
}

func spelt(n int) string {
	return map[int]string{api.OpOr: "or", api.OpAnd: "and", api.OpNot: "not", api.OpEq: "=", api.OpNe: "<>", api.OpLt: "<", api.OpLe: "<=", api.OpGt: ">", api.OpGe: ">=", api.OpIsNull: "is null", api.OpNotNull: "is not null",
		api.OpAdd: "+", api.OpSub: "-", api.OpMul: "*", api.OpDiv: "/", api.OpMod: "%", api.OpConcat: "||", api.OpNeg: "-", api.OpLength: "length", api.OpTypeof: "typeof", api.OpCount: "count", api.OpSum: "sum", api.OpMin: "min", api.OpMax: "max"}[n]
}

func levelOf(n int) int {
	for i, l := range joins() {
		if slices.Contains(l, n) {
			return i
		}
	}
	return len(joins())
}

// TestPairs: of each two operations, behind one another without parentheses, the closer one is an Arg, of two on one level the left one.
func TestPairs(t *testing.T) {
	two := slices.DeleteFunc(slices.Concat(joins()...), func(n int) bool {
		return n == api.OpNot || n == api.OpNeg || n == api.OpIsNull || n == api.OpNotNull
	})
	a, b, c := col("a"), col("b"), col("c")
	for _, x := range two {
		for _, y := range two {
			w := op(y, op(x, a, b), c)
			if levelOf(y) > levelOf(x) {
				w = op(x, a, op(y, b, c))
			}
			wantExpr(t, "a "+spelt(x)+" b "+spelt(y)+" c", w)
		}
		for _, y := range []int{api.OpIsNull, api.OpNotNull} {
			w := op(y, op(x, a, b))
			if levelOf(y) > levelOf(x) {
				w = op(x, a, op(y, b))
			}
			wantExpr(t, "a "+spelt(x)+" b "+spelt(y), w)
			w = op(x, op(y, a), b)
			if levelOf(y) < levelOf(x) {
				wantErr(t, "select a "+spelt(y)+" "+spelt(x)+" b from t", api.ErrForm)
				continue
			}
			wantExpr(t, "a "+spelt(y)+" "+spelt(x)+" b", w)
		}
		for _, y := range []int{api.OpNot, api.OpNeg} {
			w := op(x, op(y, a), b)
			if levelOf(y) < levelOf(x) {
				w = op(y, op(x, a, b))
			}
			wantExpr(t, spelt(y)+" a "+spelt(x)+" b", w)
			if levelOf(y) < levelOf(x) {
				wantErr(t, "select a "+spelt(x)+" "+spelt(y)+" b from t", api.ErrForm)
				continue
			}
			wantExpr(t, "a "+spelt(x)+" "+spelt(y)+" b", op(x, a, op(y, b)))
		}
	}
	wantExpr(t, "not not a is null is not null", op(api.OpNot, op(api.OpNot, op(api.OpNotNull, op(api.OpIsNull, a)))))
	wantExpr(t, "not - - a", op(api.OpNot, op(api.OpNeg, op(api.OpNeg, a))))
}

// FuzzParse: any text is read as by the model.
func FuzzParse(f *testing.F) {
	for _, s := range statements() {
		f.Add(s)
	}
	m := newModel()
	f.Fuzz(func(t *testing.T, s string) {
		if len(s) < 200 {
			wantModel(t, m, s)
		}
	})
}
