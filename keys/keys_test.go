package keys

import (
	"encoding/binary"
	"fmt"
	"maps"
	"math"
	"math/rand"
	"slices"
	"strings"
	"testing"

	"cadastre/api"
)

const most = api.MaxCols + 1

func null() api.Value { return api.Value{} }

func integer(n int64) api.Value { return api.Value{Kind: api.KindInt, Int: n} }

func text(s string) api.Value { return api.Value{Kind: api.KindText, Str: s} }

func blob(s string) api.Value { return api.Value{Kind: api.KindBlob, Str: s} }

func key(l ...api.Value) []api.Value { return l }

func full(s string) string { return strings.Repeat(s, api.MaxStr) }

func show(v api.Value) string {
	return fmt.Sprintf("{%d %d %.20q, of %d}", v.Kind, v.Int, v.Str, len(v.Str))
}

func showKey(k []api.Value) string {
	var s []string
	for _, v := range k {
		s = append(s, show(v))
	}
	return fmt.Sprintf("%d of %.400s", len(k), strings.Join(s, " "))
}

func showKeys(l [][]api.Value) string {
	var s []string
	for _, k := range l {
		s = append(s, showKey(k))
	}
	return fmt.Sprintf("%d keys: %.1000s", len(l), strings.Join(s, "; "))
}

// spelled tells k as bytes that stand to others' as k does to theirs, and that begin with others' just if k does:
// each value's end is to be seen in its own bytes.
func spelled(k []api.Value) string {
	var b []byte
	for _, v := range k {
		b = append(b, byte(v.Kind))
		switch v.Kind {
		case api.KindInt:
			b = binary.BigEndian.AppendUint64(b, uint64(v.Int)+1<<63)
		case api.KindText, api.KindBlob:
			for _, x := range []byte(v.Str) {
				b = append(b, 1, x)
			}
			b = append(b, 0)
		}
	}
	return string(b)
}

func spelledAll(l [][]api.Value) []string {
	var s []string
	for _, k := range l {
		s = append(s, spelled(k))
	}
	return s
}

func sortKeys(l [][]api.Value) [][]api.Value {
	keyOf := map[string][]api.Value{}
	for _, k := range l {
		keyOf[spelled(k)] = k
	}
	var sorted [][]api.Value
	for _, s := range slices.Sorted(maps.Keys(keyOf)) {
		sorted = append(sorted, keyOf[s])
	}
	return sorted
}

// ascending: values of every kind, each above the one ahead.
func ascending() []api.Value {
	return []api.Value{
		null(),
		integer(math.MinInt64), integer(math.MinInt64 + 1), integer(math.MinInt32), integer(-256), integer(-2), integer(-1),
		integer(0), integer(1), integer(2), integer(9), integer(10), integer(255), integer(1 << 40), integer(math.MaxInt64 - 1), integer(math.MaxInt64),
		text(""), text("\x00"), text("\x00\x00"), text("1"), text("10"), text("9"), text("a"), text("a\x00"), text("aa"), text("ab"), text("b"),
		text(full("x")[1:]), text(full("x")), text("x\xc3\xa4"), text("\xff"), text(full("\xff")),
		blob(""), blob("\x00"), blob("1"), blob("a"), blob("aa"), blob("b"), blob(full("x")), blob("\xff"), blob(full("\xff")),
	}
}

// few: some values of every kind, each above the one ahead.
func few() []api.Value {
	return []api.Value{null(), integer(-1), integer(0), integer(1), text(""), text("a"), text("b"), blob(""), blob("a")}
}

// wrong: no values, by one fault or by several.
func wrong() []api.Value {
	return []api.Value{
		{Kind: api.KindNull, Int: 1},
		{Kind: api.KindNull, Int: math.MinInt64},
		{Kind: api.KindNull, Str: "1"},
		{Kind: api.KindInt, Str: "1"},
		{Kind: api.KindInt, Int: 1, Str: "1"},
		{Kind: api.KindText, Int: 1},
		{Kind: api.KindText, Int: 5, Str: "5"},
		{Kind: api.KindBlob, Int: 1},
		{Kind: api.KindBlob, Int: math.MaxInt64, Str: "a"},
		text(full("x") + "x"),
		blob(full("x") + "x"),
		{Kind: -1},
		{Kind: -1, Int: 1},
		{Kind: api.KindBlob + 1},
		{Kind: api.KindBlob + 1, Str: "1"},
		{Kind: 257, Int: 1},
		{Kind: math.MinInt},
		{Kind: math.MaxInt},
	}
}

// small: all keys of at most two of few values, and some of three.
func small() [][]api.Value {
	l := [][]api.Value{{}}
	for _, a := range few() {
		l = append(l, key(a))
		for _, b := range few() {
			l = append(l, key(a, b), key(a, b, null()), key(a, b, blob("")))
		}
	}
	return sortKeys(l)
}

// seeded: keys of every length, many of which begin alike.
func seeded(seed int64, count int) [][]api.Value {
	r := rand.New(rand.NewSource(seed))
	all := ascending()
	l := [][]api.Value{}
	for range count {
		var k []api.Value
		if len(l) > 0 && r.Intn(4) > 0 {
			other := l[r.Intn(len(l))]
			k = slices.Clone(other[:r.Intn(len(other)+1)])
		}
		for range r.Intn(most + 1 - len(k)) {
			k = append(k, all[r.Intn(len(all))])
		}
		l = append(l, k)
	}
	return l
}

// long tells a key of n values: v, and ahead of it only nulls.
func long(n int, v api.Value) []api.Value {
	k := make([]api.Value, n)
	k[n-1] = v
	return k
}

func wantCmp(t *testing.T, a, b []api.Value, want int) {
	t.Helper()
	if c, e := Cmp(a, b); c != want || e != api.OK {
		t.Fatalf("Cmp %s and %s: %d, %d; not %d", showKey(a), showKey(b), c, e, want)
	}
}

func wantBegins(t *testing.T, a, b []api.Value, want bool) {
	t.Helper()
	if ok, e := Begins(a, b); ok != want || e != api.OK {
		t.Fatalf("Begins %s and %s: %v, %d; not %v", showKey(a), showKey(b), ok, e, want)
	}
}

func wantPlace(t *testing.T, l [][]api.Value, k []api.Value, want int) {
	t.Helper()
	if n, e := Find(l, k); n != want || e != api.OK {
		t.Fatalf("Find %s in %s: %d, %d; not %d", showKey(k), showKeys(l), n, e, want)
	}
}

// wantNone asks for an error of Cmp and Begins, either way round, with zero values beside it.
func wantNone(t *testing.T, a, b []api.Value, want api.Errno) {
	t.Helper()
	for range 2 {
		if c, e := Cmp(a, b); c != 0 || e != want {
			t.Fatalf("Cmp %s and %s: %d, %d; not 0, %d", showKey(a), showKey(b), c, e, want)
		}
		if ok, e := Begins(a, b); ok || e != want {
			t.Fatalf("Begins %s and %s: %v, %d; not false, %d", showKey(a), showKey(b), ok, e, want)
		}
		a, b = b, a
	}
}

func wantNoPlace(t *testing.T, l [][]api.Value, k []api.Value, want api.Errno) {
	t.Helper()
	if n, e := Find(l, k); n != 0 || e != want {
		t.Fatalf("Find %s in %s: %d, %d; not 0, %d", showKey(k), showKeys(l), n, e, want)
	}
}

// placeOf goes through keys that are spelled, from their beginning.
func placeOf(l []string, k []api.Value) int {
	want := spelled(k)
	for i, s := range l {
		if s >= want {
			return i
		}
	}
	return len(l)
}

// P7.1: the chapter's example, and keys in an order that is written out.
func TestExamples(t *testing.T) {
	rising := [][]api.Value{
		nil,
		key(null()),
		key(null(), null()),
		key(null(), blob("z")),
		key(integer(-1)),
		key(integer(1)),
		key(integer(1), null()),
		key(integer(1), null(), null()),
		key(integer(1), null(), integer(7)),
		key(integer(1), integer(0)),
		key(integer(1), integer(0), text("a")),
		key(integer(1), integer(0), text("a"), null()),
		key(integer(1), integer(0), text("aa")),
		key(integer(1), integer(0), blob("")),
		key(integer(1), integer(1)),
		key(integer(1), text("")),
		key(integer(2)),
		key(integer(10)),
		key(integer(10), integer(-5)),
		key(text("")),
		key(text(""), text("a")),
		key(text("10")),
		key(text("9")),
		key(text("a")),
		key(text("a"), text("b")),
		key(text("ab")),
		key(blob("")),
		key(blob("a"), blob("")),
		key(blob("a"), blob("\x00")),
	}
	for i, a := range rising {
		for j, b := range rising {
			want := 0
			if i < j {
				want = -1
			} else if i > j {
				want = 1
			}
			wantCmp(t, a, b, want)
		}
		wantPlace(t, rising, a, i)
	}
}

// P7.1: which of a few keys begin with which, written out.
func TestBeginsExamples(t *testing.T) {
	abc := key(integer(1), text("a"), null())
	for _, c := range []struct {
		a, b []api.Value
		want bool
	}{
		{nil, nil, true}, {nil, key(), true}, {key(), nil, true},
		{abc, nil, true}, {abc, abc[:1], true}, {abc, abc[:2], true}, {abc, abc, true},
		{nil, key(null()), false}, {abc[:1], abc[:2], false}, {abc[:2], abc, false},
		{abc, key(integer(2)), false}, {abc, key(integer(0)), false}, {abc, key(text("a")), false}, {abc, key(null()), false},
		{abc, key(integer(1), text("")), false}, {abc, key(integer(1), text("aa")), false}, {abc, key(integer(1), blob("a")), false},
		{abc, key(integer(1), text("a"), integer(0)), false}, {abc, key(integer(1), text("a"), text("")), false},
		{abc, key(integer(1), text("a"), null(), null()), false},
		{key(text("ab")), key(text("a")), false}, {key(text("a"), text("b")), key(text("a")), true},
		{key(integer(0)), key(null()), false}, {key(null()), key(null()), true}, {key(text("a")), key(blob("a")), false},
	} {
		wantBegins(t, c.a, c.b, c.want)
	}
}

// P7.1: keys of one value stand as their values do; behind the same beginning, too, of any length.
func TestCmpByValue(t *testing.T) {
	all := ascending()
	for n := 1; n <= most; n++ {
		for i, v := range all {
			for j, w := range all {
				a, b := long(n, v), long(n, w)
				want := 0
				if i < j {
					want = -1
				} else if i > j {
					want = 1
				}
				wantCmp(t, a, b, want)
				wantBegins(t, a, b, i == j)
			}
		}
	}
}

// P7.1: the first value that is unlike says, whatever stands behind it and however many these are.
func TestCmpFirstUnlike(t *testing.T) {
	r := rand.New(rand.NewSource(7))
	all := ascending()
	any := func(n int) []api.Value {
		var k []api.Value
		for range n {
			k = append(k, all[r.Intn(len(all))])
		}
		return k
	}
	for range 200 {
		for at := range most {
			i, j := r.Intn(len(all)-1), 0
			j = i + 1 + r.Intn(len(all)-1-i)
			same := any(at)
			low := append(append(slices.Clone(same), all[i]), any(r.Intn(most-at))...)
			high := append(append(slices.Clone(same), all[j]), any(r.Intn(most-at))...)
			wantCmp(t, low, high, -1)
			wantCmp(t, high, low, 1)
			wantBegins(t, low, high, false)
			wantBegins(t, high, low, false)
			wantBegins(t, low, same, true)
			wantBegins(t, high, same, true)
			wantBegins(t, low, low[:at+1], true)
			wantBegins(t, low, high[:at+1], false)
		}
	}
}

// P7.1: a key's beginnings are below it, and it begins with them.
func TestCmpBeginnings(t *testing.T) {
	for _, k := range append(seeded(1, 300), slices.Repeat(key(null()), most), slices.Repeat(key(blob(full("\xff"))), most)) {
		for n := range len(k) {
			wantCmp(t, k[:n], k, -1)
			wantCmp(t, k, k[:n], 1)
			wantBegins(t, k, k[:n], true)
			wantBegins(t, k[:n], k, false)
		}
		wantCmp(t, k, slices.Clone(k), 0)
		wantBegins(t, k, slices.Clone(k), true)
	}
}

// P7.1: every key against every one, by bytes that stand so.
func TestCmpSpelled(t *testing.T) {
	for _, l := range [][][]api.Value{small(), seeded(2, 300)} {
		s := spelledAll(l)
		for i, a := range l {
			for j, b := range l {
				wantCmp(t, a, b, strings.Compare(s[i], s[j]))
				wantBegins(t, a, b, strings.HasPrefix(s[i], s[j]))
			}
		}
	}
}

// P7.1: MaxCols + 1 values are a key, one more is too many, in either one or in both.
func TestTooManyValues(t *testing.T) {
	for _, v := range few() {
		a, b := long(most, v), long(most, blob("b"))
		wantCmp(t, a, a, 0)
		wantCmp(t, a, b, -1)
		wantBegins(t, a, a, true)
		wantBegins(t, b, a, false)
		for _, n := range []int{most + 1, most + 2, 2 * most, 255, 256, 257, 1000} {
			m := long(n, v)
			wantNone(t, nil, m, api.ErrLimit)
			wantNone(t, a, m, api.ErrLimit)
			wantNone(t, m[:most], m, api.ErrLimit)
			wantNone(t, key(integer(5)), m, api.ErrLimit)
			wantNone(t, m, m, api.ErrLimit)
		}
	}
}

// P7.1, R4: what is no value, in either key, at each place; ErrForm ahead of ErrLimit.
func TestNoValues(t *testing.T) {
	tooMany := make([]api.Value, 40)
	for _, w := range wrong() {
		for n := 1; n <= most+2; n++ {
			for at := range n {
				k := slices.Repeat(key(integer(5)), n)
				k[at] = w
				for _, other := range [][]api.Value{nil, key(integer(4)), key(integer(6)), k[:at], k, tooMany} {
					wantNone(t, k, other, api.ErrForm)
				}
			}
		}
		k := append(slices.Clone(tooMany), w)
		wantNone(t, k, nil, api.ErrForm)
		wantNone(t, k, tooMany, api.ErrForm)
		wantNone(t, k, key(integer(1)), api.ErrForm)
		for _, x := range wrong() {
			wantNone(t, key(w), key(x), api.ErrForm)
		}
	}
}

// P7.2: no keys, one key, and a place ahead of all, at each, between each two and behind all.
func TestFindPlaces(t *testing.T) {
	for _, k := range small() {
		wantPlace(t, nil, k, 0)
		wantPlace(t, [][]api.Value{}, k, 0)
	}
	wantPlace(t, [][]api.Value{nil}, nil, 0)
	wantPlace(t, [][]api.Value{{}}, key(null()), 1)
	for n := 1; n <= 70; n++ {
		var l [][]api.Value
		for i := range n {
			l = append(l, key(integer(int64(10*i))))
		}
		wantPlace(t, l, nil, 0)
		wantPlace(t, l, key(null(), text("z")), 0)
		for i := range n {
			at := int64(10 * i)
			wantPlace(t, l, key(integer(at-1)), i)
			wantPlace(t, l, key(integer(at)), i)
			wantPlace(t, l, key(integer(at), null()), i+1)
			wantPlace(t, l, key(integer(at+1)), i+1)
		}
		wantPlace(t, l, key(text("")), n)
	}
}

// P7.2: every key in lists of others, as they are found by going through the list.
func TestFindSpelled(t *testing.T) {
	all := small()
	for _, step := range []int{1, 2, 3, 7, 50, 100, len(all)} {
		for from := range min(step, 8) {
			var l [][]api.Value
			for i := from; i < len(all); i += step {
				l = append(l, all[i])
			}
			s := spelledAll(l)
			for _, k := range all {
				wantPlace(t, l, k, placeOf(s, k))
			}
		}
	}
	for seed := range int64(30) {
		l := sortKeys(seeded(seed, 5*int(seed)))
		s := spelledAll(l)
		for _, k := range append(seeded(100+seed, 20), l...) {
			wantPlace(t, l, k, placeOf(s, k))
		}
	}
}

// P7.2: a list of many keys.
func TestFindMany(t *testing.T) {
	const count = 20000
	var l [][]api.Value
	for i := range int64(count) {
		l = append(l, key(integer(i/100), integer(i%100*2)))
	}
	for i := int64(0); i < count; i += 997 {
		wantPlace(t, l, l[i], int(i))
		wantPlace(t, l, key(integer(i/100), integer(i%100*2+1)), int(i)+1)
		wantPlace(t, l, key(integer(i/100)), int(i/100*100))
	}
	wantPlace(t, l, nil, 0)
	wantPlace(t, l, key(blob("")), count)
}

// P7.2: keys that are not each above the one ahead, alike ones among them, at each place.
func TestFindNotRising(t *testing.T) {
	wantNoPlace(t, [][]api.Value{nil, nil}, nil, api.ErrForm)
	wantNoPlace(t, [][]api.Value{nil, {}}, key(integer(1)), api.ErrForm)
	wantNoPlace(t, [][]api.Value{key(null()), nil}, nil, api.ErrForm)
	wantNoPlace(t, [][]api.Value{key(integer(1), null()), key(integer(1))}, key(text("z")), api.ErrForm)
	wantNoPlace(t, [][]api.Value{key(text("9")), key(text("10"))}, nil, api.ErrForm)
	wantNoPlace(t, [][]api.Value{key(integer(1), integer(2)), key(integer(1), integer(1))}, nil, api.ErrForm)
	wantNoPlace(t, [][]api.Value{key(integer(2)), key(integer(3)), key(integer(1))}, key(integer(9)), api.ErrForm)
	l := small()[:40]
	s := spelledAll(l)
	for i := 1; i < len(l); i++ {
		alike := slices.Insert(slices.Clone(l), i, slices.Clone(l[i]))
		swapped := slices.Clone(l)
		swapped[i-1], swapped[i] = l[i], l[i-1]
		back := slices.Insert(slices.Clone(l), len(l), l[i])
		for _, k := range [][]api.Value{nil, l[0], l[i-1], l[i], l[len(l)-1], key(blob("z"))} {
			wantNoPlace(t, alike, k, api.ErrForm)
			wantNoPlace(t, swapped, k, api.ErrForm)
			wantNoPlace(t, back, k, api.ErrForm)
			wantPlace(t, l, k, placeOf(s, k))
		}
	}
}

// P7.2: what is no value, in each key of the list or in the one that is sought.
func TestFindNoValues(t *testing.T) {
	tooMany := make([]api.Value, most+1)
	for _, w := range wrong() {
		wantNoPlace(t, nil, key(w), api.ErrForm)
		wantNoPlace(t, [][]api.Value{key(w)}, nil, api.ErrForm)
		wantNoPlace(t, [][]api.Value{key(w)}, key(w), api.ErrForm)
		wantNoPlace(t, [][]api.Value{key(w), key(w)}, nil, api.ErrForm)
		for n := 1; n <= 9; n++ {
			var l [][]api.Value
			for i := range n {
				l = append(l, key(integer(int64(i)), null(), text("a")))
			}
			for i := range n {
				for at := range 3 {
					bad := slices.Clone(l)
					bad[i] = slices.Clone(l[i])
					bad[i][at] = w
					for _, k := range [][]api.Value{nil, l[0], l[n-1], key(text("z")), tooMany} {
						wantNoPlace(t, bad, k, api.ErrForm)
					}
					wantNoPlace(t, l, bad[i], api.ErrForm)
				}
			}
		}
	}
}

// P7.2: keys of too many values, in the list or sought.
func TestFindTooManyValues(t *testing.T) {
	wantPlace(t, [][]api.Value{long(most, null())}, long(most, integer(1)), 1)
	wantPlace(t, [][]api.Value{long(most, text("a"))}, long(most, integer(1)), 0)
	for _, n := range []int{most + 1, most + 2, 100} {
		for _, v := range few() {
			m := long(n, v)
			wantNoPlace(t, nil, m, api.ErrLimit)
			wantNoPlace(t, [][]api.Value{nil, key(integer(3))}, m, api.ErrLimit)
			wantNoPlace(t, [][]api.Value{m}, nil, api.ErrLimit)
			wantNoPlace(t, [][]api.Value{m}, m, api.ErrLimit)
			wantNoPlace(t, [][]api.Value{nil, m, key(integer(1)), key(integer(2))}, key(integer(2)), api.ErrLimit)
			wantNoPlace(t, [][]api.Value{nil, m, key(integer(1)), slices.Repeat(key(integer(2)), n)}, nil, api.ErrLimit)
			wantNoPlace(t, [][]api.Value{m[:most], m}, nil, api.ErrLimit)
		}
	}
}

// P7.2, R4: what is no value and what is not rising go ahead of too many values, wherever each is.
func TestFindOrderOfErrors(t *testing.T) {
	m := long(most+1, integer(1))
	one, two := key(integer(1)), key(integer(2))
	for _, w := range wrong() {
		wantNoPlace(t, [][]api.Value{m}, key(w), api.ErrForm)
		wantNoPlace(t, [][]api.Value{key(w)}, m, api.ErrForm)
		wantNoPlace(t, [][]api.Value{m, key(w)}, nil, api.ErrForm)
		wantNoPlace(t, [][]api.Value{key(w), m}, nil, api.ErrForm)
		wantNoPlace(t, [][]api.Value{append(slices.Clone(m), w)}, nil, api.ErrForm)
		wantNoPlace(t, nil, append(slices.Clone(m), w), api.ErrForm)
		wantNoPlace(t, [][]api.Value{two, one}, key(w), api.ErrForm)
	}
	wantNoPlace(t, [][]api.Value{two, one}, m, api.ErrForm)
	wantNoPlace(t, [][]api.Value{two, two}, m, api.ErrForm)
	wantNoPlace(t, [][]api.Value{m, two, one}, nil, api.ErrForm)
	wantNoPlace(t, [][]api.Value{m, two, two}, nil, api.ErrForm)
	wantNoPlace(t, [][]api.Value{one, m}, nil, api.ErrForm)
	wantNoPlace(t, [][]api.Value{m, m}, nil, api.ErrForm)
	wantNoPlace(t, [][]api.Value{m, m[:most]}, nil, api.ErrForm)
}

// P7.3: only the same keys are alike, the other way round it is the negative, and the order goes on.
func TestOrder(t *testing.T) {
	l := append(seeded(3, 90), small()[:60]...)
	told := make([][]int, len(l))
	for i, a := range l {
		for _, b := range l {
			c, e := Cmp(a, b)
			if e != api.OK {
				t.Fatalf("Cmp %s and %s: %d", showKey(a), showKey(b), e)
			}
			told[i] = append(told[i], c)
		}
	}
	for i, a := range l {
		for j, b := range l {
			if told[i][j] != -told[j][i] || (told[i][j] == 0) != slices.Equal(a, b) {
				t.Fatalf("%s and %s: %d, %d", showKey(a), showKey(b), told[i][j], told[j][i])
			}
			for k, c := range l {
				if told[i][j] < 0 && told[j][k] < 0 && told[i][k] != -1 {
					t.Fatalf("%s, %s, %s: not below", showKey(a), showKey(b), showKey(c))
				}
			}
		}
	}
}

// P7.3: whatever begins with k is not below it, and what is begun both ways round is the same.
func TestBeginsFollows(t *testing.T) {
	l := append(seeded(4, 150), small()[:100]...)
	for _, a := range l {
		for _, b := range l {
			ab, _ := Begins(a, b)
			ba, _ := Begins(b, a)
			c, _ := Cmp(a, b)
			if ab && c < 0 || (ab && ba) != (c == 0) {
				t.Fatalf("%s and %s: %v, %v, %d", showKey(a), showKey(b), ab, ba, c)
			}
		}
	}
}

// wantTogether asks that the keys of l that begin with k are just some that stand together from Find's place on, and tells how many.
func wantTogether(t *testing.T, l [][]api.Value, k []api.Value) int {
	t.Helper()
	at, e := Find(l, k)
	if e != api.OK {
		t.Fatalf("Find %s in %s: %d", showKey(k), showKeys(l), e)
	}
	end := at
	for i, x := range l {
		ok, e := Begins(x, k)
		if e != api.OK || ok && i != end {
			t.Fatalf("%s in %s: from %d on to %d, and at %d; %d", showKey(k), showKeys(l), at, end, i, e)
		}
		if ok {
			end++
		}
	}
	return end - at
}

// P7.3: the keys that begin with k stand together, from Find's place on.
func TestTogether(t *testing.T) {
	all := small()
	for _, k := range all {
		want := 0
		for _, x := range all {
			if len(x) >= len(k) && slices.Equal(x[:len(k)], k) {
				want++
			}
		}
		if n := wantTogether(t, all, k); n != want {
			t.Fatalf("%s: %d, not %d", showKey(k), n, want)
		}
	}
	for seed := range int64(8) {
		l := sortKeys(seeded(seed+50, 80))
		for _, x := range append(seeded(seed+80, 10), l...) {
			for n := range len(x) + 1 {
				wantTogether(t, l, x[:n])
			}
		}
	}
}

// P7.3: many keys that begin with the same values, with others ahead and behind.
func TestTogetherMany(t *testing.T) {
	same := key(text("a"), integer(7), blob("\x00"))
	l := [][]api.Value{nil, key(integer(3)), key(text("a"), integer(7), text("z"))}
	for i := range int64(500) {
		l = append(l, append(slices.Clone(same), integer(i)))
	}
	l = append(l, key(text("a"), integer(7), blob("\x00\x00")), key(text("a"), integer(8)), key(text("aa")))
	for k, want := range map[int]int{0: len(l), 1: 503, 2: 502, 3: 500} {
		if n := wantTogether(t, l, same[:k]); n != want {
			t.Fatalf("%s: %d, not %d", showKey(same[:k]), n, want)
		}
	}
	wantPlace(t, l, same, 3)
	wantPlace(t, l, append(slices.Clone(same), blob("")), 503)
}

// R2: a nil list and an empty one are one.
func TestNilIsEmpty(t *testing.T) {
	for _, a := range [][]api.Value{nil, {}} {
		for _, b := range [][]api.Value{nil, {}} {
			wantCmp(t, a, b, 0)
			wantBegins(t, a, b, true)
			wantPlace(t, [][]api.Value{a}, b, 0)
			wantPlace(t, [][]api.Value{a, key(null())}, b, 0)
		}
		wantCmp(t, a, key(null()), -1)
		wantBegins(t, key(null()), a, true)
		wantPlace(t, nil, a, 0)
		wantPlace(t, [][]api.Value{}, a, 0)
	}
}

// R2: what is handed in stays as it is, its spare room too, whether there is an error or not.
func TestNothingChanged(t *testing.T) {
	mark := text("mark")
	spare := func(k []api.Value) []api.Value {
		room := append(slices.Clone(k), mark, mark)
		return room[:len(k)]
	}
	stays := func(k, was []api.Value) bool {
		return slices.Equal(k, was) && k[:len(k)+2][len(k)] == mark && k[:len(k)+2][len(k)+1] == mark
	}
	keys := append(small()[:30], key(api.Value{Int: 1}), make([]api.Value, most+1))
	for _, a := range keys {
		for _, b := range keys {
			x, y := spare(a), spare(b)
			Cmp(x, y)
			Begins(x, y)
			room := [][]api.Value{x, y, {mark}, {mark}}
			Find(room[:2], y)
			Find(room[:1], y)
			if !stays(x, a) || !stays(y, b) {
				t.Fatalf("%s and %s are now %s and %s", showKey(a), showKey(b), showKey(x), showKey(y))
			}
			for i, want := range [][]api.Value{a, b, {mark}, {mark}} {
				if !slices.Equal(room[i], want) {
					t.Fatalf("%s and %s: the list is now %s", showKey(a), showKey(b), showKeys(room))
				}
			}
		}
	}
}

// The tests lean on it: bytes stand as ascending's values do.
func TestSpelled(t *testing.T) {
	all := ascending()
	for i := 1; i < len(all); i++ {
		if spelled(all[i-1:i]) >= spelled(all[i:i+1]) {
			t.Fatalf("%s is not below %s", show(all[i-1]), show(all[i]))
		}
	}
}
