package words

import (
	"regexp"
	"slices"
	"strings"
	"testing"

	"cadastre/api"
)

// keys are the key words, as chapter 20 spells them.
const keys = "any and begin blob by commit count create delete desc drop from index insert integer into is length max min not null on or order rollback rtree select set sum table text typeof unique update using values virtual where"

func want(t *testing.T, s string, w bool) {
	t.Helper()
	if IsName(s) != w {
		t.Errorf("IsName(%.100q, of %d bytes): %v", s, len(s), !w)
	}
}

// TestShort: all texts of up to three bytes, the last of them any, are names, if they are words in small letters and no key words.
func TestShort(t *testing.T) {
	word := regexp.MustCompile(`^[a-z_][a-z0-9_]*$`)
	want(t, "", false)
	some := []byte("abnoyz_019AZ .(\x00\xff")
	for c := range 256 {
		ends := []string{string([]byte{byte(c)})}
		for _, b := range some {
			ends = append(ends, string([]byte{b, byte(c)}), string([]byte{'a', b, byte(c)}))
		}
		for _, s := range ends {
			want(t, s, word.MatchString(s) && !slices.Contains(strings.Fields(keys), s))
		}
	}
}

func TestKeys(t *testing.T) {
	for _, k := range strings.Fields(keys) {
		want(t, k, false)
		want(t, strings.ToUpper(k), false)
		want(t, strings.ToUpper(k[:1])+k[1:], false)
		for _, s := range []string{k + "_", "_" + k, k + "1", k + k, "x" + k} {
			want(t, s, true)
		}
		for _, s := range []string{k + " ", " " + k, k + ".", "1" + k, k + "'", k + "--", k + ";"} {
			want(t, s, false)
		}
	}
	for _, s := range strings.Fields("rowid asc all distinct group having int limit as in like key primary default end transaction nulls counts isnull bool true false") {
		want(t, s, true)
	}
}

func TestLong(t *testing.T) {
	for n := range api.MaxName {
		want(t, strings.Repeat("z", n+1), true)
		want(t, strings.Repeat("_", n)+"A", false)
		want(t, "_"+strings.Repeat("9", n), true)
	}
	for _, n := range []int{api.MaxName + 1, api.MaxName + 2, 2 * api.MaxName, 1 << 20} {
		want(t, strings.Repeat("z", n), false)
	}
}
