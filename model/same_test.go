package model

import (
	"bytes"
	"math"
	"slices"
	"strconv"
	"strings"
	"testing"

	"cantle/api"
)

// mustBeSame fails, unless Same tells this of two answers, whichever stands first, and that each is the same as itself.
func mustBeSame(t *testing.T, a, b Answer, want bool) {
	t.Helper()
	if Same(a, b) != want || Same(b, a) != want {
		t.Fatalf("%+v, %+v: %t, the other way round %t", a, b, Same(a, b), Same(b, a))
	}
	if !Same(a, a) || !Same(b, b) {
		t.Fatalf("not the same as itself: %+v, %+v", a, b)
	}
}

// someAnswers are each unlike all others.
func someAnswers() []Answer {
	var l []Answer
	for _, e := range []api.Errno{0, 1, 4, 14, 15, -1, math.MaxInt, math.MinInt, 1 << 8, 1 << 32} {
		for _, data := range []string{"", "\x00", "a", "b", "ab", "ba", "abc", "\xFF"} {
			for _, own := range [][]string{nil, {""}, {"", ""}, {"a"}, {"b"}, {"ab"}, {"a", "b"}, {"b", "a"}, {"a", "b", "c"}, {"a", "bc"}, {"ab", "c"}, {"a", "a"}} {
				l = append(l, Answer{E: e, Data: []byte(data), Names: own})
			}
		}
	}
	return l
}

func TestSameOfAllPairs(t *testing.T) {
	for i, a := range someAnswers() {
		for k, b := range someAnswers() {
			mustBeSame(t, a, b, i == k)
		}
	}
}

// TestSameOfTheErrorAlone: all that there are, and some that there aren't.
func TestSameOfTheErrorAlone(t *testing.T) {
	for a := api.Errno(-2); a < 17; a++ {
		for b := api.Errno(-2); b < 17; b++ {
			mustBeSame(t, Answer{E: a}, Answer{E: b}, a == b)
			mustBeSame(t, Answer{a, []byte("x"), []string{"n"}}, Answer{b, []byte("x"), []string{"n"}}, a == b)
		}
	}
}

// TestSameOfNone: no bytes as nil and as none in a row, and no names likewise.
func TestSameOfNone(t *testing.T) {
	for _, a := range [][]byte{nil, {}, make([]byte, 0, 9), []byte("abc")[:0]} {
		for _, b := range [][]byte{nil, {}, make([]byte, 0, 9), []byte("xyz")[3:]} {
			for _, own := range [][]string{nil, {"n"}} {
				mustBeSame(t, Answer{api.OK, a, own}, Answer{api.OK, b, own}, true)
				mustBeSame(t, Answer{api.ErrForm, a, own}, Answer{api.ErrForm, b, own}, true)
				mustBeSame(t, Answer{api.OK, a, own}, Answer{api.OK, []byte{0}, own}, false)
			}
		}
	}
	for _, a := range [][]string{nil, {}, make([]string, 0, 9), {"n"}} {
		for _, b := range [][]string{nil, {}, make([]string, 0, 9), {"m"}} {
			a, b := a[:0:cap(a)], b[:0:cap(b)]
			for _, data := range [][]byte{nil, []byte("x")} {
				mustBeSame(t, Answer{api.OK, data, a}, Answer{api.OK, data, b}, true)
				mustBeSame(t, Answer{api.ErrForm, data, a}, Answer{api.ErrForm, data, b}, true)
				mustBeSame(t, Answer{api.OK, data, a}, Answer{api.OK, data, []string{""}}, false)
			}
		}
	}
}

// TestSameByOneByte: the first, each middle and the last one, by each of its bits, and how many there are.
func TestSameByOneByte(t *testing.T) {
	for _, size := range []int{1, 2, 3, 7, 8, 9, 16, 17, 64, 100} {
		own := bytes.Repeat([]byte("ab"), 50)[:size]
		a := Answer{Data: own, Names: []string{"n"}}
		mustBeSame(t, a, Answer{Data: slices.Clone(own), Names: []string{"n"}}, true)
		for at := range size {
			for bit := range 8 {
				other := slices.Clone(own)
				other[at] ^= 1 << bit
				mustBeSame(t, a, Answer{Data: other, Names: []string{"n"}}, false)
			}
		}
		for fewer := range size {
			mustBeSame(t, a, Answer{Data: own[:fewer], Names: []string{"n"}}, false)
		}
		mustBeSame(t, a, Answer{Data: append(slices.Clone(own), 0), Names: []string{"n"}}, false)
	}
}

// TestSameByOneName: the first, each middle and the last one, how many there are, and their order.
func TestSameByOneName(t *testing.T) {
	for _, count := range []int{1, 2, 3, 5, 20} {
		own := make([]string, count)
		for k := range own {
			own[k] = "name" + strconv.Itoa(k)
		}
		a := Answer{Data: []byte("x"), Names: own}
		mustBeSame(t, a, Answer{Data: []byte("x"), Names: slices.Clone(own)}, true)
		for at := range count {
			for _, other := range []string{"", "nam", "name", own[at] + "x", own[at] + "\x00", "\x00" + own[at], strings.ToUpper(own[at])} {
				l := slices.Clone(own)
				l[at] = other
				mustBeSame(t, a, Answer{Data: []byte("x"), Names: l}, false)
			}
			mustBeSame(t, a, Answer{Data: []byte("x"), Names: own[:at]}, false)
			mustBeSame(t, a, Answer{Data: []byte("x"), Names: slices.Insert(slices.Clone(own), at, "")}, false)
			for to := range at {
				l := slices.Clone(own)
				l[at], l[to] = l[to], l[at]
				mustBeSame(t, a, Answer{Data: []byte("x"), Names: l}, false)
			}
		}
		mustBeSame(t, a, Answer{Data: []byte("x"), Names: append(slices.Clone(own), "")}, false)
	}
}

// TestSameReadsNoSpareRoom: what stands behind bytes and names is neither asked nor changed.
func TestSameReadsNoSpareRoom(t *testing.T) {
	a := Answer{Data: []byte("abcxyz")[:3], Names: []string{"n", "m", "spare"}[:2]}
	b := Answer{Data: []byte("abcuvw")[:3], Names: []string{"n", "m", "other"}[:2]}
	mustBeSame(t, a, b, true)
	if string(a.Data[:6]) != "abcxyz" || string(b.Data[:6]) != "abcuvw" || !slices.Equal(a.Names[:3], []string{"n", "m", "spare"}) || !slices.Equal(b.Names[:3], []string{"n", "m", "other"}) {
		t.Errorf("changed: %+v, %+v", a, b)
	}
}
