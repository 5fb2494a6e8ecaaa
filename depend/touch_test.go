package depend_test

import (
	"fmt"
	"math"
	"slices"
	"testing"

	"concourse/api"
	"concourse/depend"
)

// keysOf are keys of numbers and names by turns.
func keysOf(words ...any) []api.Key {
	var keys []api.Key
	for at := 0; at < len(words); at += 2 {
		keys = append(keys, api.Key{Num: words[at].(int), Name: words[at+1].(string)})
	}
	return keys
}

// wantTouch fails unless Touch answers this, either way round.
func wantTouch(t *testing.T, a, b []api.Key, want bool) {
	t.Helper()
	if depend.Touch(a, b) != want || depend.Touch(b, a) != want {
		t.Errorf("Touch of %q and %q is not %t, either way round", told(a), told(b), want)
	}
}

// P15.1: keys of one number, by their names.
func TestTouchOfOneNum(t *testing.T) {
	for _, num := range []int{1, 0, -1, 257, math.MinInt, math.MaxInt} {
		for _, one := range []struct {
			a, b string
			want bool
		}{
			{"", "", true}, {"", ".", true}, {"", "/3", true}, {"", "any", true}, {".", ".", false}, {".", "/3", false}, {".", "..", false}, {".", "any", false},
			{"/3", "/3", true}, {"/3", "/4", false}, {"/3", "/33", false}, {"/", "/", true}, {"..", "..", true}, {"any", "any", true}, {"any", "Any", false},
			{"\x00", "", true}, {"\x00", "\x00", true}, {"\xff", "\xfe", false}, {"\xff", "\xff", true}, {" ", "", true}, {" ", ".", false},
		} {
			wantTouch(t, keysOf(num, one.a), keysOf(num, one.b), one.want)
		}
	}
}

// P15.1: keys of unlike numbers do not touch, whatever their names.
func TestTouchOfUnlikeNums(t *testing.T) {
	names := []string{"", ".", "/3", "any"}
	for _, a := range names {
		for _, b := range names {
			wantTouch(t, keysOf(1, a), keysOf(2, b), false)
			wantTouch(t, keysOf(1, a), keysOf(-1, b), false)
			wantTouch(t, keysOf(0, a), keysOf(math.MinInt, b), false)
		}
	}
}

// P15.1: no keys touch nothing.
func TestTouchOfNone(t *testing.T) {
	for _, none := range [][]api.Key{nil, {}} {
		wantTouch(t, none, nil, false)
		wantTouch(t, none, []api.Key{}, false)
		wantTouch(t, none, keysOf(1, ""), false)
		wantTouch(t, none, keysOf(0, ""), false)
		wantTouch(t, none, keysOf(1, ".", 2, "/3"), false)
	}
}

// P15.1: one pair of many is enough, wherever the two stand; keys may stand in any row, and more than once.
func TestTouchOfMany(t *testing.T) {
	apart, other := keysOf(1, ".", 2, ".", 3, "/1", 4, ""), keysOf(1, ".", 2, "/7", 3, "/2", 5, "")
	wantTouch(t, apart, other, false)
	for _, pair := range [][2]api.Key{
		{{Num: 9}, {Num: 9}}, {{Num: 9}, {Num: 9, Name: "."}}, {{Num: 9}, {Num: 9, Name: "/1"}}, {{Num: 9, Name: "/1"}, {Num: 9, Name: "/1"}},
		{{Num: 1}, {Num: 1, Name: "/1"}}, {{Num: 3, Name: "/2"}, {Num: 8}},
	} {
		for i := range len(apart) + 1 {
			for j := range len(other) + 1 {
				a, b := slices.Insert(slices.Clone(apart), i, pair[0]), slices.Insert(slices.Clone(other), j, pair[1])
				wantTouch(t, a, b, true)
				wantTouch(t, append(a, a...), append(b, b...), true)
			}
		}
	}
	wantTouch(t, keysOf(1, ".", 1, "."), keysOf(1, ".", 1, ".", 1, "/1"), false)
	wantTouch(t, keysOf(1, ".", 1, ""), keysOf(1, "."), true)
}

// P15.1: lists of few numbers and names, held against the plain rule.
func TestTouchAsThePlainRule(t *testing.T) {
	g := row(15)
	some := func() []api.Key {
		var keys []api.Key
		for range g.below(5) {
			keys = append(keys, api.Key{Num: g.below(5) - 2, Name: pick(&g, "", ".", ".", "/1", "/2", "/3")})
		}
		return keys
	}
	seen := [2]int{}
	for range 20_000 {
		a, b := some(), some()
		want := plainTouch(a, b)
		wantTouch(t, a, b, want)
		if want {
			seen[1]++
		} else {
			seen[0]++
		}
	}
	if seen[0] < 2000 || seen[1] < 2000 {
		t.Error(seen)
	}
}

// R1: long lists are held against each other in little time.
func TestTouchOfLongLists(t *testing.T) {
	var a, b []api.Key
	for at := range 100_000 {
		a = append(a, api.Key{Num: at % 9, Name: fmt.Sprintf("a%d", at)}, api.Key{Num: at, Name: "."})
		b = append(b, api.Key{Num: at % 9, Name: fmt.Sprintf("b%d", at)}, api.Key{Num: at, Name: "."})
	}
	wantTouch(t, a, b, false)
	wantTouch(t, a, append(b, api.Key{Num: 99_999}), true)
	wantTouch(t, a, append(b, api.Key{Num: 100_000}), false)
}
