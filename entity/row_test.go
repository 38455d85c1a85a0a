package entity_test

import (
	"cmp"
	"fmt"
	"math"
	"slices"
	"strings"
	"testing"

	"manystrand/api"
	"manystrand/entity"
	"manystrand/tree"
)

func TestDict(t *testing.T) {
	play(t, "P11.2", []script{
		{"put, and put again", []string{"make dict 0 0: 1", "put 1 a 5: 0", "at 1 a: 5", "put 1 a 6: 5", "at 1 a: 6", "keys 1: ['a']"}},
		{"no such feature", []string{"make dict 0 0: 1", "at 1 a: error 5", "remove 1 a: error 5", "put 1 a 5: 0", "at 1 b: error 5", "at 1 1: error 5", "remove 1 b: error 5", "keys 1: ['a']"}},
		{"removed", []string{"make dict 0 0: 1", "put 1 a 5: 0", "put 1 b 6: 0", "remove 1 a: 5", "at 1 a: error 5", "remove 1 a: error 5", "keys 1: ['b']", "put 1 a 7: 0", "at 1 a: 7", "at 1 b: 6"}},
		{"features ascend", []string{"make dict 0 0: 1", "put 1 b 5: 0", "put 1 10 6: 0", "put 1 a 7: 0", "put 1 9 8: 0", "put 1 B 1: 0", "put 1 ab 2: 0", "put 1 1000 3: 0", "keys 1: [9 10 1000 'B' 'a' 'ab' 'b']", "at 1 b: 5", "at 1 10: 6", "at 1 a: 7", "at 1 9: 8", "at 1 B: 1", "at 1 ab: 2", "at 1 1000: 3"}},
		{"no feature", []string{"make dict 0 0: 1", "put 1 -1 5: error 2", "put 1 1001 5: error 2", "at 1 -1: error 2", "at 1 1001: error 2", "remove 1 -1: error 2", "remove 1 1001: error 2", "keys 1: []"}},
		{"no variable", []string{"make dict 0 0: 1", "put 1 a 0: error 2", "put 1 a -1: error 2", "keys 1: []", "put 1 a 5: 0", "put 1 a 0: error 2", "at 1 a: 5"}},
		{"dicts are not each other's", []string{"make dict 0 0: 1", "make dict 0 0: 2", "put 1 a 5: 0", "at 2 a: error 5", "put 2 a 6: 0", "at 1 a: 5", "remove 2 a: 6", "at 1 a: 5"}},
	})
}

func TestArray(t *testing.T) {
	play(t, "P11.2", []script{
		{"put", []string{"row 0 1 3 5: 1", "put 1 2 6: 5", "at 1 2: 6", "at 1 1: 5", "at 1 3: 5", "put 1 2 7: 6", "keys 1: [1 2 3]"}},
		{"0 and below", []string{"row 0 -2 1 5: 1", "put 1 0 6: 5", "put 1 -2 7: 5", "put 1 1 8: 5", "at 1 0: 6", "at 1 -1: 5", "at 1 -2: 7", "at 1 1: 8", "keys 1: [-2 -1 0 1]"}},
		{"beyond the features", []string{"row 0 5000 5002 5: 1", "put 1 5001 6: 5", "at 1 5001: 6", "at 1 5002: 5", "keys 1: [5000 5001 5002]"}},
		{"no place", []string{"row 0 1 3 5: 1", "at 1 0: error 5", "at 1 4: error 5", "put 1 0 6: error 5", "put 1 4 6: error 5", "at 1 -1: error 5", "at 1 1001: error 5", "row 0 1 0 5: 2", "at 2 0: error 5", "at 2 1: error 5", "put 2 1 5: error 5"}},
		{"a text", []string{"row 0 -1 3 5: 1", "at 1 a: error 5", "put 1 a 6: error 5", "keys 1: [-1 0 1 2 3]"}},
		{"no variable", []string{"row 0 1 3 5: 1", "put 1 1 0: error 2", "put 1 1 -1: error 2", "put 1 9 0: error 2", "put 1 a 0: error 2", "at 1 1: 5"}},
		{"not removed", []string{"row 0 1 3 5: 1", "remove 1 1: error 2", "remove 1 9: error 2", "remove 1 a: error 2", "keys 1: [1 2 3]"}},
	})
	y := making(t, "row 0 -1 3 5")
	for _, f := range []api.Feat{{N: 1, Text: "a"}, {N: 0, Text: "a"}, {N: -1, Text: " "}, {N: 0, Text: "\t"}, {N: 3, Text: strings.Repeat("a", 61)}} {
		if x, err := y.At(1, f); x != 0 || err != api.ErrNone {
			t.Errorf("P11.2: At of an array at %v: %d, %d", f, x, err)
		}
		if x, err := y.Put(1, f, 6); x != 0 || err != api.ErrNone {
			t.Errorf("P11.2: Put of an array at %v: %d, %d", f, x, err)
		}
		if x, err := y.Remove(1, f); x != 0 || err != api.ErrArg {
			t.Errorf("P11.2: Remove of an array at %v: %d, %d", f, x, err)
		}
	}
}

func TestNoRow(t *testing.T) {
	y := making(t, "make name 0 0", "make chunk 0 5", "make cell 0 5", "make port 0 5", "make lock 0 0")
	for n := range 5 {
		for _, call := range []string{"at %d a", "at %d 1", "put %d a 5", "put %d 1 5", "remove %d a", "keys %d"} {
			call = fmt.Sprintf(call, n+1)
			if got := does(t, y, call); got != "error 2" {
				t.Errorf("P11.2: %s, of a %s: %s", call, y.Sort(n+1), got)
			}
		}
	}
}

// candidates returns what may be features, and what is none.
func candidates() (l []api.Feat) {
	for n := -2; n < 12; n++ {
		l = append(l, api.Feat{N: n})
	}
	l = append(l, api.Feat{N: 999}, api.Feat{N: 1000}, api.Feat{N: 1001}, api.Feat{N: math.MaxInt}, api.Feat{N: math.MinInt})
	for b := range 256 {
		text := string([]byte{byte(b)})
		l = append(l, api.Feat{Text: text}, api.Feat{Text: "a" + text}, api.Feat{Text: text + "b"}, api.Feat{N: 1, Text: text})
	}
	for _, n := range []int{59, 60, 61, 1000} {
		l = append(l, api.Feat{Text: strings.Repeat("a", n)}, api.Feat{Text: strings.Repeat("\n", n)})
	}
	l = append(l, api.Feat{Text: "é"}, api.Feat{N: 1001, Text: "a"}, api.Feat{N: -1, Text: "a"})
	slices.SortFunc(l, func(a, b api.Feat) int { return cmp.Or(cmp.Compare(a.Text, b.Text), cmp.Compare(b.N, a.N)) })
	return slices.Compact(l)
}

// TestFeatures: a dict takes what layer 2 calls features, and keeps them in layer 2's order.
func TestFeatures(t *testing.T) {
	y := entity.New()
	y.Make("dict", 0, 0)
	want := 0
	for i, f := range candidates() {
		is := tree.IsFeat(f)
		wantErr, wantNone := api.OK, api.ErrNone
		if !is {
			wantErr, wantNone = api.ErrArg, api.ErrArg
		}
		_, ahead := y.At(1, f)
		_, removed := y.Remove(1, f)
		_, put := y.Put(1, f, i+1)
		x, behind := y.At(1, f)
		if is {
			want++
		}
		if ahead != wantNone || removed != wantNone || put != wantErr || behind != wantErr || is && x != i+1 {
			t.Errorf("P11.2: %#v, a feature (%v): At %d, Remove %d, Put %d, At %d", f, is, ahead, removed, put, behind)
		}
	}
	keys, err := y.Keys(1)
	if len(keys) != want || err != api.OK {
		t.Fatalf("P11.2: Keys: %d, not %d; %d", len(keys), want, err)
	}
	for i, f := range keys {
		if i > 0 && !tree.Less(keys[i-1], f) {
			t.Errorf("P11.2: %#v ahead of %#v", keys[i-1], f)
		}
	}
}

// TestKeysAreNew: what is returned shares no memory with the yard.
func TestKeysAreNew(t *testing.T) {
	y := making(t, "make dict 0 0", "put 1 a 5", "put 1 b 5", "row 0 1 2 5")
	for n, want := range map[int]string{1: "['a' 'b']", 2: "[1 2]"} {
		l, _ := y.Keys(n)
		l[0] = api.Feat{N: 9}
		_ = append(l[:1], l[0])
		if got := does(t, y, fmt.Sprint("keys ", n)); got != want {
			t.Errorf("R4: keys are changed from outside: %s", got)
		}
	}
	l, _ := y.Keys(1)
	does(t, y, "remove 1 a")
	if written(l) != "['a' 'b']" {
		t.Errorf("R4: what Keys returned is changed by the yard: %v", l)
	}
}

// TestManyFeatures: a dict has more features than a record could.
func TestManyFeatures(t *testing.T) {
	const n = 3000
	y := making(t, "make dict 0 0")
	word := func(i int) string { return fmt.Sprintf("a%d", i*7919%n) }
	for i := range n {
		if old, err := y.Put(1, feat(word(i)), i+1); old != 0 || err != api.OK {
			t.Fatalf("P11.2: %s: %d, %d", word(i), old, err)
		}
	}
	for i := range n {
		if x, err := y.At(1, feat(word(i))); x != i+1 || err != api.OK {
			t.Fatalf("P11.2: %s: %d, %d", word(i), x, err)
		}
	}
	if keys, err := y.Keys(1); len(keys) != n || err != api.OK {
		t.Errorf("P11.2: %d, %d", len(keys), err)
	}
}
