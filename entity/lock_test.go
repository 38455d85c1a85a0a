package entity_test

import (
	"fmt"
	"math"
	"slices"
	"testing"

	"manystrand/api"
)

func TestTake(t *testing.T) {
	play(t, "P11.3", []script{
		{"free", []string{"make lock 0 0: 1", "owner 1: 0 0", "take 1 5: true", "owner 1: 5 1", "waiting 1: []"}},
		{"once more", []string{"make lock 0 0: 1", "take 1 5: true", "take 1 5: true", "take 1 5: true", "owner 1: 5 3"}},
		{"it waits", []string{"make lock 0 0: 1", "take 1 5: true", "take 1 9: false", "take 1 3: false", "take 1 7: false", "waiting 1: [9 3 7]", "owner 1: 5 1"}},
		{"it waits already", []string{"make lock 0 0: 1", "take 1 5: true", "take 1 9: false", "take 1 3: false", "take 1 9: false", "waiting 1: [9 3]"}},
		{"the owner does not wait", []string{"make lock 0 0: 1", "take 1 5: true", "take 1 6: false", "take 1 5: true", "owner 1: 5 2", "waiting 1: [6]"}},
		{"locks are not each other's", []string{"make lock 0 0: 1", "make lock 0 0: 2", "take 1 5: true", "take 2 6: true", "take 1 6: false", "take 2 5: false", "owner 1: 5 1", "owner 2: 6 1", "waiting 1: [6]", "waiting 2: [5]"}},
		{"given, and taken again", []string{"make lock 0 0: 1", "take 1 5: true", "give 1 5: 0", "take 1 6: true", "owner 1: 6 1", "take 1 5: false"}},
		{"any thread", []string{"make lock 0 0: 1", fmt.Sprint("take 1 ", math.MaxInt, ": true"), fmt.Sprint("owner 1: ", math.MaxInt, " 1")}},
	})
}

func TestGive(t *testing.T) {
	play(t, "P11.3", []script{
		{"once", []string{"make lock 0 0: 1", "take 1 5: true", "give 1 5: 0", "owner 1: 0 0", "give 1 5: error 110"}},
		{"once less", []string{"make lock 0 0: 1", "take 1 5: true", "take 1 5: true", "take 1 6: false", "give 1 5: 0", "owner 1: 5 1", "waiting 1: [6]", "give 1 5: 6", "owner 1: 6 1", "waiting 1: []"}},
		{"the first that waits, once", []string{"make lock 0 0: 1", "take 1 5: true", "take 1 9: false", "take 1 3: false", "take 1 9: false", "give 1 5: 9", "owner 1: 9 1", "waiting 1: [3]", "give 1 9: 3", "owner 1: 3 1", "waiting 1: []", "give 1 3: 0", "owner 1: 0 0"}},
		{"who gave it waits behind the others", []string{"make lock 0 0: 1", "take 1 5: true", "take 1 6: false", "take 1 7: false", "give 1 5: 6", "take 1 5: false", "waiting 1: [7 5]", "take 1 6: true", "give 1 6: 0", "give 1 6: 7", "give 1 7: 5"}},
		{"not the owner", []string{"make lock 0 0: 1", "give 1 5: error 110", "take 1 5: true", "take 1 6: false", "give 1 6: error 110", "give 1 7: error 110", "owner 1: 5 1", "waiting 1: [6]"}},
	})
}

func TestLeave(t *testing.T) {
	play(t, "P11.3", []script{
		{"nothing", []string{"leave 5: []", "make lock 0 0: 1", "make cell 0 5: 2", "take 1 6: true", "leave 5: []", "owner 1: 6 1"}},
		{"all times", []string{"make lock 0 0: 1", "take 1 5: true", "take 1 5: true", "leave 5: [[1 0]]", "owner 1: 0 0"}},
		{"the next owner", []string{"make lock 0 0: 1", "take 1 5: true", "take 1 5: true", "take 1 6: false", "take 1 7: false", "leave 5: [[1 6]]", "owner 1: 6 1", "waiting 1: [7]"}},
		{"it waits no more", []string{"make lock 0 0: 1", "make lock 0 0: 2", "take 1 5: true", "take 2 5: true", "take 1 6: false", "take 2 6: false", "take 1 7: false", "leave 6: []", "waiting 1: [7]", "waiting 2: []", "owner 1: 5 1", "owner 2: 5 1", "give 1 5: 7"}},
		{"what it owns, and what it waits for", []string{"make lock 0 0: 1", "make lock 0 0: 2", "take 1 6: true", "take 2 5: true", "take 2 6: false", "take 1 5: false", "leave 5: [[2 6]]", "owner 1: 6 1", "waiting 1: []", "owner 2: 6 1", "waiting 2: []", "leave 6: [[1 0] [2 0]]"}},
		{"by lock", []string{"make lock 0 0: 1", "make cell 0 5: 2", "make lock 0 0: 3", "make lock 0 0: 4", "take 4 5: true", "take 1 5: true", "take 3 5: true", "take 3 6: false", "leave 5: [[1 0] [3 6] [4 0]]", "leave 5: []"}},
		{"of all spaces", []string{"make lock 1 0: 1", "make lock 2 0: 2", "take 1 5: true", "take 2 5: true", "leave 5: [[1 0] [2 0]]"}},
		{"no thread", []string{"make lock 0 0: 1", "leave 0: error 2", "leave -1: error 2"}},
	})
}

func TestNoThread(t *testing.T) {
	y := making(t, "make lock 0 0", "make lock 0 0", "take 2 1")
	for _, thread := range noNumbers {
		for _, call := range []string{"take 1 %d", "take 2 %d", "give 1 %d", "give 2 %d", "leave %d"} {
			call = fmt.Sprintf(call, thread)
			if got := does(t, y, call); got != "error 2" {
				t.Errorf("P11.3: %s: %s", call, got)
			}
		}
	}
}

func TestNoLock(t *testing.T) {
	y := making(t, "make name 0 0", "make chunk 0 5", "make cell 0 5", "make port 0 5", "make dict 0 0", "row 0 1 3 5")
	for n := range 6 {
		for _, call := range []string{"take %d 1", "give %d 1", "owner %d", "waiting %d"} {
			call = fmt.Sprintf(call, n+1)
			if got := does(t, y, call); got != "error 2" {
				t.Errorf("P11.3: %s, of a %s: %s", call, y.Sort(n+1), got)
			}
		}
	}
}

// TestWaitingIsNew: what is returned shares no memory with the yard.
func TestWaitingIsNew(t *testing.T) {
	y := making(t, "make lock 0 0", "take 1 5", "take 1 6", "take 1 7")
	l, _ := y.Waiting(1)
	l[0] = 9
	_ = append(l[:1], 9, 9)
	if got := does(t, y, "waiting 1"); got != "[6 7]" {
		t.Errorf("R4: who waits is changed from outside: %s", got)
	}
	l, _ = y.Waiting(1)
	does(t, y, "leave 6")
	if !slices.Equal(l, []int{6, 7}) {
		t.Errorf("R4: what Waiting returned is changed by the yard: %v", l)
	}
}

// TestManyThreads: many threads wait, and many locks are left.
func TestManyThreads(t *testing.T) {
	const n = 2000
	y := making(t, "make lock 0 0")
	for thread := range n {
		if is, err := y.Take(1, thread+1); is != (thread == 0) || err != api.OK {
			t.Fatalf("P11.3: %d: %v, %d", thread, is, err)
		}
	}
	for thread := 1; thread < n; thread++ {
		if next, err := y.Give(1, thread); next != thread+1 || err != api.OK {
			t.Fatalf("P11.3: %d: %d, %d", thread, next, err)
		}
	}
	for range n {
		lock, _ := y.Make("lock", 0, 0)
		y.Take(lock, n)
	}
	next, err := y.Leave(n)
	isBy := slices.IsSortedFunc(next, func(a, b [2]int) int { return a[0] - b[0] })
	if len(next) != n+1 || !isBy || err != api.OK {
		t.Errorf("P11.3: %d left, %d", len(next), err)
	}
}
