package undo_test

import (
	"math"
	"math/rand"
	"slices"
	"testing"

	"moiety/api"
	"moiety/undo"
)

// ask asks everything of a history.
func ask[T comparable](t *testing.T, h *undo.History[T], past []T, now T, future []T) {
	t.Helper()
	if l := h.Past(); !slices.Equal(l, past) {
		t.Fatalf("Past = %v; want %v", l, past)
	}
	if n := h.Now(); n != now {
		t.Fatalf("Now = %v; want %v", n, now)
	}
	if l := h.Future(); !slices.Equal(l, future) {
		t.Fatalf("Future = %v; want %v", l, future)
	}
	if h.Depth() != len(past) || h.Ahead() != len(future) {
		t.Fatalf("Depth, Ahead = %d, %d; want %d, %d", h.Depth(), h.Ahead(), len(past), len(future))
	}
}

// do, back and forth ask what Do, Undo and Redo tell.
func do[T comparable](t *testing.T, h *undo.History[T], next T, gone ...T) {
	t.Helper()
	if l := h.Do(next); !slices.Equal(l, gone) {
		t.Fatalf("Do(%v) = %v; want %v", next, l, gone)
	}
}

func back[T comparable](t *testing.T, h *undo.History[T], want T, wantWhy api.Errno) {
	t.Helper()
	if x, why := h.Undo(); x != want || why != wantWhy {
		t.Fatalf("Undo = %v, %d; want %v, %d", x, why, want, wantWhy)
	}
}

func forth[T comparable](t *testing.T, h *undo.History[T], want T, wantWhy api.Errno) {
	t.Helper()
	if x, why := h.Redo(); x != want || why != wantWhy {
		t.Fatalf("Redo = %v, %d; want %v, %d", x, why, want, wantWhy)
	}
}

func loaded[T any](t *testing.T, past []T, now T, future []T) *undo.History[T] {
	t.Helper()
	h, why := undo.Load(past, now, future)
	if h == nil || why != api.OK {
		t.Fatalf("Load = %v, %d", h, why)
	}
	return h
}

// numbers is those from the first up to the last.
func numbers(first, last int) []int {
	var l []int
	for n := first; n <= last; n++ {
		l = append(l, n)
	}
	return l
}

// P18.1 to P18.3: the chapter's example.
func TestExample(t *testing.T) {
	h := undo.New(1)
	do(t, h, 2)
	do(t, h, 3)
	back(t, h, 2, api.OK)
	back(t, h, 1, api.OK)
	forth(t, h, 2, api.OK)
	do(t, h, 9, 3)
	ask(t, h, []int{1, 2}, 9, nil)
}

// P18.1: a history of first, without past and future.
func TestNew(t *testing.T) {
	ask(t, undo.New(7), nil, 7, nil)
	ask(t, undo.New(""), nil, "", nil)
	ask(t, undo.New([2]bool{true}), nil, [2]bool{true}, nil)
	h, g := undo.New(1), undo.New(1)
	do(t, h, 2)
	ask(t, g, nil, 1, nil)
}

// P18.1 to P18.3: of nil the zero thing, nothing, 0, ErrNil.
func TestNil(t *testing.T) {
	nilCalls(t, 5)
	nilCalls(t, "x")
	nilCalls(t, struct{ a, b int }{1, 2})
	nilCalls(t, new(int))
	nilCalls[any](t, "x")
}

func nilCalls[T comparable](t *testing.T, next T) {
	t.Helper()
	var h *undo.History[T]
	var none T
	ask(t, h, nil, none, nil)
	do(t, h, next)
	back(t, h, none, api.ErrNil)
	forth(t, h, none, api.ErrNil)
	ask(t, h, nil, none, nil)
}

// P18.2: without a future and with a past that is not full nothing is gone.
func TestDo(t *testing.T) {
	h := undo.New(0)
	for n := 1; n <= api.MaxUndo; n++ {
		do(t, h, n)
		ask(t, h, numbers(0, n-1), n, nil)
	}
}

// P18.2: the 12th, the 13th and the 14th Do, and many more.
func TestDoFull(t *testing.T) {
	h := undo.New(0)
	for n := 1; n <= 12; n++ {
		do(t, h, n)
	}
	ask(t, h, numbers(0, 11), 12, nil)
	do(t, h, 13, 0)
	ask(t, h, numbers(1, 12), 13, nil)
	do(t, h, 14, 1)
	ask(t, h, numbers(2, 13), 14, nil)
	for n := 15; n < 100; n++ {
		do(t, h, n, n-13)
		ask(t, h, numbers(n-12, n-1), n, nil)
	}
}

// P18.2: there is no future any more: that which comes next is told ahead.
func TestDoFuture(t *testing.T) {
	for backs := range 7 {
		h := undo.New(0)
		for n := 1; n <= 6; n++ {
			do(t, h, n)
		}
		for n := range backs {
			back(t, h, 5-n, api.OK)
		}
		ask(t, h, numbers(0, 5-backs), 6-backs, numbers(7-backs, 6))
		do(t, h, 50, numbers(7-backs, 6)...)
		ask(t, h, numbers(0, 6-backs), 50, nil)
		forth(t, h, 0, api.ErrEmpty)
		do(t, h, 51)
		back(t, h, 50, api.OK)
		back(t, h, 6-backs, api.OK)
	}
}

// P18.2: a full past and a future can not be together: one Undo makes room, and so does each list that Load takes. The future goes then, and the eldest stays.
func TestDoFullWithFuture(t *testing.T) {
	for backs := 1; backs <= 12; backs++ {
		h := undo.New(0)
		for n := 1; n <= 12; n++ {
			do(t, h, n)
		}
		for range backs {
			h.Undo()
		}
		ask(t, h, numbers(0, 11-backs), 12-backs, numbers(13-backs, 12))
		do(t, h, 50, numbers(13-backs, 12)...)
		ask(t, h, numbers(0, 12-backs), 50, nil)
	}
	h := loaded(t, numbers(0, 10), 11, []int{12})
	do(t, h, 50, 12)
	ask(t, h, numbers(0, 11), 50, nil)
	do(t, h, 51, 0)
	h = loaded(t, numbers(0, 11), 12, nil)
	do(t, h, 50, 0)
	ask(t, h, numbers(1, 12), 50, nil)
	h = loaded(t, nil, 0, numbers(1, 12))
	do(t, h, 50, numbers(1, 12)...)
	ask(t, h, []int{0}, 50, nil)
}

// P18.3: Undo without a past, Redo without a future: nothing is changed.
func TestEmpty(t *testing.T) {
	h := undo.New("a")
	for range 3 {
		back(t, h, "", api.ErrEmpty)
		forth(t, h, "", api.ErrEmpty)
		ask(t, h, nil, "a", nil)
	}
	do(t, h, "b")
	forth(t, h, "", api.ErrEmpty)
	ask(t, h, []string{"a"}, "b", nil)
	back(t, h, "a", api.OK)
	back(t, h, "", api.ErrEmpty)
	ask(t, h, nil, "a", []string{"b"})
	forth(t, h, "b", api.OK)
	forth(t, h, "", api.ErrEmpty)
	ask(t, h, []string{"a"}, "b", nil)
}

// P18.4: lists that have together none, few, 12, and more; what is loaded goes on as if it had been done.
func TestLoad(t *testing.T) {
	for before := range 16 {
		for behind := range 16 {
			past, future := numbers(1, before), numbers(101, 100+behind)
			h, why := undo.Load(past, 50, future)
			if before+behind > 12 {
				if h != nil || why != api.ErrSize {
					t.Errorf("Load of %d and %d = %v, %d", before, behind, h, why)
				}
				continue
			}
			if h == nil || why != api.OK {
				t.Fatalf("Load of %d and %d = %v, %d", before, behind, h, why)
			}
			ask(t, h, past, 50, future)
			askEnds(t, h, past, future)
			ask(t, h, past, 50, future)
		}
	}
	ask(t, loaded(t, nil, 1, nil), nil, 1, nil)
	ask(t, loaded(t, []int{}, 1, []int{}), nil, 1, nil)
}

// askEnds goes back to the first thing, on to the last one, and back again.
func askEnds(t *testing.T, h *undo.History[int], past, future []int) {
	t.Helper()
	for _, n := range slices.Backward(past) {
		back(t, h, n, api.OK)
	}
	back(t, h, 0, api.ErrEmpty)
	for _, n := range slices.Concat(past, []int{50}, future)[1:] {
		forth(t, h, n, api.OK)
	}
	forth(t, h, 0, api.ErrEmpty)
	for range future {
		if _, why := h.Undo(); why != api.OK {
			t.Fatal("Undo", why)
		}
	}
}

// P18.4, P6: lists of things without a size, of which there may be more than a sum can tell.
func TestLoadLong(t *testing.T) {
	long := make([]struct{}, math.MaxInt)
	for _, other := range [][]struct{}{nil, long[:1], long[:12], long} {
		if h, why := undo.Load(long, struct{}{}, other); h != nil || why != api.ErrSize {
			t.Errorf("Load = %v, %d", h, why)
		}
		if h, why := undo.Load(other, struct{}{}, long); h != nil || why != api.ErrSize {
			t.Errorf("Load = %v, %d", h, why)
		}
	}
	if h, why := undo.Load(long[:6], struct{}{}, long[:6]); why != api.OK || h.Depth() != 6 || h.Ahead() != 6 {
		t.Error("Load", why)
	}
}

// spoil writes into a list, and behind its end.
func spoil(l []int) {
	for i := range l {
		l[i] = -1
	}
	if cap(l) > len(l) {
		l = l[:cap(l)]
		for i := range l {
			l[i] = -2
		}
	}
}

// P18.4, rules 4 and 5: lists that were handed in, with room behind them or not, are neither changed nor kept.
func TestListsHandedIn(t *testing.T) {
	for _, room := range []int{0, 20} {
		past := append(make([]int, 0, 3+room), 1, 2, 3)
		future := append(make([]int, 0, 2+room), 5, 6)
		h := loaded(t, past, 4, future)
		g := loaded(t, past, 4, future)
		back(t, g, 3, api.OK)
		forth(t, g, 4, api.OK)
		forth(t, g, 5, api.OK)
		do(t, g, 9, 6)
		do(t, g, 10)
		back(t, g, 9, api.OK)
		back(t, g, 5, api.OK)
		if !slices.Equal(past, numbers(1, 3)) || !slices.Equal(future, numbers(5, 6)) {
			t.Errorf("the lists are changed: %v, %v", past, future)
		}
		if room > 0 && (past[:4][3] != 0 || future[:3][2] != 0) {
			t.Error("what is behind the lists is changed")
		}
		spoil(past)
		spoil(future)
		ask(t, h, numbers(1, 3), 4, numbers(5, 6))
	}
	// One list may be both.
	l := []int{1, 2}
	h := loaded(t, l, 3, l)
	back(t, h, 2, api.OK)
	ask(t, h, []int{1}, 2, []int{3, 1, 2})
}

// Rule 4: what is written into lists that were told, or appended to them, is seen by no later answer, and they are changed by no later call.
func TestListsTold(t *testing.T) {
	h := undo.New(0)
	for n := 1; n <= 9; n++ {
		do(t, h, n)
	}
	for range 4 {
		h.Undo()
	}
	spoil(h.Past())
	spoil(h.Future())
	_ = append(h.Past(), 77)
	_ = append(h.Future(), 77)
	ask(t, h, numbers(0, 4), 5, numbers(6, 9))
	past, future := h.Past(), h.Future()
	gone := h.Do(50)
	h.Do(51)
	h.Undo()
	h.Undo()
	h.Undo()
	h.Do(60)
	if !slices.Equal(past, numbers(0, 4)) || !slices.Equal(future, numbers(6, 9)) || !slices.Equal(gone, numbers(6, 9)) {
		t.Errorf("lists that were told are changed: %v, %v, %v", past, future, gone)
	}
	spoil(gone)
	ask(t, h, numbers(0, 4), 60, nil)
}

// Rule 4: what Do tells of a full past shares nothing with what is kept.
func TestGoneTold(t *testing.T) {
	h := undo.New(0)
	for n := 1; n <= 12; n++ {
		do(t, h, n)
	}
	gone := h.Do(13)
	spoil(gone)
	_ = append(gone, 77)
	ask(t, h, numbers(1, 12), 13, nil)
	gone = h.Do(14)
	h.Do(15)
	if !slices.Equal(gone, []int{1}) {
		t.Errorf("what was told is changed: %v", gone)
	}
	ask(t, h, numbers(3, 14), 15, nil)
}

// Things are never looked into: also those that can not be held against each other, or that hold lists, are told as they are.
func TestThings(t *testing.T) {
	list := []int{1, 2}
	h := undo.New(list)
	h.Do(nil)
	if l, why := h.Undo(); why != api.OK || len(l) != 2 || &l[0] != &list[0] {
		t.Errorf("Undo = %v, %d", l, why)
	}
	calls := 0
	f := undo.New(func() { calls++ })
	f.Do(nil)
	if call, why := f.Undo(); why != api.OK || call == nil || calls != 0 {
		t.Error("Undo", why, calls)
	}
	if f.Future()[0] != nil {
		t.Error("Future")
	}
	n := undo.New(math.NaN())
	do(t, n, 1)
	if x, why := n.Undo(); why != api.OK || x == x {
		t.Error("Undo", x, why)
	}
	same := undo.New("a")
	do(t, same, "a")
	do(t, same, "a")
	ask(t, same, []string{"a", "a"}, "a", nil)
}

// P18.5, P18.6: as many Undo as Do, 12 at most, tell all that was, backwards, and as many Redo forwards, over and over.
func TestBackAndForth(t *testing.T) {
	for does := range 31 {
		h := undo.New(0)
		for n := 1; n <= does; n++ {
			h.Do(n)
		}
		deep := min(does, 12)
		for range 3 {
			for k := 1; k <= deep; k++ {
				back(t, h, does-k, api.OK)
				ask(t, h, numbers(does-deep, does-k-1), does-k, numbers(does-k+1, does))
			}
			back(t, h, 0, api.ErrEmpty)
			for k := deep - 1; k >= 0; k-- {
				forth(t, h, does-k, api.OK)
				ask(t, h, numbers(does-deep, does-k-1), does-k, numbers(does-k+1, does))
			}
			forth(t, h, 0, api.ErrEmpty)
		}
	}
}

// model is a history as one row of things, and the place of that which is now.
type model struct {
	row []int
	at  int
}

func (m *model) do(next int) []int {
	gone := slices.Clone(m.row[m.at+1:])
	m.row = append(slices.Clone(m.row[:m.at+1]), next)
	m.at++
	if m.at > api.MaxUndo {
		gone = append(gone, m.row[0])
		m.row, m.at = m.row[1:], m.at-1
	}
	return gone
}

// P18.1 to P18.6: many calls of many histories that live beside each other, some of them loaded from what others told, against lists.
func TestWalks(t *testing.T) {
	r := rand.New(rand.NewSource(5))
	type live struct {
		h *undo.History[int]
		m *model
	}
	all := []live{{undo.New(0), &model{row: []int{0}}}}
	for next := 1; next <= 20000; next++ {
		l := all[r.Intn(len(all))]
		switch m := l.m; r.Intn(8) {
		case 0, 1, 2:
			do(t, l.h, next, m.do(next)...)
		case 3, 4:
			if m.at == 0 {
				back(t, l.h, 0, api.ErrEmpty)
				break
			}
			m.at--
			back(t, l.h, m.row[m.at], api.OK)
		case 5, 6:
			if m.at == len(m.row)-1 {
				forth(t, l.h, 0, api.ErrEmpty)
				break
			}
			m.at++
			forth(t, l.h, m.row[m.at], api.OK)
		case 7:
			h := loaded(t, l.h.Past(), l.h.Now(), l.h.Future())
			all = append(all, live{h, &model{slices.Clone(m.row), m.at}})
			if len(all) > 5 {
				all = slices.Delete(all, 0, 1)
			}
		}
		for _, l := range all {
			ask(t, l.h, l.m.row[:l.m.at], l.m.row[l.m.at], l.m.row[l.m.at+1:])
		}
	}
}

// P6: a history that New did not make is one of the zero thing.
func TestZero(t *testing.T) {
	h := &undo.History[string]{}
	ask(t, h, nil, "", nil)
	back(t, h, "", api.ErrEmpty)
	forth(t, h, "", api.ErrEmpty)
	do(t, h, "a")
	ask(t, h, []string{""}, "a", nil)
	back(t, h, "", api.OK)
	forth(t, h, "a", api.OK)
}
