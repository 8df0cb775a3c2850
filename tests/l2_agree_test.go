package tests

import (
	"math/rand/v2"
	"slices"
	"testing"

	"loop.example/aspect/impl"
)

// Chapter 2 over many rows, held against its words taken one by one. Nothing here knows of bits or worklists.

func plainWants(r impl.Row, signal int, shows []int) int {
	if !r.Open[signal] {
		return impl.AStop
	}
	if r.Next[signal] == -1 {
		return impl.ASlow
	}
	switch shows[r.Next[signal]] {
	case impl.ADark:
		return impl.AStop
	case impl.AStop:
		return impl.ASlow
	case impl.ASlow:
		return impl.ANear
	}
	return impl.AFree
}

func plainShows(r impl.Row, signal, wanted int) int {
	for aspect := wanted; aspect >= 0; aspect-- {
		if r.Works[signal][aspect] {
			return aspect
		}
	}
	return impl.ADark
}

// allAtOnce is the document's own way: all want AStop at first, then all are asked anew, all at once, until nothing changes.
func allAtOnce(r impl.Row) (wants, shows []int) {
	count := len(r.Next)
	wants, shows = make([]int, count), make([]int, count)
	for i := range count {
		shows[i] = plainShows(r, i, impl.AStop)
	}
	for {
		newWants, newShows := make([]int, count), make([]int, count)
		for i := range count {
			newWants[i] = plainWants(r, i, shows)
			newShows[i] = plainShows(r, i, newWants[i])
		}
		if slices.Equal(newWants, wants) && slices.Equal(newShows, shows) {
			return wants, shows
		}
		wants, shows = newWants, newShows
	}
}

func agrees(r impl.Row, wants, shows []int) bool {
	if len(wants) != len(r.Next) || len(shows) != len(r.Next) {
		return false
	}
	for i := range r.Next {
		if wants[i] != plainWants(r, i, shows) || shows[i] != plainShows(r, i, wants[i]) {
			return false
		}
	}
	return true
}

// smallRows calls with every right row of this many signals: each Next, way and lamp. The row is the same memory each time.
func smallRows(count int, call func(r impl.Row)) {
	r := rowOf(make([]int, count)...)
	var from func(signal int)
	from = func(signal int) {
		if signal == count {
			call(r)
			return
		}
		for next := -1; next < count; next++ {
			for state := range 32 {
				r.Next[signal], r.Open[signal] = next, state&16 == 0
				for lamp := range 4 {
					r.Works[signal][lamp] = state>>lamp&1 == 0
				}
				from(signal + 1)
			}
		}
	}
	from(0)
}

// drawnRows calls with greater rows, drawn from fixed numbers: some nearly whole, some with much closed and broken.
func drawnRows(count int, call func(r impl.Row)) {
	draw := rand.New(rand.NewPCG(2, 5))
	for range count {
		size, faults := 3+draw.IntN(58), 1+draw.IntN(40)
		r := rowOf(make([]int, size)...)
		ring := draw.IntN(2) == 0
		for i := range size {
			r.Next[i] = draw.IntN(size+1) - 1
			if ring {
				r.Next[i] = (i + 1) % size
			}
			r.Open[i] = draw.IntN(2*faults) != 0
			for lamp := range 4 {
				r.Works[i][lamp] = draw.IntN(1+faults/2) != 0
			}
		}
		call(r)
	}
}

// P2 and P3

func TestAgreeing(t *testing.T) {
	t.Parallel()
	ask := func(r impl.Row) {
		wants, shows := impl.Wants(r), impl.Shows(r)
		if !agrees(r, wants, shows) {
			t.Fatalf("%v: wants %v and shows %v do not agree", r, wants, shows)
		}
		plainWanted, plainShown := allAtOnce(r)
		if !slices.Equal(wants, plainWanted) || !slices.Equal(shows, plainShown) {
			t.Fatalf("%v: wants %v and shows %v, all at once %v and %v", r, wants, shows, plainWanted, plainShown)
		}
	}
	for count := range 4 {
		smallRows(count, ask)
	}
	drawnRows(3000, ask)
}

// everyAgreeing calls with every way in which a small row agrees: what is wanted hangs on what is shown alone.
func everyAgreeing(r impl.Row, call func(wants, shows []int)) {
	count := len(r.Next)
	wants, shows := make([]int, count), make([]int, count)
	var from func(signal int)
	from = func(signal int) {
		if signal == count {
			for i := range count {
				wants[i] = plainWants(r, i, shows)
			}
			if agrees(r, wants, shows) {
				call(wants, shows)
			}
			return
		}
		for aspect := impl.ADark; aspect <= impl.AFree; aspect++ {
			if aspect == impl.ADark || r.Works[signal][aspect] {
				shows[signal] = aspect
				from(signal + 1)
			}
		}
	}
	from(0)
}

func TestNoOtherAgreeingIsLessFree(t *testing.T) {
	t.Parallel()
	several := 0
	ask := func(r impl.Row) {
		wants, shows := impl.Wants(r), impl.Shows(r)
		ways, found := 0, false
		everyAgreeing(r, func(otherWants, otherShows []int) {
			ways++
			found = found || slices.Equal(shows, otherShows) && slices.Equal(wants, otherWants)
			for i := range r.Next {
				if otherWants[i] < wants[i] || otherShows[i] < shows[i] {
					t.Fatalf("%v: wants %v and shows %v, less free are %v and %v", r, wants, shows, otherWants, otherShows)
				}
			}
		})
		if !found {
			t.Fatalf("%v: wants %v and shows %v is no way of agreeing", r, wants, shows)
		}
		if ways > 1 {
			several++
		}
	}
	for count := range 4 {
		smallRows(count, ask)
	}
	if several < 1000 {
		t.Errorf("only %d rows agree in several ways: the least one is hardly asked for", several)
	}
}

// P4

func plainChanges(before, after []int) []impl.Change {
	var changes []impl.Change
	for i := range before {
		if before[i] != after[i] {
			changes = append(changes, impl.Change{Signal: i, Was: before[i], Now: after[i]})
		}
	}
	return changes
}

// askTurned fails unless these are the changes from a row to what has become of it, and none of them is to something freer.
func askTurned(t *testing.T, r, after impl.Row, changes []impl.Change) {
	t.Helper()
	if want := plainChanges(impl.Shows(r), impl.Shows(after)); !slices.Equal(changes, want) {
		t.Fatalf("from %v to %v: changes %v, not %v", r, after, changes, want)
	}
	for _, c := range changes {
		if c.Now >= c.Was {
			t.Fatalf("from %v to %v: freer at %v", r, after, c)
		}
	}
	wantsAfter := impl.Wants(after)
	for i, wanted := range impl.Wants(r) {
		if wantsAfter[i] > wanted {
			t.Fatalf("from %v to %v: %d wants something freer", r, after, i)
		}
	}
}

func TestNothingBecomesFreer(t *testing.T) {
	t.Parallel()
	ask := func(r impl.Row) {
		for signal := range r.Next {
			askTurned(t, r, turned(r, shut(signal)), impl.Closing(r, signal))
			for lamp := range 4 {
				askTurned(t, r, turned(r, broken(signal, lamp)), impl.Breaking(r, signal, lamp))
			}
		}
	}
	for count := range 3 {
		smallRows(count, ask)
	}
	drawnRows(200, ask)
}
