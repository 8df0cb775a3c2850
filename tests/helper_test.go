package tests

import (
	"reflect"
	"slices"
	"testing"

	"loop.example/aspect/impl"
)

// rowOf is a right row with these Nexts (if they are right), every way open and every lamp working.
func rowOf(next ...int) impl.Row {
	r := impl.Row{Next: slices.Clone(next)}
	for i := range next {
		r.Far = append(r.Far, 100+i)
		r.Open = append(r.Open, true)
		r.Works = append(r.Works, []bool{true, true, true, true})
	}
	return r
}

// lineOf is count signals one after the other: the last number leads to the one below it, and so on down to 0, where the way ends.
func lineOf(count int) impl.Row {
	next := make([]int, count)
	for i := range next {
		next[i] = i - 1
	}
	return rowOf(next...)
}

// ringOf is count signals of which each leads to the one above it, and the last to 0.
func ringOf(count int) impl.Row {
	next := make([]int, count)
	for i := range next {
		next[i] = (i + 1) % count
	}
	return rowOf(next...)
}

func copyOf(r impl.Row) impl.Row {
	c := impl.Row{Next: slices.Clone(r.Next), Far: slices.Clone(r.Far), Open: slices.Clone(r.Open), Works: slices.Clone(r.Works)}
	for i, lamps := range c.Works {
		c.Works[i] = slices.Clone(lamps)
	}
	return c
}

// whole is the same row, its lists shown up to what they could hold: a write behind a list's end is a write into the argument too.
func whole(r impl.Row) impl.Row {
	w := impl.Row{Next: toCap(r.Next), Far: toCap(r.Far), Open: toCap(r.Open), Works: slices.Clone(toCap(r.Works))}
	for i, lamps := range w.Works {
		w.Works[i] = toCap(lamps)
	}
	return w
}

func toCap[E any](list []E) []E { return list[:cap(list)] }

// roomy is the same row in lists that could hold more than they do.
func roomy(r impl.Row) impl.Row {
	c := copyOf(r)
	c.Next = append(c.Next, 7, 7, 7)[:len(r.Next)]
	c.Far = append(c.Far, 7, 7, 7)[:len(r.Far)]
	c.Open = append(c.Open, true, true, true)[:len(r.Open)]
	c.Works = append(c.Works, []bool{true}, nil, nil)[:len(r.Works)]
	for i, lamps := range r.Works {
		c.Works[i] = append(c.Works[i], true, true, true)[:len(lamps)]
	}
	return c
}

// sameList: an empty list and nil are the same value.
func sameList[E comparable](t *testing.T, what string, got, want []E) {
	t.Helper()
	if !slices.Equal(got, want) {
		t.Errorf("%s: %v, not %v", what, got, want)
	}
}

func sameInts(t *testing.T, what string, got, want []int) {
	t.Helper()
	sameList(t, what, got, want)
}

// keepsRow fails when ask writes into the row that it is given.
func keepsRow(t *testing.T, what string, r impl.Row, ask func(impl.Row)) {
	t.Helper()
	given := roomy(r)
	before := copyOf(whole(given))
	ask(given)
	if !reflect.DeepEqual(whole(given), before) {
		t.Errorf("%s writes into its argument", what)
	}
}

// newList fails when the list that ask answers shares memory with the row or with another answer. What is written into an answer is spoil.
func newList[E comparable](t *testing.T, what string, r impl.Row, spoil E, ask func(impl.Row) []E) {
	t.Helper()
	given := roomy(r)
	before := copyOf(whole(given))
	first, second := ask(given), ask(given)
	want := slices.Clone(first)
	spoilt := toCap(first)
	for i := range spoilt {
		spoilt[i] = spoil
	}
	if !reflect.DeepEqual(whole(given), before) {
		t.Errorf("%s: writing into the answer changes the argument", what)
	}
	sameList(t, what+": the other answer, after writing into the first", second, want)
	sameList(t, what+": a later answer, after writing into the first", ask(given), want)
	for i := range given.Next {
		given.Next[i], given.Far[i], given.Open[i] = -1, 0, !given.Open[i]
		clear(given.Works[i])
	}
	sameList(t, what+": the answer, after writing into the argument", second, want)
}
