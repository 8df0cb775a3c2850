package tests

import (
	"fmt"
	"math"
	"slices"
	"testing"

	"loop.example/aspect/impl"
)

// P1, RowOk

type rowCase struct {
	name string
	row  impl.Row
	want int
}

// changed is a right row of five signals with something done to it.
func changed(change func(r *impl.Row)) impl.Row {
	r := lineOf(5)
	change(&r)
	return r
}

func askRowOk(t *testing.T, cases []rowCase) {
	t.Helper()
	for _, c := range cases {
		if got := impl.RowOk(c.row); got != c.want {
			t.Errorf("RowOk of %s: %d, not %d", c.name, got, c.want)
		}
	}
}

func TestRowConstants(t *testing.T) {
	if impl.MaxSignals != 60 || impl.MaxFar != 1000000 {
		t.Error(impl.MaxSignals, impl.MaxFar)
	}
}

func TestRowOkRight(t *testing.T) {
	askRowOk(t, []rowCase{
		{"nil lists", impl.Row{}, 0},
		{"empty lists", impl.Row{Next: []int{}, Far: []int{}, Open: []bool{}, Works: [][]bool{}}, 0},
		{"nil and empty lists", impl.Row{Next: []int{}, Works: [][]bool{}}, 0},
		{"one signal", lineOf(1), 0},
		{"five in a line", lineOf(5), 0},
		{"59 signals", lineOf(59), 0},
		{"60 signals", lineOf(60), 0},
		{"60 signals in a ring", ringOf(60), 0},
		{"its own Next", rowOf(0), 0},
		{"Far 0", changed(func(r *impl.Row) { r.Far[2] = 0 }), 0},
		{"Far 1000000", changed(func(r *impl.Row) { r.Far[2] = 1000000 }), 0},
		{"all Far 0", changed(func(r *impl.Row) { clear(r.Far) }), 0},
		{"every Next -1", rowOf(-1, -1, -1), 0},
		{"every Next the last signal", rowOf(2, 2, 2), 0},
		{"Next of the first is the last signal", changed(func(r *impl.Row) { r.Next[0] = 4 }), 0},
		{"no way open", changed(func(r *impl.Row) { clear(r.Open) }), 0},
		{"no lamp works", changed(func(r *impl.Row) { clear(r.Works[3]) }), 0},
		{"lists that could hold more", roomy(lineOf(5)), 0},
	})
}

func TestRowOkSizes(t *testing.T) {
	lamps := []bool{true, true, true, true}
	askRowOk(t, []rowCase{
		{"61 signals", lineOf(61), 1},
		{"61 signals that all end", rowOf(slices.Repeat([]int{-1}, 61)...), 1},
		{"1000 signals", lineOf(1000), 1},
		{"Next shorter", changed(func(r *impl.Row) { r.Next = r.Next[:4] }), 1},
		{"Next longer", changed(func(r *impl.Row) { r.Next = append(r.Next, -1) }), 1},
		{"Far shorter", changed(func(r *impl.Row) { r.Far = r.Far[:4] }), 1},
		{"Far longer", changed(func(r *impl.Row) { r.Far = append(r.Far, 1) }), 1},
		{"Open shorter", changed(func(r *impl.Row) { r.Open = r.Open[:4] }), 1},
		{"Open longer", changed(func(r *impl.Row) { r.Open = append(r.Open, true) }), 1},
		{"Works shorter", changed(func(r *impl.Row) { r.Works = r.Works[:4] }), 1},
		{"Works longer", changed(func(r *impl.Row) { r.Works = append(r.Works, lamps) }), 1},
		{"no Next", changed(func(r *impl.Row) { r.Next = nil }), 1},
		{"no Far", changed(func(r *impl.Row) { r.Far = nil }), 1},
		{"no Open", changed(func(r *impl.Row) { r.Open = nil }), 1},
		{"no Works", changed(func(r *impl.Row) { r.Works = nil }), 1},
		{"only Next", impl.Row{Next: []int{-1}}, 1},
		{"only Far", impl.Row{Far: []int{1}}, 1},
		{"only Open", impl.Row{Open: []bool{true}}, 1},
		{"only Works", impl.Row{Works: [][]bool{lamps}}, 1},
		{"Next and Far shorter", changed(func(r *impl.Row) { r.Next, r.Far = []int{-1}, r.Far[:1] }), 1},
		{"Open and Works shorter", changed(func(r *impl.Row) { r.Open, r.Works = r.Open[:1], r.Works[:1] }), 1},
	})
}

func TestRowOkWays(t *testing.T) {
	for _, at := range []int{0, 2, 4} {
		for _, next := range []int{-2, 5, 6, -60, 60, math.MinInt, math.MaxInt} {
			r := changed(func(r *impl.Row) { r.Next[at] = next })
			askRowOk(t, []rowCase{{fmt.Sprintf("Next %d at %d of 5", next, at), r, 2}})
		}
		for _, far := range []int{-1, 1000001, math.MinInt, math.MaxInt} {
			r := changed(func(r *impl.Row) { r.Far[at] = far })
			askRowOk(t, []rowCase{{fmt.Sprintf("Far %d at %d of 5", far, at), r, 2}})
		}
	}
	sixty := lineOf(60)
	sixty.Next[0] = 60
	askRowOk(t, []rowCase{{"Next 60 of 60 signals", sixty, 2}, {"Next 1 of one signal", rowOf(1), 2}})
}

func TestRowOkLamps(t *testing.T) {
	for _, at := range []int{0, 2, 4} {
		for _, count := range []int{0, 1, 3, 5, 8} {
			r := changed(func(r *impl.Row) { r.Works[at] = make([]bool, count) })
			askRowOk(t, []rowCase{{fmt.Sprintf("%d lamps at %d of 5", count, at), r, 3}})
		}
		r := changed(func(r *impl.Row) { r.Works[at] = nil })
		askRowOk(t, []rowCase{{fmt.Sprintf("nil lamps at %d of 5", at), r, 3}})
	}
	evenedOut := changed(func(r *impl.Row) { r.Works[1], r.Works[2] = make([]bool, 3), make([]bool, 5) })
	askRowOk(t, []rowCase{{"three lamps and five", evenedOut, 3}})
}

func TestRowOkFirstCode(t *testing.T) {
	many := lineOf(61)
	many.Next[0], many.Far[1], many.Works[2] = -2, -1, nil
	askRowOk(t, []rowCase{
		{"61 signals, a wrong Next, a wrong Far and no lamps", many, 1},
		{"Far shorter, a wrong Next", changed(func(r *impl.Row) { r.Far, r.Next[0] = r.Far[:4], -2 }), 1},
		{"Open shorter, a wrong Far", changed(func(r *impl.Row) { r.Open, r.Far[0] = r.Open[:4], -1 }), 1},
		{"Works shorter, three lamps", changed(func(r *impl.Row) { r.Works, r.Works[0] = r.Works[:4], make([]bool, 3) }), 1},
		{"Next shorter, so that another is too great", changed(func(r *impl.Row) { r.Next = r.Next[1:] }), 1},
		{"a wrong Next behind no lamps", changed(func(r *impl.Row) { r.Works[0], r.Next[4] = nil, 5 }), 2},
		{"a wrong Next ahead of no lamps", changed(func(r *impl.Row) { r.Works[4], r.Next[0] = nil, 5 }), 2},
		{"a wrong Far behind five lamps", changed(func(r *impl.Row) { r.Works[0], r.Far[4] = make([]bool, 5), 1000001 }), 2},
		{"a wrong Far and three lamps in one signal", changed(func(r *impl.Row) { r.Works[2], r.Far[2] = make([]bool, 3), -1 }), 2},
	})
}

// P1, Behind

func TestBehind(t *testing.T) {
	star := rowOf(3, 3, -1, 2, 3, -1)
	sameInts(t, "none behind it", impl.Behind(star, 0), nil)
	sameInts(t, "none behind an end", impl.Behind(star, 5), nil)
	sameInts(t, "one behind it", impl.Behind(star, 2), []int{3})
	sameInts(t, "several behind it", impl.Behind(star, 3), []int{0, 1, 4})
	sameInts(t, "its own Next", impl.Behind(rowOf(0), 0), []int{0})
	sameInts(t, "its own Next among others", impl.Behind(rowOf(1, 1, 1, 2), 1), []int{0, 1, 2})
	sameInts(t, "a ring", impl.Behind(ringOf(4), 0), []int{3})
	sameInts(t, "the last of 60", impl.Behind(ringOf(60), 59), []int{58})
	sameInts(t, "60 behind the first", impl.Behind(rowOf(make([]int, 60)...), 0), upTo(60))
	sameInts(t, "60 behind the last", impl.Behind(rowOf(slices.Repeat([]int{59}, 60)...), 59), upTo(60))
}

func TestBehindKnowsNoState(t *testing.T) {
	shut := rowOf(-1, 0, 0)
	clear(shut.Open)
	clear(shut.Works[1])
	clear(shut.Far)
	sameInts(t, "shut ways and broken lamps", impl.Behind(shut, 0), []int{1, 2})
}

// P1, Chain

func TestChain(t *testing.T) {
	sameInts(t, "a way that ends", impl.Chain(lineOf(4), 3), []int{3, 2, 1, 0})
	sameInts(t, "a way that ends, from inside", impl.Chain(lineOf(4), 1), []int{1, 0})
	sameInts(t, "a way that ends at once", impl.Chain(lineOf(4), 0), []int{0})
	sameInts(t, "one signal", impl.Chain(rowOf(-1), 0), []int{0})
	sameInts(t, "two ways into one", impl.Chain(rowOf(2, 2, 3, -1), 1), []int{1, 2, 3})
	sameInts(t, "60 signals", impl.Chain(ringOf(60), 0), upTo(60))
	down := upTo(60)
	slices.Reverse(down)
	sameInts(t, "60 signals to an end", impl.Chain(lineOf(60), 59), down)
}

func TestChainRing(t *testing.T) {
	entered := rowOf(2, 0, 3, 4, 2) // 1 -> 0 -> the ring of 2, 3 and 4
	sameInts(t, "a ring from outside", impl.Chain(entered, 1), []int{1, 0, 2, 3, 4})
	sameInts(t, "a ring from its door", impl.Chain(entered, 2), []int{2, 3, 4})
	sameInts(t, "a ring from inside", impl.Chain(entered, 3), []int{3, 4, 2})
	sameInts(t, "a ring from its last", impl.Chain(entered, 4), []int{4, 2, 3})
	sameInts(t, "a ring of two", impl.Chain(rowOf(1, 0), 1), []int{1, 0})
	sameInts(t, "its own Next", impl.Chain(rowOf(-1, 1), 1), []int{1})
	sameInts(t, "its own Next, from outside", impl.Chain(rowOf(1, 2, 2), 0), []int{0, 1, 2})
	around := append([]int{59}, upTo(59)...)
	sameInts(t, "60 signals in a ring, from the last", impl.Chain(ringOf(60), 59), around)
}

func TestChainKnowsNoState(t *testing.T) {
	shut := lineOf(3)
	clear(shut.Open)
	clear(shut.Works[1])
	clear(shut.Far)
	sameInts(t, "shut ways and broken lamps", impl.Chain(shut, 2), []int{2, 1, 0})
}

// P1, wrong inputs of Behind and Chain

var wrongRows = []struct {
	name   string
	change func(r *impl.Row)
}{
	{"Next shorter", func(r *impl.Row) { r.Next = r.Next[:4] }},
	{"Far shorter", func(r *impl.Row) { r.Far = r.Far[:4] }},
	{"Far longer", func(r *impl.Row) { r.Far = append(r.Far, 1) }},
	{"Open shorter", func(r *impl.Row) { r.Open = nil }},
	{"Works shorter", func(r *impl.Row) { r.Works = r.Works[:4] }},
	{"Next -2", func(r *impl.Row) { r.Next[4] = -2 }},
	{"Next 5 of 5", func(r *impl.Row) { r.Next[0] = 5 }},
	{"Next far off", func(r *impl.Row) { r.Next[0] = math.MaxInt }},
	{"Next far below", func(r *impl.Row) { r.Next[0] = math.MinInt }},
	{"Far -1", func(r *impl.Row) { r.Far[4] = -1 }},
	{"Far 1000001", func(r *impl.Row) { r.Far[0] = 1000001 }},
	{"three lamps", func(r *impl.Row) { r.Works[4] = make([]bool, 3) }},
	{"five lamps", func(r *impl.Row) { r.Works[4] = make([]bool, 5) }},
	{"no lamps", func(r *impl.Row) { r.Works[0] = nil }},
}

func TestNothingOfAWrongRow(t *testing.T) {
	for _, w := range wrongRows {
		r := changed(w.change)
		for signal := -1; signal <= 6; signal++ {
			sameInts(t, fmt.Sprint("Behind of ", signal, ", ", w.name), impl.Behind(r, signal), nil)
			sameInts(t, fmt.Sprint("Chain of ", signal, ", ", w.name), impl.Chain(r, signal), nil)
		}
	}
	sameInts(t, "Behind in 61 signals", impl.Behind(lineOf(61), 0), nil)
	sameInts(t, "Chain in 61 signals", impl.Chain(lineOf(61), 60), nil)
}

func TestNothingOfNoSuchSignal(t *testing.T) {
	rows := []impl.Row{{}, rowOf(-1), rowOf(0), lineOf(5), ringOf(5), lineOf(60), roomy(lineOf(5))}
	for _, r := range rows {
		count := len(r.Next)
		for _, signal := range []int{-1, -2, count, count + 1, math.MinInt, math.MaxInt} {
			what := fmt.Sprint(signal, " of ", count)
			sameInts(t, "Behind of "+what, impl.Behind(r, signal), nil)
			sameInts(t, "Chain of "+what, impl.Chain(r, signal), nil)
		}
	}
}

// P1, every row of up to four signals, held against the document's words taken one by one

func TestSmallRows(t *testing.T) {
	for count := range 5 {
		for _, next := range nextsOf(count) {
			r := rowOf(next...)
			right := !slices.ContainsFunc(next, func(n int) bool { return n < -1 || n >= count })
			if (impl.RowOk(r) == 0) != right {
				t.Fatalf("RowOk of %v: %d", next, impl.RowOk(r))
			}
			for signal := -1; signal <= count; signal++ {
				var behind, chain []int
				if right && signal >= 0 && signal < count {
					behind, chain = plainBehind(next, signal), plainChain(next, signal)
				}
				sameInts(t, fmt.Sprint("Behind of ", next, signal), impl.Behind(r, signal), behind)
				sameInts(t, fmt.Sprint("Chain of ", next, signal), impl.Chain(r, signal), chain)
			}
		}
	}
}

// nextsOf is every list of this many numbers from -2 up to the count itself: each edge of a Next, from both sides.
func nextsOf(count int) [][]int {
	all := [][]int{nil}
	for range count {
		var longer [][]int
		for _, head := range all {
			for n := -2; n <= count; n++ {
				longer = append(longer, append(slices.Clone(head), n))
			}
		}
		all = longer
	}
	return all
}

func plainBehind(next []int, signal int) []int {
	var behind []int
	for i := range next {
		if next[i] == signal {
			behind = append(behind, i)
		}
	}
	return behind
}

func plainChain(next []int, signal int) []int {
	chain := []int{signal}
	for {
		n := next[chain[len(chain)-1]]
		if n == -1 || slices.Contains(chain, n) {
			return chain
		}
		chain = append(chain, n)
	}
}

func upTo(count int) []int {
	list := make([]int, count)
	for i := range list {
		list[i] = i
	}
	return list
}

// P1, what the document says of every answer

func TestRowArgumentsAreKept(t *testing.T) {
	rows := map[string]impl.Row{"line": lineOf(5), "ring": ringOf(5), "star": rowOf(3, 3, -1, 2, 3), "60": lineOf(60), "empty": {}}
	for _, w := range wrongRows {
		rows[w.name] = changed(w.change)
	}
	for name, r := range rows {
		keepsRow(t, "RowOk, "+name, r, func(r impl.Row) { impl.RowOk(r) })
		for signal := -1; signal <= len(r.Next); signal++ {
			keepsRow(t, "Behind, "+name, r, func(r impl.Row) { impl.Behind(r, signal) })
			keepsRow(t, "Chain, "+name, r, func(r impl.Row) { impl.Chain(r, signal) })
		}
	}
}

func TestRowAnswersAreNew(t *testing.T) {
	for name, r := range map[string]impl.Row{"line": lineOf(5), "ring": ringOf(5), "star": rowOf(3, 3, 3, 3, 3), "all in order": rowOf(1, 2, 3, 4, -1)} {
		for signal := range r.Next {
			newList(t, fmt.Sprint("Behind of ", signal, ", ", name), r, -99, func(r impl.Row) []int { return impl.Behind(r, signal) })
			newList(t, fmt.Sprint("Chain of ", signal, ", ", name), r, -99, func(r impl.Row) []int { return impl.Chain(r, signal) })
		}
	}
}

func TestRowAnswersAreTheSameAgain(t *testing.T) {
	star := rowOf(3, 3, -1, 2, 3, 3, 3, 3)
	for range 50 {
		sameInts(t, "Behind again", impl.Behind(star, 3), []int{0, 1, 4, 5, 6, 7})
		sameInts(t, "Chain again", impl.Chain(star, 7), []int{7, 3, 2})
	}
}
