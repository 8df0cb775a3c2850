package tests

import (
	"fmt"
	"math"
	"slices"
	"testing"

	"loop.example/aspect/impl"
)

// turn is something that is done to a row.
type turn func(r *impl.Row)

func shut(signals ...int) turn {
	return func(r *impl.Row) {
		for _, signal := range signals {
			r.Open[signal] = false
		}
	}
}

func broken(signal int, lamps ...int) turn {
	return func(r *impl.Row) {
		for _, lamp := range lamps {
			r.Works[signal][lamp] = false
		}
	}
}

func dark(signal int) turn { return broken(signal, 0, 1, 2, 3) }

// brokenIn breaks one lamp at each of these signals.
func brokenIn(lamp int, signals ...int) turn {
	return func(r *impl.Row) {
		for _, signal := range signals {
			broken(signal, lamp)(r)
		}
	}
}

func turned(r impl.Row, turns ...turn) impl.Row {
	c := copyOf(r)
	for _, do := range turns {
		do(&c)
	}
	return c
}

type showCase struct {
	name  string
	row   impl.Row
	wants []int
	shows []int
}

func askShows(t *testing.T, cases []showCase) {
	t.Helper()
	for _, c := range cases {
		sameInts(t, "Wants, "+c.name, impl.Wants(c.row), c.wants)
		sameInts(t, "Shows, "+c.name, impl.Shows(c.row), c.shows)
	}
}

// alike is a case in which every signal shows what it wants.
func alike(name string, r impl.Row, both ...int) showCase {
	return showCase{name, r, both, both}
}

// P2, ways that end

func TestShowConstants(t *testing.T) {
	sameInts(t, "aspects", []int{impl.ADark, impl.AStop, impl.ASlow, impl.ANear, impl.AFree}, []int{-1, 0, 1, 2, 3})
}

func TestShowsAheadOfTheEnd(t *testing.T) {
	askShows(t, []showCase{
		alike("no signals, nil lists", impl.Row{}),
		alike("no signals, empty lists", impl.Row{Next: []int{}, Far: []int{}, Open: []bool{}, Works: [][]bool{}}),
		alike("one", lineOf(1), 1),
		alike("two", lineOf(2), 1, 2),
		alike("three", lineOf(3), 1, 2, 3),
		alike("four", lineOf(4), 1, 2, 3, 3),
		alike("six", lineOf(6), 1, 2, 3, 3, 3, 3),
		alike("60", lineOf(60), append([]int{1, 2}, slices.Repeat([]int{3}, 58)...)...),
		alike("four, numbered the other way", rowOf(1, 2, 3, -1), 3, 3, 2, 1),
		alike("four that all end", rowOf(-1, -1, -1, -1), 1, 1, 1, 1),
		alike("several lead to one", rowOf(-1, 0, 0, 1, 2, 1), 1, 2, 2, 3, 3, 3),
		alike("all Far 0", turned(lineOf(4), func(r *impl.Row) { clear(r.Far) }), 1, 2, 3, 3),
	})
}

func TestShowsAheadOfAClosedOne(t *testing.T) {
	askShows(t, []showCase{
		alike("alone", turned(lineOf(1), shut(0)), 0),
		alike("none", turned(lineOf(2), shut(1)), 1, 0),
		alike("one", turned(lineOf(3), shut(1)), 1, 0, 1),
		alike("two", turned(lineOf(4), shut(1)), 1, 0, 1, 2),
		alike("three", turned(lineOf(5), shut(1)), 1, 0, 1, 2, 3),
		alike("four", turned(lineOf(6), shut(1)), 1, 0, 1, 2, 3, 3),
		alike("the last one closed", turned(lineOf(5), shut(0)), 0, 1, 2, 3, 3),
		alike("two closed", turned(lineOf(7), shut(0, 3)), 0, 1, 2, 0, 1, 2, 3),
		alike("two closed, one after the other", turned(lineOf(5), shut(1, 2)), 1, 0, 0, 1, 2),
		alike("all closed", turned(lineOf(4), shut(0, 1, 2, 3)), 0, 0, 0, 0),
		alike("several lead to a closed one", turned(rowOf(-1, 0, 0, 2), shut(0)), 0, 1, 1, 2),
	})
}

func TestShowsWithALampBrokenAtAClosedOne(t *testing.T) {
	closed := turned(lineOf(4), shut(1))
	askShows(t, []showCase{
		{"lamp 0", turned(closed, broken(1, 0)), []int{1, 0, 0, 1}, []int{1, -1, 0, 1}},
		alike("lamp 1", turned(closed, broken(1, 1)), 1, 0, 1, 2),
		alike("lamp 2", turned(closed, broken(1, 2)), 1, 0, 1, 2),
		alike("lamp 3", turned(closed, broken(1, 3)), 1, 0, 1, 2),
		alike("all but lamp 0", turned(closed, broken(1, 1, 2, 3)), 1, 0, 1, 2),
		{"all", turned(closed, dark(1)), []int{1, 0, 0, 1}, []int{1, -1, 0, 1}},
		{"lamp 0, alone", turned(lineOf(1), shut(0), broken(0, 0)), []int{0}, []int{-1}},
		{"lamp 0, the last one closed", turned(lineOf(4), shut(0), broken(0, 0)), []int{0, 0, 1, 2}, []int{-1, 0, 1, 2}},
	})
}

func TestShowsWithALampBrokenAtTheLastOne(t *testing.T) {
	askShows(t, []showCase{
		alike("lamp 0", turned(lineOf(4), broken(0, 0)), 1, 2, 3, 3),
		{"lamp 1", turned(lineOf(4), broken(0, 1)), []int{1, 1, 2, 3}, []int{0, 1, 2, 3}},
		alike("lamp 2", turned(lineOf(4), broken(0, 2)), 1, 2, 3, 3),
		alike("lamp 3", turned(lineOf(4), broken(0, 3)), 1, 2, 3, 3),
		{"lamps 0 and 1", turned(lineOf(4), broken(0, 0, 1)), []int{1, 0, 1, 2}, []int{-1, 0, 1, 2}},
		alike("all but lamp 1", turned(lineOf(4), broken(0, 0, 2, 3)), 1, 2, 3, 3),
		{"all", turned(lineOf(4), dark(0)), []int{1, 0, 1, 2}, []int{-1, 0, 1, 2}},
		{"all, alone", turned(lineOf(1), dark(0)), []int{1}, []int{-1}},
	})
}

func TestShowsWithALampBrokenInTheMiddle(t *testing.T) {
	askShows(t, []showCase{
		alike("it wants free, lamp 0", turned(lineOf(5), broken(2, 0)), 1, 2, 3, 3, 3),
		alike("it wants free, lamp 1", turned(lineOf(5), broken(2, 1)), 1, 2, 3, 3, 3),
		alike("it wants free, lamp 2", turned(lineOf(5), broken(2, 2)), 1, 2, 3, 3, 3),
		{"it wants free, lamp 3", turned(lineOf(5), broken(2, 3)), []int{1, 2, 3, 3, 3}, []int{1, 2, 2, 3, 3}},
		{"it wants free, lamps 2 and 3", turned(lineOf(5), broken(2, 2, 3)), []int{1, 2, 3, 2, 3}, []int{1, 2, 1, 2, 3}},
		{"it wants free, lamps 1, 2 and 3", turned(lineOf(5), broken(2, 1, 2, 3)), []int{1, 2, 3, 1, 2}, []int{1, 2, 0, 1, 2}},
		{"it wants free, all", turned(lineOf(5), dark(2)), []int{1, 2, 3, 0, 1}, []int{1, 2, -1, 0, 1}},
		alike("it wants near, lamp 0", turned(lineOf(5), broken(1, 0)), 1, 2, 3, 3, 3),
		alike("it wants near, lamp 1", turned(lineOf(5), broken(1, 1)), 1, 2, 3, 3, 3),
		{"it wants near, lamp 2", turned(lineOf(5), broken(1, 2)), []int{1, 2, 2, 3, 3}, []int{1, 1, 2, 3, 3}},
		alike("it wants near, lamp 3", turned(lineOf(5), broken(1, 3)), 1, 2, 3, 3, 3),
		{"it wants near, lamps 1 and 2", turned(lineOf(5), broken(1, 1, 2)), []int{1, 2, 1, 2, 3}, []int{1, 0, 1, 2, 3}},
		{"it wants near, all but lamp 3", turned(lineOf(5), broken(1, 0, 1, 2)), []int{1, 2, 0, 1, 2}, []int{1, -1, 0, 1, 2}},
		{"none behind it, all", turned(lineOf(5), dark(4)), []int{1, 2, 3, 3, 3}, []int{1, 2, 3, 3, -1}},
	})
}

func TestShowsBehindADarkOne(t *testing.T) {
	askShows(t, []showCase{
		{"two dark, one after the other", turned(lineOf(4), dark(0), dark(1)), []int{1, 0, 0, 1}, []int{-1, -1, 0, 1}},
		{"lamp 0 broken behind a dark one", turned(lineOf(4), dark(0), broken(1, 0)), []int{1, 0, 0, 1}, []int{-1, -1, 0, 1}},
		{"several behind a dark one", turned(rowOf(-1, 0, 0, 2), dark(0)), []int{1, 0, 0, 1}, []int{-1, 0, 0, 1}},
		{"closed behind a dark one", turned(lineOf(3), dark(0), shut(1)), []int{1, 0, 1}, []int{-1, 0, 1}},
		alike("lamp 0 broken everywhere, none dark", turned(lineOf(4), brokenIn(0, 0, 1, 2, 3)), 1, 2, 3, 3),
		{"lamp 0 broken everywhere, the last one dark", turned(lineOf(4), brokenIn(0, 1, 2, 3), dark(0)), []int{1, 0, 0, 0}, []int{-1, -1, -1, -1}},
		{"all dark", turned(lineOf(3), dark(0), dark(1), dark(2)), []int{1, 0, 0}, []int{-1, -1, -1}},
	})
}

// P2 and P3, rings

func TestShowsItsOwnNext(t *testing.T) {
	askShows(t, []showCase{
		alike("open", rowOf(0), 3),
		alike("closed", turned(rowOf(0), shut(0)), 0),
		{"lamp 0", turned(rowOf(0), broken(0, 0)), []int{0}, []int{-1}},
		{"lamp 1", turned(rowOf(0), broken(0, 1)), []int{1}, []int{0}},
		{"lamp 2", turned(rowOf(0), broken(0, 2)), []int{2}, []int{1}},
		{"lamp 3", turned(rowOf(0), broken(0, 3)), []int{3}, []int{2}},
		{"all", turned(rowOf(0), dark(0)), []int{0}, []int{-1}},
		{"closed, lamp 0", turned(rowOf(0), shut(0), broken(0, 0)), []int{0}, []int{-1}},
	})
}

func TestShowsARingOfTwo(t *testing.T) {
	two := ringOf(2)
	askShows(t, []showCase{
		alike("open", two, 3, 3),
		alike("one closed", turned(two, shut(0)), 0, 1),
		alike("the other closed", turned(two, shut(1)), 1, 0),
		alike("both closed", turned(two, shut(0, 1)), 0, 0),
		alike("lamp 0 at one", turned(two, broken(0, 0)), 3, 3),
		alike("lamp 1 at one", turned(two, broken(0, 1)), 3, 3),
		alike("lamp 2 at one", turned(two, broken(0, 2)), 3, 3),
		{"lamp 3 at one", turned(two, broken(0, 3)), []int{3, 3}, []int{2, 3}},
		{"lamp 0 at both", turned(two, brokenIn(0, 0, 1)), []int{0, 0}, []int{-1, -1}},
		{"lamp 1 at both", turned(two, brokenIn(1, 0, 1)), []int{1, 1}, []int{0, 0}},
		{"lamp 2 at both", turned(two, brokenIn(2, 0, 1)), []int{2, 2}, []int{1, 1}},
		{"lamp 3 at both", turned(two, brokenIn(3, 0, 1)), []int{3, 3}, []int{2, 2}},
		alike("lamp 0 at one, lamp 1 at the other", turned(two, broken(0, 0), broken(1, 1)), 3, 3),
		{"lamps 0 and 1 at one", turned(two, broken(0, 0, 1)), []int{1, 0}, []int{-1, 0}},
		{"lamps 1 and 2 at one", turned(two, broken(0, 1, 2)), []int{2, 1}, []int{0, 1}},
		{"lamps 2 and 3 at one", turned(two, broken(0, 2, 3)), []int{3, 2}, []int{1, 2}},
		{"one dark", turned(two, dark(0)), []int{1, 0}, []int{-1, 0}},
		{"one closed without lamp 0", turned(two, shut(0), broken(0, 0)), []int{0, 0}, []int{-1, 0}},
	})
}

func TestShowsGreaterRings(t *testing.T) {
	three, four := ringOf(3), ringOf(4)
	askShows(t, []showCase{
		alike("three open", three, 3, 3, 3),
		alike("four open", four, 3, 3, 3, 3),
		alike("four, numbered the other way", rowOf(3, 0, 1, 2), 3, 3, 3, 3),
		alike("four, one closed", turned(four, shut(0)), 0, 3, 2, 1),
		alike("four, another closed", turned(four, shut(2)), 2, 1, 0, 3),
		alike("four, two closed", turned(four, shut(0, 2)), 0, 1, 0, 1),
		{"four, one dark", turned(four, dark(0)), []int{3, 2, 1, 0}, []int{-1, 2, 1, 0}},
		{"lamp 0 at all three", turned(three, brokenIn(0, 0, 1, 2)), []int{0, 0, 0}, []int{-1, -1, -1}},
		{"lamp 1 at all three", turned(three, brokenIn(1, 0, 1, 2)), []int{1, 1, 1}, []int{0, 0, 0}},
		{"lamp 2 at all three", turned(three, brokenIn(2, 0, 1, 2)), []int{2, 2, 2}, []int{1, 1, 1}},
		{"lamp 3 at all three", turned(three, brokenIn(3, 0, 1, 2)), []int{3, 3, 3}, []int{2, 2, 2}},
		alike("lamp 0 at two of three", turned(three, brokenIn(0, 0, 1)), 3, 3, 3),
		alike("lamp 1 at two of three", turned(three, brokenIn(1, 1, 2)), 3, 3, 3),
		alike("lamp 2 at two of three", turned(three, brokenIn(2, 0, 2)), 3, 3, 3),
		alike("two rings apart", turned(rowOf(1, 0, 3, 2), shut(3)), 3, 3, 1, 0),
	})
}

func TestShowsIntoARing(t *testing.T) {
	entered := rowOf(1, 2, 3, 1, 0) // 4 -> 0 -> the ring of 1, 2 and 3
	askShows(t, []showCase{
		alike("open", entered, 3, 3, 3, 3, 3),
		alike("the door closed", turned(entered, shut(1)), 1, 0, 2, 1, 2),
		alike("closed outside", turned(entered, shut(0)), 0, 3, 3, 3, 1),
		{"dark outside", turned(entered, dark(0)), []int{3, 3, 3, 3, 0}, []int{-1, 3, 3, 3, 0}},
		{"lamp 0 in the ring", turned(entered, brokenIn(0, 1, 2, 3)), []int{0, 0, 0, 0, 1}, []int{0, -1, -1, -1, 1}},
		{"lamp 1 in the ring", turned(entered, brokenIn(1, 1, 2, 3)), []int{1, 1, 1, 1, 2}, []int{1, 0, 0, 0, 2}},
		{"lamp 2 in the ring", turned(entered, brokenIn(2, 1, 2, 3)), []int{2, 2, 2, 2, 3}, []int{2, 1, 1, 1, 3}},
		{"lamp 3 in the ring", turned(entered, brokenIn(3, 1, 2, 3)), []int{3, 3, 3, 3, 3}, []int{3, 2, 2, 2, 3}},
		{"lamp 0 everywhere", turned(entered, brokenIn(0, 0, 1, 2, 3, 4)), []int{0, 0, 0, 0, 0}, []int{-1, -1, -1, -1, -1}},
		{"lamp 1 at its own Next", turned(rowOf(0, 0, 1), broken(0, 1)), []int{1, 1, 2}, []int{0, 1, 2}},
	})
}

func TestShowsARingOfSixty(t *testing.T) {
	all := func(aspect int) []int { return slices.Repeat([]int{aspect}, 60) }
	sixty, butOne := ringOf(60), slices.Delete(upTo(60), 7, 8)
	closed, darkWants := append(all(3)[:58], 2, 1), append(all(3)[:57], 2, 1, 0)
	closed[0] = 0
	darkShows := slices.Clone(darkWants)
	darkShows[0] = -1
	askShows(t, []showCase{
		alike("open", sixty, all(3)...),
		alike("one closed", turned(sixty, shut(0)), closed...),
		{"one dark", turned(sixty, dark(0)), darkWants, darkShows},
		{"lamp 0 at all", turned(sixty, brokenIn(0, upTo(60)...)), all(0), all(-1)},
		{"lamp 1 at all", turned(sixty, brokenIn(1, upTo(60)...)), all(1), all(0)},
		{"lamp 2 at all", turned(sixty, brokenIn(2, upTo(60)...)), all(2), all(1)},
		{"lamp 3 at all", turned(sixty, brokenIn(3, upTo(60)...)), all(3), all(2)},
		alike("lamp 0 at all but one", turned(sixty, brokenIn(0, butOne...)), all(3)...),
		alike("lamp 1 at all but one", turned(sixty, brokenIn(1, butOne...)), all(3)...),
		alike("lamp 2 at all but one", turned(sixty, brokenIn(2, butOne...)), all(3)...),
	})
}

// P4, Closing

// steps is changes, each of them its signal, what it showed and what it shows now.
type steps [][3]int

func sameChanges(t *testing.T, what string, got []impl.Change, want steps) {
	t.Helper()
	var changes []impl.Change
	for _, step := range want {
		changes = append(changes, impl.Change{Signal: step[0], Was: step[1], Now: step[2]})
	}
	sameList(t, what, got, changes)
}

type changeCase struct {
	name string
	got  []impl.Change
	want steps
}

func askChanges(t *testing.T, cases []changeCase) {
	t.Helper()
	for _, c := range cases {
		sameChanges(t, c.name, c.got, c.want)
	}
}

func TestClosing(t *testing.T) {
	line := lineOf(4)
	star := rowOf(3, 3, -1, 2, 3)
	askChanges(t, []changeCase{
		{"the last one", impl.Closing(line, 0), steps{{0, 1, 0}, {1, 2, 1}, {2, 3, 2}}},
		{"in the middle", impl.Closing(line, 1), steps{{1, 2, 0}, {2, 3, 1}, {3, 3, 2}}},
		{"none behind it", impl.Closing(line, 3), steps{{3, 3, 0}}},
		{"alone", impl.Closing(lineOf(1), 0), steps{{0, 1, 0}}},
		{"numbered the other way", impl.Closing(rowOf(1, 2, 3, -1), 3), steps{{1, 3, 2}, {2, 2, 1}, {3, 1, 0}}},
		{"several behind it", impl.Closing(star, 2), steps{{0, 3, 2}, {1, 3, 2}, {2, 1, 0}, {3, 2, 1}, {4, 3, 2}}},
		{"lamp 0 is broken", impl.Closing(turned(line, broken(1, 0)), 1), steps{{1, 2, -1}, {2, 3, 0}, {3, 3, 1}}},
		{"its own Next", impl.Closing(rowOf(0), 0), steps{{0, 3, 0}}},
		{"in a ring", impl.Closing(ringOf(4), 0), steps{{0, 3, 0}, {2, 3, 2}, {3, 3, 1}}},
		{"ahead of a ring", impl.Closing(rowOf(0, 0), 1), steps{{1, 3, 0}}},
		{"the last of 60", impl.Closing(ringOf(60), 59), steps{{57, 3, 2}, {58, 3, 1}, {59, 3, 0}}},
	})
}

func TestClosingChangesNothing(t *testing.T) {
	line := lineOf(4)
	askChanges(t, []changeCase{
		{"closed already", impl.Closing(turned(line, shut(1)), 1), nil},
		{"closed already, in a ring", impl.Closing(turned(ringOf(3), shut(1)), 1), nil},
		{"all closed already", impl.Closing(turned(line, shut(0, 1, 2, 3)), 2), nil},
		{"dark", impl.Closing(turned(line, dark(1)), 1), nil},
		{"it shows stop behind a dark one", impl.Closing(turned(line, dark(0)), 1), nil},
		{"only lamp 0 works", impl.Closing(turned(line, broken(1, 1, 2, 3)), 1), nil},
	})
}

// P4, Breaking

func TestBreaking(t *testing.T) {
	line := lineOf(4)
	askChanges(t, []changeCase{
		{"lamp 1 at the last one", impl.Breaking(line, 0, 1), steps{{0, 1, 0}, {1, 2, 1}, {2, 3, 2}}},
		{"lamp 2 in the middle", impl.Breaking(line, 1, 2), steps{{1, 2, 1}, {2, 3, 2}}},
		{"lamp 3 in the middle", impl.Breaking(line, 2, 3), steps{{2, 3, 2}}},
		{"lamp 3, none behind it", impl.Breaking(line, 3, 3), steps{{3, 3, 2}}},
		{"lamp 0 at a closed one", impl.Breaking(turned(line, shut(1)), 1, 0), steps{{1, 0, -1}, {2, 1, 0}, {3, 2, 1}}},
		{"lamp 1, where lamp 0 is broken", impl.Breaking(turned(line, broken(0, 0)), 0, 1), steps{{0, 1, -1}, {1, 2, 0}, {2, 3, 1}, {3, 3, 2}}},
		{"the last lamp", impl.Breaking(turned(line, broken(3, 1, 2, 3)), 3, 0), steps{{3, 0, -1}}},
		{"numbered the other way", impl.Breaking(rowOf(1, 2, 3, -1), 3, 1), steps{{1, 3, 2}, {2, 2, 1}, {3, 1, 0}}},
	})
}

func TestBreakingInARing(t *testing.T) {
	two, sixty := ringOf(2), turned(ringOf(60), brokenIn(2, slices.Delete(upTo(60), 7, 8)...))
	var everywhere steps
	for signal := range 60 {
		everywhere = append(everywhere, [3]int{signal, 3, 1})
	}
	askChanges(t, []changeCase{
		{"its own Next, lamp 0", impl.Breaking(rowOf(0), 0, 0), steps{{0, 3, -1}}},
		{"its own Next, lamp 1", impl.Breaking(rowOf(0), 0, 1), steps{{0, 3, 0}}},
		{"its own Next, lamp 2", impl.Breaking(rowOf(0), 0, 2), steps{{0, 3, 1}}},
		{"its own Next, lamp 3", impl.Breaking(rowOf(0), 0, 3), steps{{0, 3, 2}}},
		{"lamp 0 at the other too", impl.Breaking(turned(two, broken(0, 0)), 1, 0), steps{{0, 3, -1}, {1, 3, -1}}},
		{"lamp 1 at the other too", impl.Breaking(turned(two, broken(0, 1)), 1, 1), steps{{0, 3, 0}, {1, 3, 0}}},
		{"lamp 2 at the other too", impl.Breaking(turned(two, broken(0, 2)), 1, 2), steps{{0, 3, 1}, {1, 3, 1}}},
		{"lamp 3 at the other too", impl.Breaking(turned(two, broken(0, 3)), 1, 3), steps{{1, 3, 2}}},
		{"lamp 2 at the last one of 60", impl.Breaking(sixty, 7, 2), everywhere},
	})
}

func TestBreakingChangesNothing(t *testing.T) {
	line := lineOf(4)
	askChanges(t, []changeCase{
		{"lamp 0 at the last one", impl.Breaking(line, 0, 0), nil},
		{"lamp 2 at the last one", impl.Breaking(line, 0, 2), nil},
		{"lamp 3 at the last one", impl.Breaking(line, 0, 3), nil},
		{"lamp 1 in the middle", impl.Breaking(line, 1, 1), nil},
		{"lamp 1 at a closed one", impl.Breaking(turned(line, shut(1)), 1, 1), nil},
		{"broken already", impl.Breaking(turned(line, broken(2, 3)), 2, 3), nil},
		{"broken already at a closed one", impl.Breaking(turned(line, shut(2), broken(2, 0)), 2, 0), nil},
		{"broken already in a ring", impl.Breaking(turned(rowOf(0), broken(0, 0)), 0, 0), nil},
		{"dark", impl.Breaking(turned(line, dark(2)), 2, 1), nil},
		{"one of a ring's lamps 0", impl.Breaking(ringOf(3), 1, 0), nil},
	})
}

// The lists of a row may be one list: what breaks at one signal breaks there alone.
func TestBreakingOneOfSharedLamps(t *testing.T) {
	r, one := lineOf(4), []bool{true, true, true, true}
	for i := range r.Works {
		r.Works[i] = one
	}
	sameChanges(t, "lamp 3", impl.Breaking(r, 2, 3), steps{{2, 3, 2}})
	sameChanges(t, "lamp 1", impl.Breaking(r, 0, 1), steps{{0, 1, 0}, {1, 2, 1}, {2, 3, 2}})
}

// P2 and P4, wrong inputs

func nothingShown(t *testing.T, what string, r impl.Row) {
	t.Helper()
	sameInts(t, "Wants, "+what, impl.Wants(r), nil)
	sameInts(t, "Shows, "+what, impl.Shows(r), nil)
	for signal := -1; signal <= 6; signal++ {
		sameList(t, fmt.Sprint("Closing ", signal, ", ", what), impl.Closing(r, signal), nil)
		for lamp := -1; lamp <= 4; lamp++ {
			sameList(t, fmt.Sprint("Breaking ", signal, lamp, ", ", what), impl.Breaking(r, signal, lamp), nil)
		}
	}
}

func TestNothingShownInAWrongRow(t *testing.T) {
	for _, w := range wrongRows {
		nothingShown(t, w.name, changed(w.change))
	}
	nothingShown(t, "61 signals", lineOf(61))
	nothingShown(t, "61 signals in a ring", ringOf(61))
	nothingShown(t, "no signals", impl.Row{})
}

func TestNothingChangesAtNoSuchSignal(t *testing.T) {
	for _, r := range []impl.Row{{}, rowOf(-1), rowOf(0), lineOf(5), ringOf(5), lineOf(60), roomy(lineOf(5))} {
		count := len(r.Next)
		for _, signal := range []int{-1, -2, count, count + 1, math.MinInt, math.MaxInt} {
			what := fmt.Sprint(signal, " of ", count)
			sameList(t, "Closing "+what, impl.Closing(r, signal), nil)
			for lamp := -1; lamp <= 4; lamp++ {
				sameList(t, fmt.Sprint("Breaking ", what, ", lamp ", lamp), impl.Breaking(r, signal, lamp), nil)
			}
		}
	}
}

func TestNothingChangesAtNoSuchLamp(t *testing.T) {
	for _, r := range []impl.Row{rowOf(-1), rowOf(0), lineOf(5), ringOf(5), roomy(lineOf(5))} {
		for signal := range r.Next {
			for _, lamp := range []int{-1, -2, 4, 5, 7, 8, 9, 64, 256, 259, math.MinInt, math.MaxInt} {
				sameList(t, fmt.Sprint("Breaking ", signal, ", lamp ", lamp), impl.Breaking(r, signal, lamp), nil)
			}
		}
	}
}

// Chapter 2, what the document says of every answer

func showRows() map[string]impl.Row {
	return map[string]impl.Row{
		"line":       lineOf(5),
		"shut":       turned(lineOf(5), shut(1)),
		"dark":       turned(lineOf(5), dark(2), broken(0, 1)),
		"ring":       ringOf(5),
		"lamps":      turned(ringOf(5), brokenIn(1, 0, 1, 2, 3, 4), broken(2, 0)),
		"star":       rowOf(3, 3, -1, 2, 3),
		"60":         lineOf(60),
		"no signals": {},
	}
}

func TestShowArgumentsAreKept(t *testing.T) {
	rows := showRows()
	for _, w := range wrongRows {
		rows[w.name] = changed(w.change)
	}
	for name, r := range rows {
		keepsRow(t, "Wants, "+name, r, func(r impl.Row) { impl.Wants(r) })
		keepsRow(t, "Shows, "+name, r, func(r impl.Row) { impl.Shows(r) })
		for signal := -1; signal <= len(r.Next); signal++ {
			keepsRow(t, "Closing, "+name, r, func(r impl.Row) { impl.Closing(r, signal) })
			for lamp := -1; lamp <= 4; lamp++ {
				keepsRow(t, "Breaking, "+name, r, func(r impl.Row) { impl.Breaking(r, signal, lamp) })
			}
		}
	}
}

func TestShowAnswersAreNew(t *testing.T) {
	spoil := impl.Change{Signal: -99, Was: -99, Now: -99}
	for name, r := range showRows() {
		newList(t, "Wants, "+name, r, -99, impl.Wants)
		newList(t, "Shows, "+name, r, -99, impl.Shows)
		for signal := range r.Next {
			what := fmt.Sprint(signal, ", ", name)
			newList(t, "Closing "+what, r, spoil, func(r impl.Row) []impl.Change { return impl.Closing(r, signal) })
			for lamp := range 4 {
				newList(t, "Breaking "+what, r, spoil, func(r impl.Row) []impl.Change { return impl.Breaking(r, signal, lamp) })
			}
		}
	}
}

func TestWantsAndShowsShareNothing(t *testing.T) {
	r := lineOf(5)
	wants, shows := impl.Wants(r), impl.Shows(r)
	for i := range wants {
		wants[i] = -99
	}
	sameInts(t, "Shows, after writing into Wants", shows, []int{1, 2, 3, 3, 3})
}

func TestShowAnswersAreTheSameAgain(t *testing.T) {
	r := turned(rowOf(3, 3, -1, 2, 3, 3, 6, 6), shut(4), broken(6, 2), broken(3, 2))
	for range 50 {
		sameInts(t, "Wants again", impl.Wants(r), []int{2, 2, 1, 2, 0, 2, 2, 2})
		sameInts(t, "Shows again", impl.Shows(r), []int{2, 2, 1, 1, 0, 2, 1, 2})
		sameChanges(t, "Closing again", impl.Closing(r, 3), steps{{0, 2, 1}, {1, 2, 1}, {3, 1, 0}, {5, 2, 1}})
		sameChanges(t, "Breaking again", impl.Breaking(r, 6, 1), steps{{6, 1, 0}, {7, 2, 1}})
	}
}
