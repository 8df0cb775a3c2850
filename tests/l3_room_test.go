package tests

import (
	"fmt"
	"math"
	"testing"

	"loop.example/aspect/impl"
)

// fars lays down how far it is from each signal on. With powers of ten a sum tells its parts.
func fars(list ...int) turn {
	return func(r *impl.Row) { copy(r.Far, list) }
}

var powers = []int{1, 10, 100, 1000, 10000}

func powerLine() impl.Row { return turned(lineOf(5), fars(powers...)) }
func powerRing() impl.Row { return turned(ringOf(5), fars(powers...)) }

// alone is one signal that shows slow, and leaves this room.
func alone(room int) impl.Row { return turned(lineOf(1), fars(room)) }

func roomsOf(r impl.Row) (rooms, stops []int) {
	for signal := range r.Next {
		rooms = append(rooms, impl.Room(r, signal))
		stops = append(stops, impl.Stop(r, signal))
	}
	return rooms, stops
}

type roomCase struct {
	name  string
	row   impl.Row
	rooms []int
	stops []int
}

func askRooms(t *testing.T, cases []roomCase) {
	t.Helper()
	for _, c := range cases {
		rooms, stops := roomsOf(c.row)
		sameInts(t, "Room, "+c.name, rooms, c.rooms)
		sameInts(t, "Stop, "+c.name, stops, c.stops)
	}
}

// allRoom is a case in which the room that is left goes up to the stop everywhere.
func allRoom(name string, r impl.Row, both ...int) roomCase {
	return roomCase{name, r, both, both}
}

// P5, ways that end

func TestRoomConstants(t *testing.T) {
	sameInts(t, "limits", []int{impl.MaxSpeed, impl.MinBrake, impl.MaxBrake, impl.MaxDelay}, []int{10000, 10, 1000, 20})
}

func TestRoomAheadOfTheEnd(t *testing.T) {
	askRooms(t, []roomCase{
		allRoom("slow", alone(7), 7),
		allRoom("slow and near", turned(lineOf(2), fars(1, 10)), 1, 11),
		allRoom("slow, near and free", turned(lineOf(3), fars(1, 10, 100)), 1, 11, 111),
		{"several free", powerLine(), []int{1, 11, 111, 1110, 11100}, []int{1, 11, 111, 1111, 11111}},
		{"numbered the other way", turned(rowOf(1, 2, 3, -1), fars(1, 10, 100, 1000)), []int{111, 1110, 1100, 1000}, []int{1111, 1110, 1100, 1000}},
		allRoom("all end", turned(rowOf(-1, -1, -1), fars(1, 10, 100)), 1, 10, 100),
		allRoom("several lead to one", turned(rowOf(-1, 0, 0, 2), fars(1, 10, 100, 1000)), 1, 11, 101, 1101),
		{"the way of one ends, the others stand in a ring", turned(rowOf(-1, 2, 1), fars(1, 10, 100)), []int{1, 120, 210}, []int{1, -2, -2}},
	})
}

func TestRoomAheadOfAStop(t *testing.T) {
	askRooms(t, []roomCase{
		allRoom("one closed", turned(powerLine(), shut(1)), 1, 0, 100, 1100, 11100),
		{"the last one closed", turned(powerLine(), shut(0)), []int{0, 10, 110, 1110, 11100}, []int{0, 10, 110, 1110, 11110}},
		allRoom("the first one closed", turned(lineOf(3), fars(1, 10, 100), shut(2)), 1, 11, 0),
		allRoom("two closed", turned(powerLine(), shut(0, 2)), 0, 10, 0, 1000, 11000),
		allRoom("all closed", turned(lineOf(3), shut(0, 1, 2)), 0, 0, 0),
		allRoom("one dark, and a stop behind it", turned(powerLine(), dark(1)), 1, 0, 0, 1000, 11000),
		allRoom("the last one dark", turned(powerLine(), dark(0)), 0, 0, 100, 1100, 11100),
		allRoom("a closed one dark", turned(powerLine(), shut(2), broken(2, 0)), 1, 11, 0, 0, 10000),
		allRoom("alone and closed", turned(alone(7), shut(0)), 0),
		allRoom("alone and dark", turned(alone(7), dark(0)), 0),
		allRoom("several lead to a closed one", turned(rowOf(-1, 0, 0, 2), fars(1, 10, 100, 1000), shut(0)), 0, 10, 100, 1100),
	})
}

func TestRoomWithABrokenLamp(t *testing.T) {
	askRooms(t, []roomCase{
		{"near for free", turned(powerLine(), broken(2, 3)), []int{1, 11, 110, 1110, 11100}, []int{1, 11, 111, 1111, 11111}},
		{"slow for free", turned(powerLine(), broken(2, 2, 3)), []int{1, 11, 100, 1100, 11100}, []int{1, 11, 111, 1111, 11111}},
		allRoom("stop for free", turned(powerLine(), broken(2, 1, 2, 3)), 1, 11, 0, 1000, 11000),
		{"slow for near", turned(powerLine(), broken(1, 2)), []int{1, 10, 110, 1110, 11100}, []int{1, 11, 111, 1111, 11111}},
		{"stop for slow", turned(powerLine(), broken(0, 1)), []int{0, 10, 110, 1110, 11100}, []int{0, 10, 110, 1110, 11110}},
		{"a lamp that is not wanted", turned(powerLine(), broken(2, 0, 1, 2)), []int{1, 11, 111, 1110, 11100}, []int{1, 11, 111, 1111, 11111}},
	})
}

func TestRoomWithTheLeastAndTheGreatestFars(t *testing.T) {
	sixty := turned(lineOf(60), func(r *impl.Row) {
		for signal := range r.Far {
			r.Far[signal] = 1000000
		}
	})
	askRooms(t, []roomCase{
		allRoom("all 0", turned(lineOf(4), fars(0, 0, 0, 0)), 0, 0, 0, 0),
		{"0 and others", turned(lineOf(4), fars(0, 10, 0, 1000)), []int{0, 10, 10, 1010}, []int{0, 10, 10, 1010}},
		{"0 in a ring", turned(ringOf(3), fars(0, 0, 0)), []int{0, 0, 0}, []int{-2, -2, -2}},
		{"1000000", turned(lineOf(4), fars(1000000, 1000000, 1000000, 1000000)), []int{1000000, 2000000, 3000000, 3000000}, []int{1000000, 2000000, 3000000, 4000000}},
	})
	sameInts(t, "the first of 60", []int{impl.Room(sixty, 59), impl.Stop(sixty, 59)}, []int{3000000, 60000000})
	sameInts(t, "the first of 60, the last one closed", []int{impl.Room(turned(sixty, shut(0)), 59), impl.Stop(turned(sixty, shut(0)), 59)}, []int{3000000, 59000000})
}

// P5, rings

func TestRoomInARing(t *testing.T) {
	never := []int{-2, -2, -2, -2, -2}
	askRooms(t, []roomCase{
		{"all free", powerRing(), []int{111, 1110, 11100, 11001, 10011}, never},
		{"all near", turned(powerRing(), brokenIn(3, 0, 1, 2, 3, 4)), []int{11, 110, 1100, 11000, 10001}, never},
		{"all slow", turned(powerRing(), brokenIn(2, 0, 1, 2, 3, 4)), powers, never},
		allRoom("all stop", turned(powerRing(), brokenIn(1, 0, 1, 2, 3, 4)), 0, 0, 0, 0, 0),
		allRoom("all dark", turned(powerRing(), brokenIn(0, 0, 1, 2, 3, 4)), 0, 0, 0, 0, 0),
		{"one closed", turned(powerRing(), shut(0)), []int{0, 1110, 11100, 11000, 10000}, []int{0, 11110, 11100, 11000, 10000}},
		allRoom("one dark", turned(powerRing(), dark(0)), 0, 1110, 1100, 1000, 0),
		{"one slow", turned(powerRing(), broken(2, 2, 3)), []int{111, 110, 100, 11001, 10011}, never},
	})
}

func TestRoomInAShortRing(t *testing.T) {
	own, two := turned(rowOf(0), fars(7)), turned(ringOf(2), fars(1, 10))
	askRooms(t, []roomCase{
		{"its own Next, free", own, []int{21}, []int{-2}},
		{"its own Next, near", turned(own, broken(0, 3)), []int{14}, []int{-2}},
		{"its own Next, slow", turned(own, broken(0, 2)), []int{7}, []int{-2}},
		allRoom("its own Next, stop", turned(own, broken(0, 1)), 0),
		allRoom("its own Next, dark", turned(own, broken(0, 0)), 0),
		allRoom("its own Next, closed", turned(own, shut(0)), 0),
		{"its own Next, 1000000", turned(own, fars(1000000)), []int{3000000}, []int{-2}},
		{"two, free", two, []int{12, 21}, []int{-2, -2}},
		{"two, one near", turned(two, broken(0, 3)), []int{11, 21}, []int{-2, -2}},
		allRoom("two, one closed", turned(two, shut(0)), 0, 10),
	})
}

func TestRoomOnAWayIntoARing(t *testing.T) {
	into := turned(rowOf(1, 2, 3, 1), fars(1, 10, 100, 1000))
	askRooms(t, []roomCase{
		{"no stop", into, []int{111, 1110, 1110, 1110}, []int{-2, -2, -2, -2}},
		{"closed ahead of the ring", turned(into, shut(0)), []int{0, 1110, 1110, 1110}, []int{0, -2, -2, -2}},
		{"closed where the ring is met", turned(into, shut(1)), []int{1, 0, 1100, 1000}, []int{1, 0, 1100, 1000}},
		allRoom("closed at the ring's last one", turned(into, shut(3)), 111, 110, 100, 0),
		allRoom("dark in the ring", turned(into, dark(2)), 1, 0, 0, 1000),
		{"into its own Next", turned(rowOf(0, 0), fars(7, 10)), []int{21, 24}, []int{-2, -2}},
		allRoom("into its own Next, closed", turned(rowOf(0, 0), fars(7, 10), shut(0)), 0, 10),
	})
}

// P6

type speedCase struct {
	name         string
	room         int
	brake, delay int
	want         int
}

func askSpeeds(t *testing.T, cases []speedCase) {
	t.Helper()
	for _, c := range cases {
		if got := impl.Speed(alone(c.room), 0, c.brake, c.delay); got != c.want {
			t.Errorf("Speed in a room of %d, brake %d, delay %d, %s: %d, not %d", c.room, c.brake, c.delay, c.name, got, c.want)
		}
	}
}

func TestSpeedWithoutDelay(t *testing.T) {
	askSpeeds(t, []speedCase{
		{"no room: 10 needs none", 0, 10, 0, 10},
		{"met by 11", 1, 10, 0, 11},
		{"met by 19", 9, 10, 0, 19},
		{"met by 20", 10, 10, 0, 20},
		{"21 needs 11 + 1", 11, 10, 0, 20},
		{"met by 21", 12, 10, 0, 21},
		{"36 needs 26 + 16 + 6", 47, 10, 0, 35},
		{"met by 36", 48, 10, 0, 36},
		{"37 needs 27 + 17 + 7", 50, 10, 0, 36},
		{"met by 37", 51, 10, 0, 37},
		{"no room: 1000 needs none", 0, 1000, 0, 1000},
		{"met by 1001", 1, 1000, 0, 1001},
		{"2001 needs 1001 + 1", 1001, 1000, 0, 2000},
		{"met by 2001", 1002, 1000, 0, 2001},
		{"26 needs 13 with a brake of 13", 13, 13, 0, 26},
		{"27 needs 14 + 1 with a brake of 13", 14, 13, 0, 26},
	})
}

func TestSpeedWithDelay(t *testing.T) {
	askSpeeds(t, []speedCase{
		{"no room", 0, 10, 1, 0},
		{"no room", 0, 1000, 20, 0},
		{"below brake", 1, 10, 1, 1},
		{"below brake", 9, 10, 1, 9},
		{"as much as brake", 10, 10, 1, 10},
		{"11 needs 11 + 1", 11, 10, 1, 10},
		{"met by 11", 12, 10, 1, 11},
		{"36 needs 3*36 + 48", 155, 10, 3, 35},
		{"met by 36", 156, 10, 3, 36},
		{"1 needs 20", 19, 10, 20, 0},
		{"met by 1", 20, 10, 20, 1},
		{"2 needs 40", 39, 10, 20, 1},
		{"11 needs 220 + 1", 220, 10, 20, 10},
		{"met by 11", 221, 10, 20, 11},
		{"below brake", 999, 1000, 1, 999},
		{"as much as brake", 1000, 1000, 1, 1000},
		{"1001 needs 1001 + 1", 1001, 1000, 1, 1000},
		{"met by 1001", 1002, 1000, 1, 1001},
	})
}

func TestSpeedUpToTheGreatest(t *testing.T) {
	// 10000 needs 9000 + 8000 + .. + 1000 = 45000 with a brake of 1000, 9999 needs 44991
	askSpeeds(t, []speedCase{
		{"9999", 44991, 1000, 0, 9999},
		{"missed by one", 44999, 1000, 0, 9999},
		{"met", 45000, 1000, 0, 10000},
		{"one more", 45001, 1000, 0, 10000},
		{"room for 10001 too", 45010, 1000, 0, 10000},
		{"much room", 1000000, 1000, 0, 10000},
		{"missed by one", 244999, 1000, 20, 9999},
		{"met", 245000, 1000, 20, 10000},
		{"much room", 1000000, 1000, 20, 10000},
		{"much room and little brake", 1000000, 10, 0, 4477},
	})
}

func TestSpeedGoesByTheRoom(t *testing.T) {
	type ask struct {
		name   string
		row    impl.Row
		signal int
		delay  int
		want   int
	}
	line := turned(lineOf(5), fars(6, 12, 30, 40, 50))
	for _, a := range []ask{
		{"slow, a room of 6", line, 0, 0, 16},
		{"near, a room of 18", line, 1, 0, 24},
		{"free, a room of 48", line, 2, 0, 36},
		{"free, a room of 82 of 88", line, 3, 0, 45},
		{"near for free, a room of 42", turned(line, broken(2, 3)), 2, 0, 34},
		{"its own Next, a room of 3 times 16", turned(rowOf(0), fars(16)), 0, 0, 36},
		{"free, no room", turned(lineOf(3), fars(0, 0, 0)), 2, 0, 10},
		{"free, no room, a delay", turned(lineOf(3), fars(0, 0, 0)), 2, 1, 0},
		{"free in a ring, no room", turned(rowOf(0), fars(0)), 0, 0, 10},
	} {
		if got := impl.Speed(a.row, a.signal, 10, a.delay); got != a.want {
			t.Errorf("Speed, %s: %d, not %d", a.name, got, a.want)
		}
	}
}

func TestSpeedAtAStop(t *testing.T) {
	for name, r := range map[string]impl.Row{
		"closed":                   turned(lineOf(3), shut(1)),
		"closed, Fars of 0":        turned(lineOf(3), fars(0, 0, 0), shut(1)),
		"closed, Fars of 1000000":  turned(lineOf(3), fars(1000000, 1000000, 1000000), shut(1)),
		"dark":                     turned(lineOf(3), dark(1)),
		"closed and dark":          turned(lineOf(3), shut(1), broken(1, 0)),
		"behind a dark one":        turned(lineOf(3), dark(0)),
		"stop for near":            turned(lineOf(3), broken(1, 1, 2)),
		"closed in a ring":         turned(ringOf(3), shut(1)),
		"dark in a ring":           turned(ringOf(3), dark(1)),
		"a ring that is all stop":  turned(ringOf(3), brokenIn(1, 0, 1, 2)),
		"a ring that is all dark":  turned(ringOf(3), brokenIn(0, 0, 1, 2)),
		"closed, its own Next":     turned(rowOf(-1, 1), shut(1)),
		"closed, and the way ends": turned(rowOf(0, -1), shut(1)),
	} {
		for _, brake := range []int{10, 11, 500, 1000} {
			for _, delay := range []int{0, 1, 20} {
				if got := impl.Speed(r, 1, brake, delay); got != 0 {
					t.Errorf("Speed, %s, brake %d, delay %d: %d, not 0", name, brake, delay, got)
				}
			}
		}
	}
}

// P5 and P6, wrong inputs

func TestSpeedLimits(t *testing.T) {
	askSpeeds(t, []speedCase{
		{"brake below the least", 51, 9, 0, -1},
		{"the least brake", 51, 10, 0, 37},
		{"the greatest brake", 51, 1000, 0, 1051},
		{"brake above the greatest", 51, 1001, 0, -1},
		{"brake 0", 51, 0, 0, -1},
		{"brake -10", 51, -10, 0, -1},
		{"brake far below", 51, math.MinInt, 0, -1},
		{"brake far above", 51, math.MaxInt, 0, -1},
		{"delay below the least", 51, 10, -1, -1},
		{"the least delay", 51, 10, 0, 37},
		{"the greatest delay", 51, 10, 20, 2},
		{"delay above the greatest", 51, 10, 21, -1},
		{"delay far below", 51, 10, math.MinInt, -1},
		{"delay far above", 51, 10, math.MaxInt, -1},
		{"both", 51, 9, 21, -1},
	})
}

func TestSpeedLimitsAtAStop(t *testing.T) {
	for _, r := range []impl.Row{turned(lineOf(2), shut(1)), turned(lineOf(2), dark(1))} {
		for _, wrong := range [][2]int{{9, 0}, {1001, 0}, {10, -1}, {10, 21}, {0, 0}} {
			if got := impl.Speed(r, 1, wrong[0], wrong[1]); got != -1 {
				t.Errorf("Speed at a stop, brake %d, delay %d: %d, not -1", wrong[0], wrong[1], got)
			}
		}
	}
}

func noRoom(t *testing.T, what string, r impl.Row, signal int) {
	t.Helper()
	got := []int{impl.Room(r, signal), impl.Stop(r, signal), impl.Speed(r, signal, 10, 0), impl.Speed(r, signal, 1000, 20), impl.Speed(r, signal, 9, 21)}
	sameInts(t, fmt.Sprint("Room, Stop and Speed, ", what, ", signal ", signal), got, []int{-1, -1, -1, -1, -1})
}

func TestNoRoomInAWrongRow(t *testing.T) {
	rows := map[string]impl.Row{"61 signals": lineOf(61), "61 signals in a ring": ringOf(61), "no signals": {}}
	for _, w := range wrongRows {
		rows[w.name] = changed(w.change)
		rows[w.name+", and all shut"] = changed(func(r *impl.Row) {
			clear(r.Open)
			w.change(r)
		})
	}
	for name, r := range rows {
		for signal := -1; signal <= 6; signal++ {
			noRoom(t, name, r, signal)
		}
	}
}

func TestNoRoomAtNoSuchSignal(t *testing.T) {
	for _, r := range []impl.Row{{}, rowOf(-1), rowOf(0), lineOf(5), ringOf(5), lineOf(60), roomy(lineOf(5)), turned(lineOf(5), shut(0, 4))} {
		count := len(r.Next)
		for _, signal := range []int{-1, -2, count, count + 1, math.MinInt, math.MaxInt} {
			noRoom(t, fmt.Sprint(count, " signals"), r, signal)
		}
	}
}

// P7

// lineShows is what count signals show of which this one, or none (-1), is closed; 0 is where the way ends.
func lineShows(count, closed int) []int {
	var shows []int
	for i := range count {
		steps := i - closed
		if i < closed {
			steps = i + 1
		}
		shows = append(shows, min(steps, 3))
	}
	return shows
}

func TestLines(t *testing.T) {
	sameInts(t, "six, none closed", lineShows(6, -1), []int{1, 2, 3, 3, 3, 3})
	sameInts(t, "seven, one closed", lineShows(7, 2), []int{1, 2, 0, 1, 2, 3, 3})
	for count := 1; count <= 20; count++ {
		for closed := -1; closed < count; closed++ {
			down := lineOf(count)
			if closed >= 0 {
				down = turned(down, shut(closed))
			}
			up, want := turnedRound(down), lineShows(count, closed)
			what := fmt.Sprint(count, " signals, ", closed, " closed")
			sameInts(t, "Shows, "+what, impl.Shows(down), want)
			sameInts(t, "Wants, "+what, impl.Wants(down), want)
			sameInts(t, "Shows, numbered the other way, "+what, impl.Shows(up), backwards(want))
			askLineRooms(t, what, down, want, closed)
		}
	}
}

// askLineRooms: in a line the room is up to the stop, or three Fars where that is farther.
func askLineRooms(t *testing.T, what string, r impl.Row, shows []int, closed int) {
	t.Helper()
	rooms, stops := make([]int, len(shows)), make([]int, len(shows))
	for i := range shows {
		for at := i; at > i-shows[i]; at-- {
			rooms[i] += r.Far[at]
		}
		for at := i; at >= 0 && at != closed; at-- {
			stops[i] += r.Far[at]
		}
	}
	askRooms(t, []roomCase{{what, r, rooms, stops}})
}

// turnedRound is a line with its numbers the other way round.
func turnedRound(r impl.Row) impl.Row {
	c, last := copyOf(r), len(r.Next)-1
	for i := range r.Next {
		c.Next[last-i] = last - r.Next[i]
		if r.Next[i] == -1 {
			c.Next[last-i] = -1
		}
		c.Far[last-i], c.Open[last-i] = r.Far[i], r.Open[i]
	}
	return c
}

func backwards(list []int) []int {
	var back []int
	for i := range list {
		back = append(back, list[len(list)-1-i])
	}
	return back
}

// Chapter 3, what the document says of every answer

func TestRoomArgumentsAreKept(t *testing.T) {
	rows := showRows()
	for _, w := range wrongRows {
		rows[w.name] = changed(w.change)
	}
	for name, r := range rows {
		for signal := -1; signal <= len(r.Next); signal++ {
			keepsRow(t, "Room, "+name, r, func(r impl.Row) { impl.Room(r, signal) })
			keepsRow(t, "Stop, "+name, r, func(r impl.Row) { impl.Stop(r, signal) })
			keepsRow(t, "Speed, "+name, r, func(r impl.Row) { impl.Speed(r, signal, 10, 1) })
			keepsRow(t, "Speed with a wrong brake, "+name, r, func(r impl.Row) { impl.Speed(r, signal, 9, 1) })
		}
	}
}

func TestRoomAnswersAreTheSameAgain(t *testing.T) {
	r := turned(rowOf(3, 3, -1, 2, 3, 3, 6, 6), fars(1, 2, 40, 8, 16, 32, 64, 128), shut(4), broken(6, 2), broken(3, 2))
	for range 50 {
		rooms, stops := roomsOf(r)
		sameInts(t, "Room again", rooms, []int{9, 10, 40, 8, 0, 40, 64, 192})
		sameInts(t, "Stop again", stops, []int{49, 50, 40, 48, 0, 80, -2, -2})
		sameInts(t, "Speed again", []int{impl.Speed(r, 2, 10, 0), impl.Speed(r, 4, 10, 0), impl.Speed(r, 7, 10, 2), impl.Speed(r, 7, 9, 2)}, []int{33, 0, 48, -1})
	}
}
