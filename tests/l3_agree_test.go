package tests

import (
	"math/rand/v2"
	"testing"

	"loop.example/aspect/impl"
)

// Chapter 3 over many rows, held against its words taken one by one. Nothing here knows of closed sums or halves.

func plainRoom(r impl.Row, signal int, shows []int) int {
	room, at := 0, signal
	for range max(shows[signal], 0) {
		if at == -1 {
			break
		}
		room += r.Far[at]
		at = r.Next[at]
	}
	return room
}

// plainStop goes on for more steps than there are signals: who has not come to a stop by then goes in a ring.
func plainStop(r impl.Row, signal int, shows []int) int {
	way, at := 0, signal
	for range len(r.Next) + 1 {
		if at == -1 || shows[at] == impl.AStop || shows[at] == impl.ADark {
			return way
		}
		way += r.Far[at]
		at = r.Next[at]
	}
	return -2
}

// drawFars lays down near and far ones, some of them 0.
func drawFars(draw *rand.Rand, r impl.Row) {
	most := []int{1, 20, 3000, impl.MaxFar}[draw.IntN(4)]
	for i := range r.Far {
		r.Far[i] = draw.IntN(most + 1)
		if draw.IntN(20) == 0 {
			r.Far[i] = impl.MaxFar * draw.IntN(2)
		}
	}
}

// P5

func TestThereIsTheRoomThatIsTold(t *testing.T) {
	t.Parallel()
	ends, rings, short := 0, 0, 0
	ask := func(r impl.Row) {
		_, shows := allAtOnce(r)
		for signal := range r.Next {
			room, stop := impl.Room(r, signal), impl.Stop(r, signal)
			if room != plainRoom(r, signal, shows) || stop != plainStop(r, signal, shows) {
				t.Fatalf("%v, %d: room %d and stop %d, not %d and %d", r, signal, room, stop, plainRoom(r, signal, shows), plainStop(r, signal, shows))
			}
			if stop != -2 && room > stop {
				t.Fatalf("%v, %d: room %d, but a stop after %d", r, signal, room, stop)
			}
			if shows[signal] <= impl.AStop && (room != 0 || stop != 0) {
				t.Fatalf("%v, %d: room %d and stop %d at a stop", r, signal, room, stop)
			}
			switch {
			case stop == -2:
				rings++
			case room < stop:
				short++
			case room > 0:
				ends++
			}
		}
	}
	for count := range 4 {
		smallRows(count, func(r impl.Row) {
			copy(r.Far, powers)
			ask(r)
		})
	}
	draw := rand.New(rand.NewPCG(3, 8))
	drawnRows(2000, func(r impl.Row) {
		drawFars(draw, r)
		ask(r)
	})
	if ends < 1000 || rings < 1000 || short < 1000 {
		t.Errorf("rooms up to the stop %d, without a stop %d, less than up to the stop %d: one of them is hardly asked for", ends, rings, short)
	}
}

// P6

// train is one brake and delay: how far it comes from each speed, and from the worst of all speeds up to it.
type train struct {
	brake, delay int
	comes, worst []int
}

// comesFrom goes tick by tick.
func comesFrom(speed, brake, delay int) int {
	way := delay * speed
	for left := speed - brake; left > 0; left -= brake {
		way += left
	}
	return way
}

func trainOf(brake, delay int) train {
	tr := train{brake: brake, delay: delay}
	worst := 0
	for speed := range impl.MaxSpeed + 2 {
		way := comesFrom(speed, brake, delay)
		worst = max(worst, way)
		tr.comes, tr.worst = append(tr.comes, way), append(tr.worst, worst)
	}
	return tr
}

func trains() []train {
	var all []train
	for _, brake := range []int{10, 11, 13, 37, 100, 499, 999, 1000} {
		for _, delay := range []int{0, 1, 2, 7, 19, 20} {
			all = append(all, trainOf(brake, delay))
		}
	}
	return all
}

func askTrain(t *testing.T, r impl.Row, signal, room int, tr train) {
	t.Helper()
	speed := impl.Speed(r, signal, tr.brake, tr.delay)
	switch {
	case speed < 0 || speed > impl.MaxSpeed:
		t.Fatalf("%v, %d, brake %d, delay %d: no speed is %d", r, signal, tr.brake, tr.delay, speed)
	case tr.worst[speed] > room:
		t.Fatalf("%v, %d, brake %d, delay %d: at %d or below it comes %d in a room of %d", r, signal, tr.brake, tr.delay, speed, tr.worst[speed], room)
	case speed < impl.MaxSpeed && tr.comes[speed+1] <= room:
		t.Fatalf("%v, %d, brake %d, delay %d: %d is told, but one more comes %d in a room of %d", r, signal, tr.brake, tr.delay, speed, tr.comes[speed+1], room)
	}
}

func TestATrainStopsInTheRoom(t *testing.T) {
	t.Parallel()
	all, draw := trains(), rand.New(rand.NewPCG(6, 8))
	ask := func(r impl.Row) {
		_, shows := allAtOnce(r)
		for signal := range r.Next {
			tr := all[draw.IntN(len(all))]
			if shows[signal] <= impl.AStop {
				if got := impl.Speed(r, signal, tr.brake, tr.delay); got != 0 {
					t.Fatalf("%v, %d, brake %d, delay %d: %d at a stop", r, signal, tr.brake, tr.delay, got)
				}
				continue
			}
			askTrain(t, r, signal, plainRoom(r, signal, shows), tr)
		}
	}
	for count := range 3 {
		smallRows(count, func(r impl.Row) {
			for range 3 {
				drawFars(draw, r)
				ask(r)
			}
		})
	}
	drawnRows(2000, func(r impl.Row) {
		drawFars(draw, r)
		ask(r)
	})
}

// Every speed's own room is met exactly by it, or by one that comes no farther; one less is missed.
func TestATrainMeetsARoomExactly(t *testing.T) {
	t.Parallel()
	for _, tr := range trains() {
		for speed := 0; speed <= impl.MaxSpeed; speed += 1 + speed/40 {
			for room := tr.comes[speed] - 1; room <= tr.comes[speed]+1; room++ {
				if room >= 0 && room <= impl.MaxFar {
					askTrain(t, alone(room), 0, room, tr)
				}
			}
		}
	}
}

func TestATrainStopsInEverySmallRoom(t *testing.T) {
	t.Parallel()
	for _, tr := range trains() {
		for room := range 1500 {
			askTrain(t, alone(room), 0, room, tr)
		}
	}
}

// Two and three Fars of 1000000 are the greatest rooms that there are.
func TestATrainStopsInTheGreatestRooms(t *testing.T) {
	t.Parallel()
	for _, tr := range trains() {
		for far := impl.MaxFar - 100; far <= impl.MaxFar; far++ {
			line := turned(lineOf(4), fars(far, far, far, far))
			askTrain(t, line, 1, 2*far, tr)
			askTrain(t, line, 3, 3*far, tr)
		}
	}
}

// Every brake and delay that is allowed has an answer, those beside them have none.
func TestEveryBrakeAndDelay(t *testing.T) {
	t.Parallel()
	for brake := impl.MinBrake - 2; brake <= impl.MaxBrake+2; brake++ {
		for delay := -2; delay <= impl.MaxDelay+2; delay++ {
			for _, room := range []int{0, 5003, 1000000} {
				got := impl.Speed(alone(room), 0, brake, delay)
				if brake < 10 || brake > 1000 || delay < 0 || delay > 20 {
					if got != -1 {
						t.Fatalf("brake %d, delay %d: %d, not -1", brake, delay, got)
					}
					continue
				}
				if got < 0 || got > 10000 || comesFrom(got, brake, delay) > room || got < 10000 && comesFrom(got+1, brake, delay) <= room {
					t.Fatalf("room %d, brake %d, delay %d: %d", room, brake, delay, got)
				}
			}
		}
	}
}
