package impl

import "iter"

const (
	MaxSignals = 60
	MaxFar     = 1000000
)

const (
	noNext    = -1
	lampCount = 4
)

// Row is signals as their ways are set now: for each the next one, -1 for none, how far it is to it, whether its own way is open, and which of its four lamps work.
type Row struct {
	Next  []int
	Far   []int
	Open  []bool
	Works [][]bool
}

// RowOk is 0 for a row that is right, else the first of the codes 1 (sizes), 2 (ways) and 3 (lamps).
func RowOk(r Row) int {
	// Each code is asked of the whole row ahead of the next one: a fault of a later signal may have the earlier code.
	switch {
	case !sizesRight(r):
		return 1
	case !waysRight(r):
		return 2
	case !lampsRight(r):
		return 3
	}
	return 0
}

func sizesRight(r Row) bool {
	count := len(r.Next)
	return count <= MaxSignals && len(r.Far) == count && len(r.Open) == count && len(r.Works) == count
}

func waysRight(r Row) bool {
	for _, next := range r.Next {
		if next != noNext && !isNumberIn(r, next) {
			return false
		}
	}
	for _, far := range r.Far {
		if far < 0 || far > MaxFar {
			return false
		}
	}
	return true
}

func lampsRight(r Row) bool {
	for _, lamps := range r.Works {
		if len(lamps) != lampCount {
			return false
		}
	}
	return true
}

func isNumberIn(r Row, signal int) bool {
	return 0 <= signal && signal < len(r.Next)
}

// hasSignal tells whether a question about this signal has an answer at all.
func hasSignal(r Row, signal int) bool {
	return RowOk(r) == 0 && isNumberIn(r, signal)
}

// Behind is the signals whose Next is this one, in order.
func Behind(r Row, signal int) []int {
	if !hasSignal(r, signal) {
		return nil
	}
	return behindEach(r)[signal]
}

// behindEach has no key for a signal with none behind it. Its lists are in order because the signals are gone through in order.
func behindEach(r Row) map[int][]int {
	behind := make(map[int][]int)
	for signal, next := range r.Next {
		if next != noNext {
			behind[next] = append(behind[next], signal)
		}
	}
	return behind
}

// Chain is the signal itself, its Next, the Next of that and so on, each of them once.
func Chain(r Row, signal int) []int {
	if !hasSignal(r, signal) {
		return nil
	}
	var chain []int
	for met := range onward(r, signal) {
		chain = append(chain, met)
	}
	return chain
}

// onward goes along the Nexts of a right row, and ends ahead of a signal that it has met already, for a ring has no end of its own.
func onward(r Row, signal int) iter.Seq[int] {
	return func(yield func(int) bool) {
		met := make([]bool, len(r.Next))
		for at := signal; at != noNext && !met[at]; at = r.Next[at] {
			met[at] = true
			if !yield(at) {
				return
			}
		}
	}
}
