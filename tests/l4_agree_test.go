package tests

import (
	"math/rand/v2"
	"regexp"
	"slices"
	"strconv"
	"strings"
	"testing"

	"loop.example/aspect/impl"
)

// Chapter 4 over many rows and texts, held against its words taken one by one. Nothing here knows of words or their closure.

var signalLine = regexp.MustCompile(`\A(open|shut) lamps ([0-][1-][2-][3-])(?: next (0|[1-9][0-9]{0,7})| end) far (0|[1-9][0-9]{0,7})\z`)

// plainRead is the row of a text, or its Code and Line.
func plainRead(text string) impl.Told {
	if len(text) > 10000 {
		return impl.Told{Code: 2}
	}
	var r impl.Row
	lines := strings.Split(text, "\n")
	for i, line := range lines {
		last := i == len(lines)-1
		if last && line == "" {
			break
		}
		parts := signalLine.FindStringSubmatch(line)
		if last || parts == nil {
			return impl.Told{Code: 1, Line: i + 1}
		}
		next, err := strconv.Atoi(parts[3])
		if err != nil {
			next = -1
		}
		far, _ := strconv.Atoi(parts[4])
		r.Open = append(r.Open, parts[1] == "open")
		r.Works = append(r.Works, []bool{parts[2][0] != '-', parts[2][1] != '-', parts[2][2] != '-', parts[2][3] != '-'})
		r.Next, r.Far = append(r.Next, next), append(r.Far, far)
	}
	wrongNext := slices.ContainsFunc(r.Next, func(next int) bool { return next >= len(r.Next) })
	wrongFar := slices.ContainsFunc(r.Far, func(far int) bool { return far > 1000000 })
	if len(r.Next) > 60 || wrongNext || wrongFar {
		return impl.Told{Code: 3}
	}
	return impl.Told{Row: r}
}

// tally counts which Codes have been met, so that none of them is hardly asked for.
type tally [4]int

func (c tally) atLeast(t *testing.T, code, least int) {
	t.Helper()
	if c[code] < least {
		t.Errorf("only %d texts with Code %d", c[code], code)
	}
}

func (c *tally) ask(t *testing.T, text string) {
	t.Helper()
	got, want := impl.ReadRow(text), plainRead(text)
	if !sameTold(got, want) {
		t.Fatalf("ReadRow of %q: %v, not %v", text, got, want)
	}
	c[want.Code]++
	if want.Code == 0 && impl.WriteRow(got.Row) != text {
		t.Fatalf("ReadRow takes %q, but its row is written %q", text, impl.WriteRow(got.Row))
	}
	if answer := impl.Answer(text); answer != plainAnswer(want) {
		t.Fatalf("Answer to %q: %q, not %q", text, answer, plainAnswer(want))
	}
}

func plainAnswer(told impl.Told) string {
	if told.Code != 0 {
		return "wrong " + strconv.Itoa(told.Code) + " " + strconv.Itoa(told.Line) + "\n"
	}
	names := map[int]string{impl.ADark: "dark", impl.AStop: "stop", impl.ASlow: "slow", impl.ANear: "near", impl.AFree: "free"}
	wants, shows := allAtOnce(told.Row)
	answer := ""
	for signal := range shows {
		answer += strconv.Itoa(signal) + " " + names[shows[signal]]
		if wants[signal] != shows[signal] {
			answer += " for " + names[wants[signal]]
		}
		answer += "\n"
	}
	return answer
}

// P8, rows

func readsBack(t *testing.T, r impl.Row) {
	t.Helper()
	text := impl.WriteRow(r)
	if got := impl.ReadRow(text); !sameTold(got, impl.Told{Row: r}) {
		t.Fatalf("%v is read back from %q as %v", r, text, got)
	}
	if !sameTold(plainRead(text), impl.Told{Row: r}) {
		t.Fatalf("%v is written %q", r, text)
	}
}

// answerTells fails unless each line of the answer tells what Wants and Shows answer.
func answerTells(t *testing.T, r impl.Row) {
	t.Helper()
	names := []string{"dark", "stop", "slow", "near", "free"}
	answer, wants, shows := impl.Answer(impl.WriteRow(r)), impl.Wants(r), impl.Shows(r)
	lines := strings.SplitAfter(answer, "\n")
	if len(lines) != len(shows)+1 || lines[len(shows)] != "" {
		t.Fatalf("%v: %d lines in %q", r, len(lines)-1, answer)
	}
	for signal, shown := range shows {
		want := strconv.Itoa(signal) + " " + names[shown+1]
		if wants[signal] != shown {
			want += " for " + names[wants[signal]+1]
		}
		if lines[signal] != want+"\n" {
			t.Fatalf("%v: line %q, not %q", r, lines[signal], want)
		}
	}
}

func TestRowsAreReadBack(t *testing.T) {
	t.Parallel()
	draw := rand.New(rand.NewPCG(4, 11))
	ask := func(r impl.Row) {
		drawFars(draw, r)
		readsBack(t, r)
		answerTells(t, r)
	}
	for count := range 3 {
		smallRows(count, ask)
	}
	drawnRows(2000, ask)
}

// One in 31 of the rows of three signals, for there are two million of them.
func TestRowsOfThreeAreReadBack(t *testing.T) {
	t.Parallel()
	at := 0
	smallRows(3, func(r impl.Row) {
		if at++; at%31 == 0 {
			readsBack(t, r)
			answerTells(t, r)
		}
	})
}

func TestEveryFarIsReadBack(t *testing.T) {
	t.Parallel()
	for far := 0; far <= impl.MaxFar; far += 1 + far/500 {
		readsBack(t, alone(far))
	}
	for far := impl.MaxFar - 1000; far <= impl.MaxFar; far++ {
		readsBack(t, alone(far))
	}
}

func TestEveryNextIsReadBack(t *testing.T) {
	t.Parallel()
	for count := 1; count <= 60; count++ {
		for next := -1; next < count; next++ {
			readsBack(t, rowOf(slices.Repeat([]int{next}, count)...))
		}
	}
}

// P8, texts

const threeLines = "open lamps 0123 end far 50\nshut lamps 0-2- next 0 far 1000000\nopen lamps ---- next 2 far 0\n"

// Every text that is one byte away from a right one.
func TestTextsOneByteAway(t *testing.T) {
	t.Parallel()
	var met tally
	for at := range len(threeLines) + 1 {
		head, tail := threeLines[:at], threeLines[at:]
		for b := range 256 {
			met.ask(t, head+string([]byte{byte(b)})+tail)
			if tail != "" {
				met.ask(t, head+string([]byte{byte(b)})+tail[1:])
			}
		}
		met.ask(t, head)
		met.ask(t, tail)
		if tail != "" {
			met.ask(t, head+tail[1:])
		}
	}
	met.atLeast(t, 0, 50)
	met.atLeast(t, 1, 10000)
	met.atLeast(t, 3, 50)
}

// wordTurns is each list of words that is one word away from this one: left out, twice, another one, one too many, two in each other's place.
func wordTurns(words []string) [][]string {
	others := []string{"open", "shut", "lamps", "0123", "--2-", "next", "end", "far", "0", "1", "05", "99999999", "100000000", "-1", "", "-"}
	var all [][]string
	for at := range words {
		all = append(all, slices.Delete(slices.Clone(words), at, at+1))
		for other := range words {
			swapped := slices.Clone(words)
			swapped[at], swapped[other] = swapped[other], swapped[at]
			all = append(all, swapped)
		}
		for _, word := range others {
			all = append(all, slices.Replace(slices.Clone(words), at, at+1, word))
		}
	}
	for at := range len(words) + 1 {
		for _, word := range append(others, words...) {
			all = append(all, slices.Insert(slices.Clone(words), at, word))
		}
	}
	return all
}

// Every line that is up to two words away from a right one.
func TestLinesTwoWordsAway(t *testing.T) {
	t.Parallel()
	var met tally
	for _, line := range []string{"open lamps 0123 end far 5", "shut lamps -1-3 next 0 far 10"} {
		for _, once := range wordTurns(strings.Split(line, " ")) {
			for _, twice := range wordTurns(once) {
				met.ask(t, strings.Join(twice, " ")+"\n")
			}
		}
	}
	met.atLeast(t, 0, 100)
	met.atLeast(t, 1, 10000)
	met.atLeast(t, 3, 100)
}

// stringsOf calls with every string of these signs that is up to so long.
func stringsOf(signs string, length int, call func(string)) {
	call("")
	if length == 0 {
		return
	}
	for _, sign := range signs {
		stringsOf(signs, length-1, func(rest string) { call(string(sign) + rest) })
	}
}

func TestEveryLampsWord(t *testing.T) {
	t.Parallel()
	var met tally
	stringsOf("0123-4 ", 5, func(lamps string) {
		met.ask(t, "open lamps "+lamps+" end far 5\n")
	})
	met.atLeast(t, 0, 16)
	met.atLeast(t, 1, 2000)
}

func TestEveryNumberWord(t *testing.T) {
	t.Parallel()
	var met tally
	stringsOf("015+- ", 4, func(number string) {
		met.ask(t, "open lamps 0123 end far "+number+"\n")
		met.ask(t, "shut lamps ---- next "+number+" far 1\n")
		met.ask(t, "open lamps 0123 end far 100000"+number+"\n")
		met.ask(t, "open lamps 0123 end far 12345"+number+"\n")
		met.ask(t, "open lamps 0123 next 12345"+number+" far 1\n")
	})
	met.atLeast(t, 0, 50)
	met.atLeast(t, 1, 1000)
	met.atLeast(t, 3, 50)
}

// faulty lays faults into a text: bytes that are other ones, lines left out or cut off, numbers that are great.
func faulty(draw *rand.Rand, text string) string {
	for range draw.IntN(3) {
		at := draw.IntN(len(text))
		switch draw.IntN(6) {
		case 0:
			text = text[:at] + text[at+1:]
		case 1:
			text = text[:at] + string(text[draw.IntN(len(text))]) + text[at:]
		case 2:
			text = text[:at+1]
		case 3:
			text = strings.Replace(text, " far ", " far "+strconv.Itoa(draw.IntN(100)), 1)
		case 4:
			text = text[:at] + strings.Replace(text[at:], "next ", "next "+strconv.Itoa(draw.IntN(3)), 1)
		case 5:
			text += text
		}
	}
	return text
}

func TestFaultyTexts(t *testing.T) {
	t.Parallel()
	draw := rand.New(rand.NewPCG(8, 9))
	var met tally
	drawnRows(1000, func(r impl.Row) {
		drawFars(draw, r)
		text := impl.WriteRow(r)
		for range 5 {
			met.ask(t, faulty(draw, text))
		}
	})
	met.atLeast(t, 0, 500)
	met.atLeast(t, 1, 500)
	met.atLeast(t, 3, 500)
}

// Texts of each length about the limit, of each kind of end.
func TestTextsAboutTheLimit(t *testing.T) {
	t.Parallel()
	var met tally
	body := strings.Repeat("open lamps 0123 end far 5\n", 383)
	for _, start := range []string{"", "\n", "x\n", "open lamps 0123 next 5 far 5\n"} {
		for _, end := range []string{"", "\n", "x", " ", "far 5\n"} {
			for more := range 60 {
				met.ask(t, start+body+"open lamps 0123 end far "+strings.Repeat("5", more)+end)
			}
		}
	}
	met.atLeast(t, 1, 100)
	met.atLeast(t, 2, 100)
	met.atLeast(t, 3, 3)
}
