package tests

import (
	"fmt"
	"slices"
	"strings"
	"testing"

	"loop.example/aspect/impl"
)

func TestTextConstants(t *testing.T) {
	if impl.MaxText != 10000 {
		t.Error(impl.MaxText)
	}
}

// P8, rows and their texts

type textCase struct {
	name string
	row  impl.Row
	text string
}

// lampRow is 16 signals in a ring, of which each has another set of lamps.
func lampRow() impl.Row {
	return turned(ringOf(16), fars(make([]int, 16)...), func(r *impl.Row) {
		for signal, lamps := range r.Works {
			for lamp := range lamps {
				lamps[lamp] = signal>>lamp&1 == 0
			}
		}
	})
}

const lampText = `open lamps 0123 next 1 far 0
open lamps -123 next 2 far 0
open lamps 0-23 next 3 far 0
open lamps --23 next 4 far 0
open lamps 01-3 next 5 far 0
open lamps -1-3 next 6 far 0
open lamps 0--3 next 7 far 0
open lamps ---3 next 8 far 0
open lamps 012- next 9 far 0
open lamps -12- next 10 far 0
open lamps 0-2- next 11 far 0
open lamps --2- next 12 far 0
open lamps 01-- next 13 far 0
open lamps -1-- next 14 far 0
open lamps 0--- next 15 far 0
open lamps ---- next 0 far 0
`

// sixtyText is the text of 60 signals in a ring.
func sixtyText() string {
	var text strings.Builder
	for signal := range 60 {
		fmt.Fprintf(&text, "open lamps 0123 next %d far %d\n", (signal+1)%60, 100+signal)
	}
	return text.String()
}

func textCases() []textCase {
	return []textCase{
		{"no signals", impl.Row{}, ""},
		{"no signals, empty lists", impl.Row{Next: []int{}, Far: []int{}, Open: []bool{}, Works: [][]bool{}}, ""},
		{"open, and the way ends", alone(50), "open lamps 0123 end far 50\n"},
		{"shut, and the way ends", turned(alone(50), shut(0)), "shut lamps 0123 end far 50\n"},
		{"its own Next", turned(rowOf(0), fars(7)), "open lamps 0123 next 0 far 7\n"},
		{"shut, and its own Next", turned(rowOf(0), fars(7), shut(0)), "shut lamps 0123 next 0 far 7\n"},
		{"all lamps broken", turned(alone(1), dark(0)), "open lamps ---- end far 1\n"},
		{"a shut one's lamps broken", turned(alone(1), shut(0), broken(0, 0, 2)), "shut lamps -1-3 end far 1\n"},
		{"Far 0", alone(0), "open lamps 0123 end far 0\n"},
		{"Far 9", alone(9), "open lamps 0123 end far 9\n"},
		{"Far 10", alone(10), "open lamps 0123 end far 10\n"},
		{"Far 999999", alone(999999), "open lamps 0123 end far 999999\n"},
		{"Far 1000000", alone(1000000), "open lamps 0123 end far 1000000\n"},
		{"a line", turned(lineOf(3), fars(0, 1000000, 20), shut(2), broken(1, 2)),
			"open lamps 0123 end far 0\nopen lamps 01-3 next 0 far 1000000\nshut lamps 0123 next 1 far 20\n"},
		{"a Next of a later line", turned(rowOf(2, -1, 1), fars(1, 2, 3)),
			"open lamps 0123 next 2 far 1\nopen lamps 0123 end far 2\nopen lamps 0123 next 1 far 3\n"},
		{"all end, all the same", turned(rowOf(-1, -1), fars(5, 5)), "open lamps 0123 end far 5\nopen lamps 0123 end far 5\n"},
		{"every set of lamps", lampRow(), lampText},
		{"60 signals", ringOf(60), sixtyText()},
		{"lists that could hold more", roomy(turned(alone(50), shut(0))), "shut lamps 0123 end far 50\n"},
	}
}

func TestWriteRow(t *testing.T) {
	for _, c := range textCases() {
		if got := impl.WriteRow(c.row); got != c.text {
			t.Errorf("WriteRow, %s: %q, not %q", c.name, got, c.text)
		}
	}
}

func TestNothingWrittenOfAWrongRow(t *testing.T) {
	rows := map[string]impl.Row{
		"61 signals":           lineOf(61),
		"61 signals in a ring": ringOf(61),
		"only Next":            {Next: []int{-1}},
		"only Works":           {Works: [][]bool{{true, true, true, true}}},
		"Next 1 of one signal": rowOf(1),
	}
	for _, w := range wrongRows {
		rows[w.name] = changed(w.change)
	}
	for name, r := range rows {
		if got := impl.WriteRow(r); got != "" {
			t.Errorf("WriteRow, %s: %q, not nothing", name, got)
		}
	}
}

// sameRow: an empty list and nil are the same value.
func sameRow(a, b impl.Row) bool {
	return slices.Equal(a.Next, b.Next) && slices.Equal(a.Far, b.Far) && slices.Equal(a.Open, b.Open) && slices.EqualFunc(a.Works, b.Works, slices.Equal)
}

func sameTold(a, b impl.Told) bool {
	return a.Code == b.Code && a.Line == b.Line && sameRow(a.Row, b.Row)
}

func TestReadRow(t *testing.T) {
	for _, c := range textCases() {
		if got := impl.ReadRow(c.text); !sameTold(got, impl.Told{Row: c.row}) {
			t.Errorf("ReadRow, %s: %v, not %v", c.name, got, c.row)
		}
	}
}

// refused fails unless this is all that is told of a text.
func refused(t *testing.T, name, text string, code, line int) {
	t.Helper()
	if got := impl.ReadRow(text); !sameTold(got, impl.Told{Code: code, Line: line}) {
		t.Errorf("ReadRow, %s: %v, not only %d %d", name, got, code, line)
	}
	if got, want := impl.Answer(text), fmt.Sprintf("wrong %d %d\n", code, line); got != want {
		t.Errorf("Answer, %s: %q, not %q", name, got, want)
	}
}

// P8, lines that are none

// wrongLine asks with a line that is none (without its newline), alone and among others.
func wrongLine(t *testing.T, line string) {
	t.Helper()
	const right, notRight = "open lamps 0123 end far 5\n", "open lamps 0123 next 77 far 5\n"
	name := fmt.Sprintf("%q", line)
	refused(t, name+" alone", line+"\n", 1, 1)
	refused(t, name+" behind right ones", right+right+line+"\n", 1, 3)
	refused(t, name+" ahead of a right one", line+"\n"+right, 1, 1)
	refused(t, name+" amid right ones", right+line+"\n"+right, 1, 2)
	refused(t, name+" ahead of another that is none", right+line+"\n"+"x\n"+right, 1, 2)
	refused(t, name+" behind another that is none", right+"x\n"+line+"\n", 1, 2)
	refused(t, name+" twice", line+"\n"+line+"\n", 1, 1)
	refused(t, name+" ahead of a line without newline", line+"\n"+"open", 1, 1)
	refused(t, name+" behind a line that makes no right row", notRight+line+"\n", 1, 2)
	refused(t, name+" behind 61 signals", strings.Repeat(right, 61)+line+"\n", 1, 62)
	if line != "" {
		refused(t, name+" without newline", line, 1, 1)
		refused(t, name+" without newline, behind right ones", right+right+line, 1, 3)
	}
}

func wrongLines(t *testing.T, lines ...string) {
	t.Helper()
	for _, line := range lines {
		wrongLine(t, line)
	}
}

func TestReadRowEmptyLines(t *testing.T) {
	const right = "open lamps 0123 end far 5\n"
	wrongLines(t, "")
	refused(t, "nothing but a newline", "\n", 1, 1)
	refused(t, "nothing but newlines", "\n\n\n", 1, 1)
	refused(t, "ahead", "\n"+right, 1, 1)
	refused(t, "amid", right+"\n"+right, 1, 2)
	refused(t, "at the end", right+right+"\n", 1, 3)
}

func TestReadRowWithoutNewline(t *testing.T) {
	const right = "open lamps 0123 end far 5\n"
	for _, c := range textCases() {
		if c.text != "" {
			refused(t, c.name, strings.TrimSuffix(c.text, "\n"), 1, len(c.row.Next))
		}
	}
	refused(t, "a right line, the only one", "open lamps 0123 end far 5", 1, 1)
	refused(t, "a right line, the second", right+"open lamps 0123 next 0 far 5", 1, 2)
	refused(t, "the 60th", strings.Repeat(right, 59)+"open lamps 0123 end far 5", 1, 60)
	refused(t, "the 61st", strings.Repeat(right, 60)+"open lamps 0123 end far 5", 1, 61)
	refused(t, "another line's end", right+"open lamps 0123 end far 5\r", 1, 2)
	refused(t, "one that makes no right row", "open lamps 0123 next 1 far 5", 1, 1)
	refused(t, "behind one that makes no right row", "open lamps 0123 next 5 far 5\nopen lamps 0123 end far 5", 1, 2)
	refused(t, "behind a line that is none", "x\nopen lamps 0123 end far 5", 1, 1)
	refused(t, "a blank behind the last newline", right+" ", 1, 2)
	refused(t, "a zero byte behind the last newline", right+"\x00", 1, 2)
}

func TestReadRowWordsOtherwise(t *testing.T) {
	wrongLines(t,
		"x", "open", "shut", "lamps", "-1",
		"Open lamps 0123 end far 5", "OPEN lamps 0123 end far 5", "opened lamps 0123 end far 5", "ope lamps 0123 end far 5", "true lamps 0123 end far 5",
		"Shut lamps 0123 end far 5", "shutt lamps 0123 end far 5", "closed lamps 0123 end far 5", "openshut lamps 0123 end far 5", "0 lamps 0123 end far 5",
		"open Lamps 0123 end far 5", "open lamp 0123 end far 5", "open lampss 0123 end far 5", "open lamps: 0123 end far 5",
		"open lamps 0123 End far 5", "open lamps 0123 ends far 5", "open lamps 0123 en far 5", "open lamps 0123 none far 5", "open lamps 0123 -1 far 5", "open lamps 0123 next end far 5",
		"open lamps 0123 Next 0 far 5", "open lamps 0123 nex 0 far 5", "open lamps 0123 nextt 0 far 5", "open lamps 0123 end 0 far 5",
		"open lamps 0123 end Far 5", "open lamps 0123 end fa 5", "open lamps 0123 end afar 5", "open lamps 0123 end far: 5", "open lamps 0123 end far five",
		"open lamps 0123 end far 5.", "open lamps 0123 end far 5;", "open lamps 0123 end far 5 x", "x open lamps 0123 end far 5", "open x lamps 0123 end far 5",
		"open lamps 0123 end far 5\x00", "\xffopen lamps 0123 end far 5", "\ufeffopen lamps 0123 end far 5", "öpen lamps 0123 end far 5",
	)
}

func TestReadRowWordsLeftOut(t *testing.T) {
	wrongLines(t,
		"lamps 0123 end far 5", "open 0123 end far 5", "open lamps end far 5", "open lamps 0123 far 5", "open lamps 0123 end 5", "open lamps 0123 end far",
		"lamps 0123 next 0 far 5", "open 0123 next 0 far 5", "open lamps next 0 far 5", "open lamps 0123 0 far 5", "open lamps 0123 next far 5", "open lamps 0123 next 0 5", "open lamps 0123 next 0 far",
		"open lamps", "open lamps 0123", "open lamps 0123 end", "open lamps 0123 next", "open lamps 0123 next 0", "0123 end far 5", "end far 5", "next 0 far 5", "far 5", "5",
	)
}

func TestReadRowWordsTwice(t *testing.T) {
	wrongLines(t,
		"open open lamps 0123 end far 5", "open shut lamps 0123 end far 5", "shut open lamps 0123 end far 5", "open lamps lamps 0123 end far 5", "open lamps 0123 0123 end far 5",
		"open lamps 0123 lamps 0123 end far 5", "open lamps 0123 end end far 5", "open lamps 0123 end far far 5", "open lamps 0123 end far 5 5", "open lamps 0123 end far 5 far 5",
		"open lamps 0123 next next 0 far 5", "open lamps 0123 next 0 0 far 5", "open lamps 0123 next 0 next 0 far 5", "open lamps 0123 next 0 end far 5", "open lamps 0123 end next 0 far 5",
		"open lamps 0123 end far 5 open lamps 0123 end far 5", "open lamps 0123 end far 5open lamps 0123 end far 5",
	)
}

func TestReadRowWordsInAnotherPlace(t *testing.T) {
	wrongLines(t,
		"lamps open 0123 end far 5", "lamps 0123 open end far 5", "lamps 0123 end far 5 open", "open 0123 lamps end far 5", "open end lamps 0123 far 5", "open lamps end 0123 far 5",
		"open lamps 0123 far 5 end", "open lamps 0123 far end 5", "open lamps 0123 end 5 far", "open far 5 lamps 0123 end", "far 5 open lamps 0123 end", "5 far end 0123 lamps open",
		"open lamps 0123 0 next far 5", "open lamps 0123 far 5 next 0", "open next 0 lamps 0123 far 5", "open lamps 0123 next far 0 5", "next 0 open lamps 0123 far 5",
	)
}

func TestReadRowBlanks(t *testing.T) {
	wrongLines(t,
		" ", "  ", "\t", "\r", "\u00a0",
		" open lamps 0123 end far 5", "open  lamps 0123 end far 5", "open lamps  0123 end far 5", "open lamps 0123  end far 5", "open lamps 0123 end  far 5", "open lamps 0123 end far  5", "open lamps 0123 end far 5 ", "open lamps 0123 end far 5  ",
		"openlamps 0123 end far 5", "open lamps0123 end far 5", "open lamps 0123end far 5", "open lamps 0123 endfar 5", "open lamps 0123 end far5", "openlamps0123endfar5",
		"open lamps 0123 next  0 far 5", "open lamps 0123 next 0  far 5", "open lamps 0123  next 0 far 5", "open lamps 0123 next0 far 5", "open lamps 0123 next 0far 5", "open lamps 0123next 0 far 5",
		"open\tlamps 0123 end far 5", "open lamps\t0123 end far 5", "open lamps 0123\tend far 5", "open lamps 0123 end\tfar 5", "open lamps 0123 end far\t5", "\topen lamps 0123 end far 5", "open lamps 0123 end far 5\t",
		"open lamps 0123 end far 5\r", "\ropen lamps 0123 end far 5", "open lamps 0123 end far 5\v", "open\u00a0lamps 0123 end far 5", "open_lamps_0123_end_far_5",
	)
	refused(t, "a line broken in two", "open lamps 0123\nend far 5\n", 1, 1)
	refused(t, "a line broken in two, behind a right one", "open lamps 0123 end far 5\nopen lamps 0123 end far\n5\n", 1, 2)
	refused(t, "two lines in one", "open lamps 0123 end far 5 \nopen lamps 0123 end far 5\n", 1, 1)
	refused(t, "newlines of another kind", "open lamps 0123 end far 5\r\nopen lamps 0123 end far 5\r\n", 1, 1)
	refused(t, "returns for newlines", "open lamps 0123 end far 5\ropen lamps 0123 end far 5\r", 1, 1)
}

func TestReadRowLamps(t *testing.T) {
	for _, lamps := range []string{
		"", "-", "0", "3", "01", "--", "012", "123", "013", "---", "01-", "01234", "-----", "0123-", "-0123", "00123", "01233", "01230123",
		"0132", "3210", "1023", "1234", "-012", "0-12", "01-2", "123-", "0-1-", "2---", "---0", "--3-",
		"0000", "1111", "3333", "0124", "9123", "x123", "012x", "0+23", "01.3", "_123", "01 3", "0 123", "0 1 2 3", "0,1,2,3", "01\t3", "+---", "----.", "tttt", "none", "lamps",
		"–––", "–123", "０123", "012３", "０１２３", "\x00\x01\x02\x03", "\xff123", "/123", "0/23", ".---",
	} {
		wrongLine(t, "open lamps "+lamps+" end far 5")
		wrongLine(t, "shut lamps "+lamps+" next 0 far 5")
	}
}

func TestReadRowNumbers(t *testing.T) {
	for _, number := range []string{
		"", "x", "00", "000", "01", "05", "007", "010", "0000005", "00000005", "000000005", "00000000", "000000000",
		"+5", "+0", "-0", "-1", "-5", "--5", "- 5", "5-", "5+", "-99999999",
		"100000000", "123456789", "999999999", "1000000000", "2147483648", "4294967296", "4294967301", "9223372036854775807", "9223372036854775808", "18446744073709551616", "18446744073709551621", "99999999999999999999999999",
		"5x", "x5", "0x5", "0b1", "0o7", "1_000", "1,000", "1.0", "5.", ".5", "1e3", "5f", "0-", "0 0", "1 000", " 5", "５", "٥", "5\u0301", "\x005", "5\x00", "/", ":", "5:", "5/", "''", "Inf", "NaN", "end", "next", "far",
	} {
		wrongLine(t, "open lamps 0123 end far "+number)
		wrongLine(t, "open lamps 0123 next "+number+" far 5")
		wrongLine(t, "shut lamps ---- next 0 far "+number)
		wrongLine(t, "open lamps 0123 next "+number+" far "+number)
	}
}

// P8, rows that are not right

func TestReadRowOfAWrongRow(t *testing.T) {
	const right, shutEnd = "open lamps 0123 end far 5\n", "shut lamps ---- end far 1000000\n"
	for _, next := range []string{"1", "2", "9", "10", "60", "61", "99", "1000000", "9999999", "10000000", "12345678", "99999999"} {
		refused(t, "Next "+next+" of one", "open lamps 0123 next "+next+" far 5\n", 3, 0)
		refused(t, "Next "+next+" of one that is shut", "shut lamps ---- next "+next+" far 0\n", 3, 0)
	}
	for _, far := range []string{"1000001", "1000010", "2000000", "9999999", "10000000", "12345678", "99999999"} {
		refused(t, "Far "+far, "open lamps 0123 end far "+far+"\n", 3, 0)
		refused(t, "Far "+far+" to a Next", "open lamps 0123 next 0 far "+far+"\n", 3, 0)
		refused(t, "Far "+far+", the third", right+right+"shut lamps ---- end far "+far+"\n", 3, 0)
	}
	refused(t, "Next 3 of three", right+"open lamps 0123 next 3 far 5\n"+right, 3, 0)
	refused(t, "Next 3 of three, the last", right+right+"open lamps 0123 next 3 far 5\n", 3, 0)
	refused(t, "Next 60 of 60", strings.Repeat(right, 59)+"open lamps 0123 next 60 far 5\n", 3, 0)
	refused(t, "61 signals", strings.Repeat(right, 61), 3, 0)
	refused(t, "61 signals that are shut and dark", strings.Repeat(shutEnd, 61), 3, 0)
	refused(t, "61 signals, Next 60", strings.Repeat("open lamps 0123 next 60 far 5\n", 61), 3, 0)
	refused(t, "62 signals", strings.Repeat(right, 62), 3, 0)
	refused(t, "384 signals", strings.Repeat(right, 384), 3, 0)
	refused(t, "a Next and a Far", "open lamps 0123 next 5 far 1000001\n", 3, 0)
}

func TestReadRowUpToTheLimits(t *testing.T) {
	sixty := "open lamps 0123 next 59 far 1000000\n"
	got := impl.ReadRow(strings.Repeat(sixty, 60))
	want := rowOf(slices.Repeat([]int{59}, 60)...)
	for signal := range want.Far {
		want.Far[signal] = 1000000
	}
	if !sameTold(got, impl.Told{Row: want}) {
		t.Errorf("60 signals with the greatest numbers: %v", got)
	}
}

// P8, texts that are too long

func TestReadRowLongTexts(t *testing.T) {
	const right = "open lamps 0123 end far 5\n" // 26 bytes
	body := strings.Repeat(right, 380)          // 9880 bytes
	longer := strings.Repeat("open lamps 0123 end far 55555\n", 3)
	type long struct {
		name       string
		text       string
		bytes      int
		code, line int
	}
	for _, c := range []long{
		{"lines of signals", body + longer + "open lamps 0123 end far 5555\n", 9999, 3, 0},
		{"lines of signals", body + longer + "open lamps 0123 end far 55555\n", 10000, 3, 0},
		{"lines of signals", body + longer + "open lamps 0123 end far 555555\n", 10001, 2, 0},
		{"one byte", strings.Repeat("x", 10000), 10000, 1, 1},
		{"one byte", strings.Repeat("x", 10001), 10001, 2, 0},
		{"newlines", strings.Repeat("\n", 10000), 10000, 1, 1},
		{"newlines", strings.Repeat("\n", 10001), 10001, 2, 0},
		{"zero bytes", strings.Repeat("\x00", 10001), 10001, 2, 0},
		{"digits", "open lamps 0123 end far " + strings.Repeat("5", 9975) + "\n", 10000, 1, 1},
		{"digits", "open lamps 0123 end far " + strings.Repeat("5", 9976) + "\n", 10001, 2, 0},
		{"blanks at the end", right + strings.Repeat(" ", 9974), 10000, 1, 2},
		{"blanks at the end", right + strings.Repeat(" ", 9975), 10001, 2, 0},
		{"no last newline", body + longer + "open lamps 0123 end far 555555", 10000, 1, 384},
		{"no last newline", body + longer + "open lamps 0123 end far 5555555", 10001, 2, 0},
		{"the last line empty", body + longer + "open lamps 0123 end far 5555\n\n", 10000, 1, 385},
		{"the last line empty", body + longer + "open lamps 0123 end far 55555\n\n", 10001, 2, 0},
		{"the first line empty", "\n" + body + longer + "open lamps 0123 end far 5555\n", 10000, 1, 1},
		{"the first line empty", "\n" + body + longer + "open lamps 0123 end far 55555\n", 10001, 2, 0},
		{"letters of two bytes", strings.Repeat("é", 5000), 10000, 1, 1},
		{"letters of two bytes", strings.Repeat("é", 5001), 10002, 2, 0},
		{"a row that is right, and much behind it", right + strings.Repeat("x", 20000), 20026, 2, 0},
		{"a thousand times 1000 signals", strings.Repeat(right, 1000000), 26000000, 2, 0},
	} {
		if len(c.text) != c.bytes {
			t.Errorf("%s: the test has %d bytes, not %d", c.name, len(c.text), c.bytes)
		}
		refused(t, fmt.Sprint(c.name, ", ", c.bytes, " bytes"), c.text, c.code, c.line)
	}
}

// P8, Answer

type answerCase struct {
	name string
	text string
	want string
}

func askAnswers(t *testing.T, cases []answerCase) {
	t.Helper()
	for _, c := range cases {
		if got := impl.Answer(c.text); got != c.want {
			t.Errorf("Answer, %s: %q, not %q", c.name, got, c.want)
		}
	}
}

func TestAnswerAsWanted(t *testing.T) {
	const last = "open lamps 0123 end far 5\n"
	askAnswers(t, []answerCase{
		{"no signals", "", ""},
		{"slow", last, "0 slow\n"},
		{"stop", "shut lamps 0123 end far 5\n", "0 stop\n"},
		{"near", last + "open lamps 0123 next 0 far 5\n", "0 slow\n1 near\n"},
		{"free", last + "open lamps 0123 next 0 far 5\nopen lamps 0123 next 1 far 5\n", "0 slow\n1 near\n2 free\n"},
		{"free in a ring", "open lamps 0123 next 0 far 5\n", "0 free\n"},
		{"lamps broken that are not wanted", "open lamps -1-- end far 5\nshut lamps 0--- next 0 far 5\n", "0 slow\n1 stop\n"},
	})
}

func TestAnswerOtherThanWanted(t *testing.T) {
	const last = "open lamps 0123 end far 5\n"
	const near = last + "open lamps 0123 next 0 far 5\n"
	askAnswers(t, []answerCase{
		{"dark for stop", "shut lamps -123 end far 5\n", "0 dark for stop\n"},
		{"dark for slow", "open lamps --23 end far 5\n", "0 dark for slow\n"},
		{"stop for slow", "open lamps 0-23 end far 5\n", "0 stop for slow\n"},
		{"dark for near", last + "open lamps ---3 next 0 far 5\n", "0 slow\n1 dark for near\n"},
		{"stop for near", last + "open lamps 0--3 next 0 far 5\n", "0 slow\n1 stop for near\n"},
		{"slow for near", last + "open lamps 01-3 next 0 far 5\n", "0 slow\n1 slow for near\n"},
		{"dark for free", near + "open lamps ---- next 1 far 5\n", "0 slow\n1 near\n2 dark for free\n"},
		{"stop for free", near + "open lamps 0--- next 1 far 5\n", "0 slow\n1 near\n2 stop for free\n"},
		{"slow for free", near + "open lamps 01-- next 1 far 5\n", "0 slow\n1 near\n2 slow for free\n"},
		{"near for free", near + "open lamps 012- next 1 far 5\n", "0 slow\n1 near\n2 near for free\n"},
		{"behind a dark one", "open lamps ---- end far 5\nopen lamps 0123 next 0 far 5\nopen lamps -123 next 0 far 5\n", "0 dark for slow\n1 stop\n2 dark for stop\n"},
		{"a ring without lamp 2", "open lamps 01-3 next 1 far 5\nopen lamps 01-3 next 0 far 5\n", "0 slow for near\n1 slow for near\n"},
		{"a ring without lamp 0", "open lamps -123 next 1 far 5\nopen lamps -123 next 0 far 5\n", "0 dark for stop\n1 dark for stop\n"},
		{"in the order of the numbers", "open lamps 0123 next 1 far 5\nopen lamps 01-3 next 2 far 5\nshut lamps 0123 end far 5\n", "0 near\n1 slow\n2 stop\n"},
	})
}

func TestAnswerOfSixty(t *testing.T) {
	var want strings.Builder
	for signal := range 60 {
		fmt.Fprintf(&want, "%d free\n", signal)
	}
	askAnswers(t, []answerCase{{"60 signals", sixtyText(), want.String()}})
}

func TestAnswerOfAWrongText(t *testing.T) {
	askAnswers(t, []answerCase{
		{"no line", "x", "wrong 1 1\n"},
		{"no newline", "open lamps 0123 end far 5", "wrong 1 1\n"},
		{"a wrong line behind a right one", "open lamps 0123 end far 5\n\n", "wrong 1 2\n"},
		{"a wrong line far behind", strings.Repeat("open lamps 0123 end far 5\n", 122) + "x\n", "wrong 1 123\n"},
		{"too long", strings.Repeat("x", 10001), "wrong 2 0\n"},
		{"a row that is not right", "open lamps 0123 next 1 far 5\n", "wrong 3 0\n"},
	})
}
