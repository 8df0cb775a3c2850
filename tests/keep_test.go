package tests

import (
	"fmt"
	"maps"
	"reflect"
	"slices"
	"strings"
	"testing"

	"loop.example/aspect/impl"
)

// P9, of every function of all chapters

// question is a function with all of its arguments but the row or the text.
type question[A any] struct {
	name string
	ask  func(A) any
}

// rowQuestions is every function that is asked with a row, with each signal and lamp of a row of this many signals and with some that it has not.
func rowQuestions(count int) []question[impl.Row] {
	all := []question[impl.Row]{
		{"RowOk", func(r impl.Row) any { return impl.RowOk(r) }},
		{"Wants", func(r impl.Row) any { return impl.Wants(r) }},
		{"Shows", func(r impl.Row) any { return impl.Shows(r) }},
		{"WriteRow", func(r impl.Row) any { return impl.WriteRow(r) }},
	}
	for signal := -1; signal <= count; signal++ {
		at := fmt.Sprint(" ", signal)
		all = append(all,
			question[impl.Row]{"Behind" + at, func(r impl.Row) any { return impl.Behind(r, signal) }},
			question[impl.Row]{"Chain" + at, func(r impl.Row) any { return impl.Chain(r, signal) }},
			question[impl.Row]{"Closing" + at, func(r impl.Row) any { return impl.Closing(r, signal) }},
			question[impl.Row]{"Room" + at, func(r impl.Row) any { return impl.Room(r, signal) }},
			question[impl.Row]{"Stop" + at, func(r impl.Row) any { return impl.Stop(r, signal) }},
			question[impl.Row]{"Speed" + at, func(r impl.Row) any { return impl.Speed(r, signal, 10, 1) }},
			question[impl.Row]{"Speed, wrong," + at, func(r impl.Row) any { return impl.Speed(r, signal, 9, 1) }},
		)
		for lamp := -1; lamp <= 4; lamp++ {
			all = append(all, question[impl.Row]{fmt.Sprint("Breaking", at, " ", lamp), func(r impl.Row) any { return impl.Breaking(r, signal, lamp) }})
		}
	}
	return all
}

var textQuestions = []question[string]{
	{"ReadRow", func(text string) any { return impl.ReadRow(text) }},
	{"Answer", func(text string) any { return impl.Answer(text) }},
}

func keptRows() map[string]impl.Row {
	rows := showRows()
	rows["no signals"] = impl.Row{}
	rows["every set of lamps"] = lampRow()
	rows["60 in a line"] = lineOf(60)
	rows["61 in a line"] = lineOf(61)
	for _, w := range wrongRows {
		rows[w.name] = changed(w.change)
	}
	return rows
}

func keptTexts() map[string]string {
	texts := map[string]string{
		"too long":                strings.Repeat("x", 10001),
		"a wrong line":            threeLines + "x\n",
		"no newline":              threeLines + "open",
		"a row that is not right": strings.Repeat(threeLines, 21),
	}
	for name, r := range keptRows() {
		texts[name] = impl.WriteRow(r)
	}
	return texts
}

// span is a piece of memory that a list has.
type span struct{ from, to uintptr }

// spansOf is the memory of each list in a value, up to what it could hold.
func spansOf(v reflect.Value) []span {
	var spans []span
	switch v.Kind() {
	case reflect.Slice:
		if size := uintptr(v.Cap()) * v.Type().Elem().Size(); size > 0 {
			spans = append(spans, span{v.Pointer(), v.Pointer() + size})
		}
		for i := range v.Len() {
			spans = append(spans, spansOf(v.Index(i))...)
		}
	case reflect.Struct:
		for i := range v.NumField() {
			spans = append(spans, spansOf(v.Field(i))...)
		}
	}
	return spans
}

func shareNone(t *testing.T, what string, values ...any) {
	t.Helper()
	var spans []span
	for _, v := range values {
		spans = append(spans, spansOf(reflect.ValueOf(v))...)
	}
	slices.SortFunc(spans, func(a, b span) int { return int(int64(a.from) - int64(b.from)) })
	for i := 1; i < len(spans); i++ {
		if spans[i].from < spans[i-1].to {
			t.Errorf("%s: two lists share memory", what)
		}
	}
}

// spoil writes into every list of an answer, up to what it could hold.
func spoil(v reflect.Value) {
	switch v.Kind() {
	case reflect.Slice:
		for i := range v.Len() {
			spoil(v.Index(i))
		}
		whole := v.Slice(0, v.Cap())
		for i := range whole.Len() {
			spoilOne(whole.Index(i))
		}
	case reflect.Struct:
		for i := range v.NumField() {
			spoil(v.Field(i))
		}
	}
}

func spoilOne(v reflect.Value) {
	switch v.Kind() {
	case reflect.Int:
		v.SetInt(-99)
	case reflect.Bool:
		v.SetBool(!v.Bool())
	case reflect.Struct:
		for i := range v.NumField() {
			spoilOne(v.Field(i))
		}
	case reflect.Slice:
		v.SetZero()
	}
}

// told is an answer as a text of its own: an empty list and nil are the same.
func told(answer any) string { return fmt.Sprintf("%+v", answer) }

func TestSpansAndSpoil(t *testing.T) {
	r := roomy(lineOf(2))
	if got := len(spansOf(reflect.ValueOf(r))); got != 6 {
		t.Errorf("%d lists in a row of two, not 6", got)
	}
	first := told(r)
	spoil(reflect.ValueOf(r))
	if told(r) == first || toCap(r.Next)[4] != -99 {
		t.Error("nothing is spoilt")
	}
}

func TestNoArgumentIsWrittenInto(t *testing.T) {
	for name, r := range keptRows() {
		for _, q := range rowQuestions(min(len(r.Next), 8)) {
			keepsRow(t, q.name+", "+name, r, func(r impl.Row) { q.ask(r) })
		}
	}
	for name, text := range keptTexts() {
		for _, q := range textQuestions {
			given := strings.Clone(text)
			q.ask(given)
			if given != text {
				t.Errorf("%s, %s: the text is another one", q.name, name)
			}
		}
	}
}

func TestAnswersShareNothing(t *testing.T) {
	for name, r := range keptRows() {
		for _, q := range rowQuestions(min(len(r.Next), 8)) {
			given := roomy(r)
			first, second := q.ask(given), q.ask(given)
			shareNone(t, q.name+", "+name, given, first, second)
			asTold := told(first)
			spoil(reflect.ValueOf(first))
			if told(second) != asTold || told(q.ask(given)) != asTold || told(q.ask(copyOf(r))) != asTold {
				t.Errorf("%s, %s: what is done to an answer changes another", q.name, name)
			}
		}
	}
	for name, text := range keptTexts() {
		for _, q := range textQuestions {
			first, second := q.ask(text), q.ask(text)
			shareNone(t, q.name+", "+name, first, second)
			asTold := told(first)
			spoil(reflect.ValueOf(first))
			if told(second) != asTold || told(q.ask(text)) != asTold || told(q.ask(strings.Clone(text))) != asTold {
				t.Errorf("%s, %s: what is done to an answer changes another", q.name, name)
			}
		}
	}
}

// answersOf asks everything, in this order of the names, and tells each answer by what was asked.
func answersOf(names []string, rows map[string]impl.Row, texts map[string]string) map[string]string {
	answers := map[string]string{}
	for _, name := range names {
		if r, ok := rows[name]; ok {
			for _, q := range rowQuestions(min(len(r.Next), 8)) {
				answers[q.name+", row, "+name] = told(q.ask(r))
			}
		}
		if text, ok := texts[name]; ok {
			for _, q := range textQuestions {
				answers[q.name+", text, "+name] = told(q.ask(text))
			}
		}
	}
	return answers
}

// Whatever is asked in between, and wherever the argument lies, it has the same answer.
func TestSameArgumentsHaveTheSameAnswers(t *testing.T) {
	rows, texts := keptRows(), keptTexts()
	names := slices.Sorted(maps.Keys(texts))
	want := answersOf(names, rows, texts)
	elsewhere := map[string]impl.Row{}
	for name, r := range rows {
		elsewhere[name] = roomy(r)
	}
	for range 10 {
		slices.Reverse(names)
		for _, again := range []map[string]string{answersOf(names, rows, texts), answersOf(names, elsewhere, texts)} {
			for what, answer := range again {
				if answer != want[what] {
					t.Errorf("%s: %s, but once %s", what, answer, want[what])
				}
			}
		}
	}
}
