package many

import (
	"errors"
	"reflect"
	"runtime"
	"slices"
	"strconv"
	"strings"
	"testing"

	"signalcabin/api"
)

// wrong writes an error: its number, and its place, if it has one.
func wrong(err error) string {
	s := strconv.Itoa(int(api.Tell(err)))
	var at *api.At
	if errors.As(err, &at) {
		s += " at " + strconv.Itoa(at.Place)
	}
	return s
}

// inputs is a program of so many, and of a coil.
func inputs(many int) string {
	var b strings.Builder
	for k := range many {
		b.WriteString("input i" + strconv.Itoa(k) + "\n")
	}
	return b.String() + "coil m\n"
}

const (
	latch = "input a\ncoil m\nset m = a\n"
	timed = "input a\ntimer t 2\nrun t = a\n"
	// 8 to the 4 states: as many as may be.
	most = "input a\ncounter c 7\ncounter d 7\ncounter e 7\ncounter f 7\ncount c = a\ncount d = c\ncount e = d\ncount f = e\n"
)

func TestOne(t *testing.T) {
	for _, c := range []struct {
		program, holds string
		states         int
		path           []int // none: it holds
	}{
		{latch, "!a | m", 2, nil},
		{latch, "!m", 2, []int{1}},
		{latch, "m | !a & !m", 2, nil},
		{latch, "0", 2, []int{0}},
		{latch, " 1 ", 2, nil},
		{"  input   a \n\n coil m\nset m=a", "!a|m", 2, nil},
		{timed, "!t", 3, []int{1, 1}},
		{timed, "!t | a", 3, nil},
		{timed, "!~t", 3, []int{1, 1, 0}},
		{"", "1", 1, nil},
		{"", "0", 1, []int{0}},
		{"coil m\nm = !m\n", "m", 2, []int{0, 0}},
		{"input a\ninput b\ncoil m\nm = a & b\n", "!m", 2, []int{3}},
		{inputs(6), "!i5", 2, []int{32}},
		{inputs(6), "!m", 2, nil},
		{most, "!c", 4096, []int{1, 1, 1, 1, 1, 1, 1}},
		{most, "!d | c", 4096, nil},
	} {
		got := One(Task{c.program, c.holds})
		if got.Err != nil || got.States != c.states || got.Holds != (c.path == nil) || !slices.Equal(got.Path, c.path) {
			t.Errorf("%q, %q: %d, %t, %v, %s, not %d, %v", c.program, c.holds, got.States, got.Holds, got.Path, wrong(got.Err), c.states, c.path)
		}
	}
}

// Errors are as they are told, places too, one ahead of the other, and nothing stands beside them.
func TestOneIsWrong(t *testing.T) {
	tooMuch := strings.Replace(most, "input", "coil", 1)
	long := strings.Repeat(" ", api.MaxText+1)
	for _, c := range []struct{ program, holds, want string }{
		// The program's text.
		{"coil m\nm = (\n", "1", "3 at 12"},
		{"coil m\ncoil m\n", "1", "9 at 7"},
		{"coil m\nx\n", "1", "3 at 7"},
		{"timer t 8\n", "1", "2 at 0"},
		{"coil m\nm = a\n", "1", "7 at 7"},
		{long, "1", "4"},
		// What is to hold.
		{latch, "", "3 at 0"},
		{latch, "a &", "3 at 3"},
		{latch, "a | Bad", "5 at 4"},
		{latch, strings.Repeat("!", 20) + "a", "4 at 20"},
		{latch, strings.Repeat(" ", 2_001), "4"},
		// The machine.
		{inputs(7), "1", "4"},
		{tooMuch, "1", "4"},
		// Both together.
		{latch, "z", "7"},
		{latch, "m & ^t", "7"},
		{"", "a", "7"},
		// The program's text ahead of what is to hold, this ahead of the machine, the machine ahead of both.
		{"x\n", "a &", "3 at 0"},
		{"coil 1\n", "(", "5 at 0"},
		{"x\n", "", "3 at 0"},
		{long, "Bad", "4"},
		{inputs(7), "Bad", "5 at 0"},
		{tooMuch, ")", "3 at 0"},
		{inputs(7), "z", "4"},
		{tooMuch, "z", "4"},
	} {
		got := One(Task{c.program, c.holds})
		if got.Err == nil || wrong(got.Err) != c.want {
			t.Errorf("%.80q, %.40q: %s, not %s", c.program, c.holds, wrong(got.Err), c.want)
		}
		if got.States != 0 || got.Holds || got.Path != nil {
			t.Errorf("%.80q, %.40q: beside an error: %d, %t, %v", c.program, c.holds, got.States, got.Holds, got.Path)
		}
	}
}

func TestOneOfTheLongestTexts(t *testing.T) {
	program := latch + strings.Repeat(" ", api.MaxText-len(latch))
	holds := strings.Repeat(" ", 1_998) + "!m"
	if got := One(Task{program, holds}); got.Err != nil || got.States != 2 || got.Holds || !slices.Equal(got.Path, []int{1}) {
		t.Errorf("%d, %t, %v, %s", got.States, got.Holds, got.Path, wrong(got.Err))
	}
}

// some are so many tasks, unlike from one to the next: of the k-th the answer has k % 7 + 2 states, or is an error.
func some(many int) []Task {
	var l []Task
	for k := range many {
		count := strconv.Itoa(k%7 + 1)
		p := "input a\ncounter c " + count + "\ncount c = a\n"
		switch k % 5 {
		case 0:
			l = append(l, Task{p, "!c"})
		case 1:
			l = append(l, Task{p, "c | !c"})
		case 2:
			l = append(l, Task{p, "c & "})
		case 3:
			l = append(l, Task{p[:len(p)-k%7-1], "!c | a"})
		case 4:
			l = append(l, Task{p + "zero c = !a\n", "!c & !q" + count})
		}
	}
	return l
}

// sameAnswers holds errors against each other by what they tell.
func sameAnswers(a, b []Answer) bool {
	return slices.EqualFunc(a, b, func(x, y Answer) bool {
		return x.States == y.States && x.Holds == y.Holds && slices.Equal(x.Path, y.Path) && (x.Err == nil) == (y.Err == nil) && wrong(x.Err) == wrong(y.Err)
	})
}

func TestAll(t *testing.T) {
	l := []Task{{latch, "!m"}, {latch, "!a | m"}, {"x", "1"}, {timed, "!t"}, {latch, "z"}}
	for workers := 1; workers <= 16; workers++ {
		got, err := All(l, workers)
		if err != nil || len(got) != 5 {
			t.Fatalf("%d workers: %d answers, %s", workers, len(got), wrong(err))
		}
		want := []Answer{{States: 2, Path: []int{1}}, {States: 2, Holds: true}, {Err: &api.At{Err: api.ErrForm}}, {States: 3, Path: []int{1, 1}}, {Err: api.ErrMissing}}
		if !sameAnswers(got, want) {
			t.Errorf("%d workers: %v", workers, got)
		}
	}
}

// However many workers there are: the same, and One of each, in order.
func TestAllWhateverTheWorkers(t *testing.T) {
	for _, many := range []int{0, 1, 2, 3, 15, 16, 17, 33, 50} {
		l := some(many)
		var want []Answer
		for _, task := range l {
			want = append(want, One(task))
		}
		for workers := 1; workers <= 16; workers++ {
			got, err := All(l, workers)
			if err != nil || !sameAnswers(got, want) {
				t.Errorf("%d tasks, %d workers: %v, %s, not %v", many, workers, got, wrong(err), want)
			}
		}
	}
	// Long ones stand ahead of short ones, so that these are done sooner.
	l := append(slices.Repeat([]Task{{most, "!f"}}, 3), some(20)...)
	want, err := All(l, 1)
	if err != nil || len(want) != 23 || want[0].States != 4096 || len(want[0].Path) < 8 {
		t.Fatalf("%d answers, %s", len(want), wrong(err))
	}
	for range 5 {
		if got, err := All(l, 8); err != nil || !sameAnswers(got, want) {
			t.Errorf("%v, %s", got, wrong(err))
		}
	}
}

func TestAllIsTooMuch(t *testing.T) {
	for _, c := range []struct{ tasks, workers int }{
		{51, 1}, {51, 16}, {1000, 4}, {51, 0}, {0, 0}, {0, 17}, {0, -1}, {1, 0}, {1, 17}, {5, -3}, {50, 17}, {3, 1 << 40}, {3, -1 << 63},
	} {
		if l, err := All(some(c.tasks), c.workers); err != error(api.ErrLimit) || l != nil {
			t.Errorf("%d tasks, %d workers: %v, %s", c.tasks, c.workers, l, wrong(err))
		}
	}
	for _, c := range []struct{ tasks, workers int }{{0, 1}, {0, 16}, {1, 16}, {50, 1}, {50, 16}} {
		if l, err := All(some(c.tasks), c.workers); err != nil || len(l) != c.tasks {
			t.Errorf("%d tasks, %d workers: %d, %s", c.tasks, c.workers, len(l), wrong(err))
		}
	}
	if l, err := All(nil, 3); err != nil || len(l) != 0 {
		t.Errorf("no tasks: %v, %s", l, wrong(err))
	}
}

// Nothing is wrong with All, though something is with each task.
func TestAllOfWrongTasks(t *testing.T) {
	l, err := All(slices.Repeat([]Task{{"x", "y"}, {"", ""}}, 25), 7)
	if err != nil || len(l) != 50 {
		t.Fatalf("%d, %s", len(l), wrong(err))
	}
	for k, a := range l {
		if wrong(a.Err) != "3 at 0" || a.States != 0 || a.Holds || a.Path != nil {
			t.Errorf("%d: %v, %s", k, a, wrong(a.Err))
		}
	}
}

// All workers have ended when All answers.
func TestAllLeavesNobodyBehind(t *testing.T) {
	before := runtime.NumGoroutine()
	for _, tasks := range []int{0, 1, 20, 51} {
		for _, workers := range []int{0, 1, 16, 17} {
			for range 10 {
				All(some(tasks), workers)
			}
		}
	}
	// A goroutine is counted for a moment after it has said that it is done.
	for range 1000 {
		if runtime.NumGoroutine() <= before {
			return
		}
		runtime.Gosched()
	}
	t.Errorf("%d goroutines, not %d", runtime.NumGoroutine(), before)
}

// What was handed out, and written into, is not told again; the tasks stay as they are, and what is behind them.
func TestAnswersAreTheCallers(t *testing.T) {
	whole := append(slices.Repeat([]Task{{timed, "!t"}}, 6), Task{"behind", "it"})
	before := slices.Clone(whole)
	for range 3 {
		l, err := All(whole[:6], 4)
		if err != nil || len(l) != 6 {
			t.Fatalf("%d, %s", len(l), wrong(err))
		}
		for k, a := range l {
			if !reflect.DeepEqual(a.Path, []int{1, 1}) || a.States != 3 || a.Holds {
				t.Errorf("%d: %v", k, a)
			}
			a.Path[0], a.Path[1] = 8, 9
			_ = append(a.Path, 7)
		}
		l[0] = Answer{}
	}
	if !slices.Equal(whole, before) {
		t.Errorf("the tasks are %v now", whole)
	}
	one := One(whole[0])
	one.Path[0] = 5
	if again := One(whole[0]); !slices.Equal(again.Path, []int{1, 1}) {
		t.Errorf("%v", again.Path)
	}
}

func TestNeverPanics(t *testing.T) {
	texts := []string{"", "\n", "\x00", "=", "= 1", "m =", "\xff\xfe", "input", "timer t", "timer t -9223372036854775808", strings.Repeat("(", 5_000), "coil m\nm = " + strings.Repeat("!", 1_900) + "m", strings.Repeat("\n", api.MaxText), strings.Repeat("coil m\n", 2_000)}
	for _, p := range texts {
		for _, e := range texts {
			One(Task{p, e})
		}
	}
}
