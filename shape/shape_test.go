package shape

import (
	"fmt"
	"iter"
	"math"
	"math/rand/v2"
	"reflect"
	"slices"
	"sync"
	"testing"

	"domino/api"
	"domino/chain"
	"domino/merge"
	"domino/pipe"
	"domino/record"
	"domino/spec"
)

// public are the public numbers of a job.
func public(records, k, block, workers int) api.Params {
	return api.Params{Records: records, K: k, Block: block, Workers: workers}
}

// spot is one.
func spot(phase, round, addr int) api.Spot {
	return api.Spot{Phase: phase, Round: round, Addr: addr}
}

// mayBe tells whether there is a job of p, by chapter 12's words, block by block.
func mayBe(p api.Params) bool {
	for _, bound := range [][2]int{{p.Records, 64}, {p.K, 4}, {p.Block, 8}, {p.Workers, 4}} {
		if bound[0] < 1 || bound[0] > bound[1] {
			return false
		}
	}
	input, _ := counted(p)
	return p.K*input < 32
}

// counted is how many blocks the input has, and how many all are, counted up one
// by one.
func counted(p api.Params) (input, all int) {
	for input*p.Block < p.Records {
		input++
	}
	for all = 1; all < p.K*input+1; {
		all += all
	}
	return input, all
}

// roundsOf is how many rounds a network of so many blocks has, counted up one by
// one.
func roundsOf(all int) int {
	n := 0
	for size := 2; size <= all; size *= 2 {
		for apart := size / 2; apart >= 1; apart /= 2 {
			n++
		}
	}
	return n
}

// allPublic are the public numbers of all jobs that may be, with so many workers.
func allPublic(workers int) []api.Params {
	var all []api.Params
	for records := 1; records <= api.MaxRecords; records++ {
		for k := 1; k <= api.MaxK; k++ {
			for block := 1; block <= api.MaxBlock; block++ {
				if p := public(records, k, block, workers); mayBe(p) {
					all = append(all, p)
				}
			}
		}
	}
	return all
}

// unlike are public numbers of jobs that may be, one of each K and each number of
// the input's blocks.
func unlike() []api.Params {
	var l []api.Params
	for k := 1; k <= api.MaxK; k++ {
		for input := 1; k*input < api.MaxBlocks; input++ {
			l = append(l, public(input, k, 1, 1))
		}
	}
	return l
}

// few are some of them: with few blocks, and with as many as may be.
func few() []api.Params {
	return []api.Params{public(1, 1, 1, 1), public(3, 1, 2, 2), public(3, 2, 2, 1), public(1, 4, 1, 4), public(20, 3, 4, 3), public(7, 4, 1, 1), public(62, 1, 2, 2)}
}

// far are numbers far from all that may be.
func far() []int {
	return []int{math.MinInt, math.MinInt + 1, math.MinInt32, -1 << 32, -1000, 1000, math.MaxInt32, 1 << 32, 1<<32 + 1, math.MaxInt - 1, math.MaxInt}
}

// ofEach does something for each of l, some of them at once.
func ofEach(l []api.Params, do func(p api.Params)) {
	const at = 8
	var doing sync.WaitGroup
	for first := range at {
		doing.Go(func() {
			for i := first; i < len(l); i += at {
				do(l[i])
			}
		})
	}
	doing.Wait()
}

// duty is a task with the spots that it reads, and writes.
type duty struct {
	task          api.Task
	reads, writes []api.Spot
}

// duties are all tasks of a job, in order, and the spots where its blocks stand
// behind them.
type duties struct {
	all   []duty
	stand []api.Spot
}

// words are the duties of a job, the chapter's words done a second way: where each
// block stands is kept in mind while one task after the other moves it on.
func words(p api.Params) duties {
	input, all := counted(p)
	w := duties{stand: make([]api.Spot, all)}
	for a := range input {
		made := w.put(api.PhaseMap, 0, p.K*a)
		for i := 1; i < p.K; i++ {
			made = append(made, w.put(api.PhaseMap, 0, p.K*a+i)...)
		}
		w.all = append(w.all, duty{api.Task{Kind: api.TaskMap, A: a}, []api.Spot{spot(api.PhaseInput, 0, a)}, made})
	}
	for a := input * p.K; a < all; a++ {
		w.all = append(w.all, duty{api.Task{Kind: api.TaskPad, A: a}, nil, w.put(api.PhaseMap, 0, a)})
	}
	w.network(api.TaskSort, api.PhaseSort)
	var carry []api.Spot
	for a := range all {
		read := append([]api.Spot{w.stand[a]}, carry...)
		carry = []api.Spot{spot(api.PhaseCarry, 0, a)}
		w.all = append(w.all, duty{api.Task{Kind: api.TaskFold, A: a}, read, append(w.put(api.PhaseFold, 0, a), carry...)})
	}
	w.network(api.TaskLast, api.PhaseLast)
	return w
}

// put is the spot where the block addr stands from now on.
func (w *duties) put(phase, round, addr int) []api.Spot {
	w.stand[addr] = spot(phase, round, addr)
	return []api.Spot{w.stand[addr]}
}

// network are the tasks of all rounds.
func (w *duties) network(kind, phase int) {
	round := 0
	for size := 2; size <= len(w.stand); size *= 2 {
		for apart := size / 2; apart >= 1; apart /= 2 {
			round++
			for a := range w.stand {
				b := a ^ apart
				if b < a {
					continue
				}
				read := []api.Spot{w.stand[a], w.stand[b]}
				made := append(w.put(phase, round, a), w.put(phase, round, b)...)
				w.all = append(w.all, duty{api.Task{Kind: kind, Round: round, A: a, B: b, Up: a&size == 0}, read, made})
			}
		}
	}
}

// tasks are those of all duties.
func (w *duties) tasks() []api.Task {
	l := []api.Task{}
	for _, d := range w.all {
		l = append(l, d.task)
	}
	return l
}

// makers are the tasks that write each spot.
func (w *duties) makers() map[api.Spot]int {
	m := map[api.Spot]int{}
	for n, d := range w.all {
		for _, s := range d.writes {
			m[s] = n
		}
	}
	return m
}

// needs are the tasks that make what the task n reads, each once (a map may make
// both blocks of a pair).
func (w *duties) needs(makers map[api.Spot]int, n int) []int {
	var l []int
	for _, s := range w.all[n].reads {
		if maker, made := makers[s]; made && !slices.Contains(l, maker) {
			l = append(l, maker)
		}
	}
	return l
}

// collect are the tasks of a sequence, which are to be numbered from 0 on.
func collect(t *testing.T, what string, tasks iter.Seq2[int, api.Task]) []api.Task {
	t.Helper()
	l := []api.Task{}
	for n, x := range tasks {
		if n != len(l) {
			t.Errorf("P17.1: %s: the task %d is numbered %d", what, len(l), n)
		}
		l = append(l, x)
	}
	return l
}

// holds asks all calls of a job but Ready, and holds them against w.
func holds(t *testing.T, p api.Params, w duties) {
	t.Helper()
	what := fmt.Sprintf("%+v", p)
	if got := Count(p); got != len(w.all) {
		t.Errorf("P17.1: %s: Count: %d, not %d", what, got, len(w.all))
	}
	if got := collect(t, what, Tasks(p)); !slices.Equal(got, w.tasks()) {
		t.Errorf("P17.1: %s: Tasks: %+v", what, got)
	}
	if got := Last(p); !slices.Equal(got, w.stand) {
		t.Errorf("P17.1: %s: Last: %+v", what, got)
	}
	for n, d := range w.all {
		if got, is := Task(p, n); !is || got != d.task {
			t.Errorf("P17.1: %s: Task %d: %+v, %t, not %+v", what, n, got, is, d.task)
		}
		if got := Reads(p, n); !slices.Equal(got, d.reads) {
			t.Errorf("P17.1: %s: Reads of %d: %+v, not %+v", what, n, got, d.reads)
		}
		if got := Writes(p, n); !slices.Equal(got, d.writes) {
			t.Errorf("P17.1: %s: Writes of %d: %+v, not %+v", what, n, got, d.writes)
		}
		for _, s := range d.writes {
			if got := Makes(p, s); got != n {
				t.Errorf("P17.1: %s: Makes of %+v: %d, not %d", what, s, got, n)
			}
		}
	}
}

// ready asks Ready.
func ready(t *testing.T, p api.Params, done []bool, n int, want bool) {
	t.Helper()
	if got := Ready(p, done, n); got != want {
		t.Errorf("P17.1: %+v: Ready of %d, with %d done: %t", p, n, len(done), got)
	}
}

// lacks asks all calls for a task of p that there is not.
func lacks(t *testing.T, p api.Params, n int) {
	t.Helper()
	if x, is := Task(p, n); is || x != (api.Task{}) {
		t.Errorf("P17.1, R4: %+v: Task %d: %+v, %t", p, n, x, is)
	}
	if reads, writes := Reads(p, n), Writes(p, n); len(reads) != 0 || len(writes) != 0 {
		t.Errorf("P17.1: %+v: the task %d reads %+v and writes %+v", p, n, reads, writes)
	}
	for _, done := range [][]bool{nil, {}, {true}, slices.Repeat([]bool{true}, 1200), make([]bool, 1200)} {
		ready(t, p, done, n, false)
	}
}

// TestExample: the chapter's own one.
func TestExample(t *testing.T) {
	holds(t, public(1, 1, 1, 1), duties{
		all: []duty{
			{api.Task{Kind: 1}, []api.Spot{{Phase: 0}}, []api.Spot{{Phase: 1}}},
			{api.Task{Kind: 2, A: 1}, nil, []api.Spot{{Phase: 1, Addr: 1}}},
			{api.Task{Kind: 3, Round: 1, B: 1, Up: true}, []api.Spot{{Phase: 1}, {Phase: 1, Addr: 1}}, []api.Spot{{Phase: 2, Round: 1}, {Phase: 2, Round: 1, Addr: 1}}},
			{api.Task{Kind: 4}, []api.Spot{{Phase: 2, Round: 1}}, []api.Spot{{Phase: 3}, {Phase: 4}}},
			{api.Task{Kind: 4, A: 1}, []api.Spot{{Phase: 2, Round: 1, Addr: 1}, {Phase: 4}}, []api.Spot{{Phase: 3, Addr: 1}, {Phase: 4, Addr: 1}}},
			{api.Task{Kind: 5, Round: 1, B: 1, Up: true}, []api.Spot{{Phase: 3}, {Phase: 3, Addr: 1}}, []api.Spot{{Phase: 5, Round: 1}, {Phase: 5, Round: 1, Addr: 1}}},
		},
		stand: []api.Spot{{Phase: 5, Round: 1}, {Phase: 5, Round: 1, Addr: 1}},
	})
}

// writtenOut is the job of four blocks, three of which two of the input make, or
// two of which: all but how it begins.
func writtenOut(begin ...duty) duties {
	pairs := func(kind, from, to int) []duty {
		var l []duty
		for i, x := range []api.Task{{Round: 1, A: 0, B: 1, Up: true}, {Round: 1, A: 2, B: 3}, {Round: 2, A: 0, B: 2, Up: true}, {Round: 2, A: 1, B: 3, Up: true}, {Round: 3, A: 0, B: 1, Up: true}, {Round: 3, A: 2, B: 3, Up: true}} {
			x.Kind = kind
			read := []api.Spot{spot(to, x.Round-1, x.A), spot(to, x.Round-1, x.B)}
			if i < 2 {
				read = []api.Spot{spot(from, 0, x.A), spot(from, 0, x.B)}
			}
			l = append(l, duty{x, read, []api.Spot{spot(to, x.Round, x.A), spot(to, x.Round, x.B)}})
		}
		return l
	}
	folds := []duty{
		{api.Task{Kind: 4}, []api.Spot{spot(2, 3, 0)}, []api.Spot{spot(3, 0, 0), spot(4, 0, 0)}},
		{api.Task{Kind: 4, A: 1}, []api.Spot{spot(2, 3, 1), spot(4, 0, 0)}, []api.Spot{spot(3, 0, 1), spot(4, 0, 1)}},
		{api.Task{Kind: 4, A: 2}, []api.Spot{spot(2, 3, 2), spot(4, 0, 1)}, []api.Spot{spot(3, 0, 2), spot(4, 0, 2)}},
		{api.Task{Kind: 4, A: 3}, []api.Spot{spot(2, 3, 3), spot(4, 0, 2)}, []api.Spot{spot(3, 0, 3), spot(4, 0, 3)}},
	}
	return duties{
		all:   slices.Concat(begin, pairs(3, 1, 2), folds, pairs(5, 3, 5)),
		stand: []api.Spot{spot(5, 3, 0), spot(5, 3, 1), spot(5, 3, 2), spot(5, 3, 3)},
	}
}

// TestWrittenOut: jobs of four blocks, task by task.
func TestWrittenOut(t *testing.T) {
	maps := func(a int, to ...int) duty {
		d := duty{api.Task{Kind: 1, A: a}, []api.Spot{spot(0, 0, a)}, nil}
		for _, addr := range to {
			d.writes = append(d.writes, spot(1, 0, addr))
		}
		return d
	}
	pads := func(a int) duty { return duty{api.Task{Kind: 2, A: a}, nil, []api.Spot{spot(1, 0, a)}} }
	two := writtenOut(maps(0, 0), maps(1, 1), pads(2), pads(3))
	holds(t, public(2, 1, 1, 1), two)
	holds(t, public(3, 1, 2, 2), two)
	holds(t, public(16, 1, 8, 4), two)
	holds(t, public(1, 2, 1, 1), writtenOut(maps(0, 0, 1), pads(2), pads(3)))
	holds(t, public(8, 3, 8, 1), writtenOut(maps(0, 0, 1, 2), pads(3)))
	holds(t, public(21, 1, 7, 3), writtenOut(maps(0, 0), maps(1, 1), maps(2, 2), pads(3)))
}

// TestCountsWrittenOut: how many tasks some jobs have, and where each kind begins.
func TestCountsWrittenOut(t *testing.T) {
	for p, want := range map[api.Params][6]int{
		public(1, 1, 1, 1):  {0, 1, 2, 3, 5, 6},
		public(3, 2, 2, 1):  {0, 2, 6, 30, 38, 62},
		public(1, 4, 1, 1):  {0, 1, 5, 29, 37, 61},
		public(8, 1, 1, 1):  {0, 8, 16, 96, 112, 192},
		public(7, 1, 1, 1):  {0, 7, 8, 32, 40, 64},
		public(31, 1, 1, 1): {0, 31, 32, 272, 304, 544},
		public(10, 3, 1, 1): {0, 10, 12, 252, 284, 524},
		public(7, 4, 1, 1):  {0, 7, 11, 251, 283, 523},
		public(64, 3, 8, 4): {0, 8, 16, 256, 288, 528},
	} {
		for i, kind := range []int{api.TaskMap, api.TaskPad, api.TaskSort, api.TaskFold, api.TaskLast} {
			for _, n := range []int{want[i], want[i+1] - 1} {
				if x, _ := Task(p, n); x.Kind != kind {
					t.Errorf("P17.1: %+v: the task %d is of the kind %d, not %d", p, n, x.Kind, kind)
				}
			}
		}
		if Count(p) != want[5] {
			t.Errorf("P17.1: %+v: Count: %d, not %d", p, Count(p), want[5])
		}
		lacks(t, p, want[5])
	}
}

// TestAll: all jobs that may be, by the chapter's words done a second way.
func TestAll(t *testing.T) {
	for workers := 1; workers <= api.MaxWorkers; workers++ {
		ofEach(allPublic(workers), func(p api.Params) {
			w := words(p)
			holds(t, p, w)
			lacks(t, p, -1)
			lacks(t, p, len(w.all))
		})
	}
}

// TestAllReady: Ready of each task of all jobs that may be, with nothing done, all
// done, and just what it needs.
func TestAllReady(t *testing.T) {
	for workers := 1; workers <= api.MaxWorkers; workers++ {
		ofEach(allPublic(workers), func(p api.Params) {
			w := words(p)
			makers := w.makers()
			// Of the jobs that differ in workers alone one is asked for every task.
			for n := workers - 1; n < len(w.all); n += workers * workers {
				needs := w.needs(makers, n)
				done := make([]bool, len(w.all))
				ready(t, p, done, n, len(needs) == 0)
				for _, need := range needs {
					done[need] = true
				}
				ready(t, p, done, n, true)
			}
		})
	}
}

// TestLimits: no job has more blocks or tasks than the document says (and one has
// as many blocks).
func TestLimits(t *testing.T) {
	greatest := 0
	for _, p := range allPublic(1) {
		greatest = max(greatest, len(Last(p)))
		if Count(p) > api.MaxTasks {
			t.Errorf("Limits: %+v: %d tasks", p, Count(p))
		}
	}
	if greatest != api.MaxBlocks {
		t.Errorf("Limits: %d blocks at most", greatest)
	}
}

// refused asks all calls of public numbers that may not be.
func refused(t *testing.T, p api.Params) {
	t.Helper()
	if got := Count(p); got != 0 {
		t.Errorf("P17.1: %+v: Count: %d", p, got)
	}
	for n, x := range Tasks(p) {
		t.Errorf("P17.1: %+v: a task %d: %+v", p, n, x)
	}
	if got := Last(p); len(got) != 0 {
		t.Errorf("P17.1: %+v: Last: %+v", p, got)
	}
	for _, n := range []int{-1, 0, 1, 2, 5, 61} {
		lacks(t, p, n)
	}
	for phase := -1; phase <= api.PhaseLast+1; phase++ {
		for round := range 3 {
			for addr := -1; addr < 5; addr++ {
				if got := Makes(p, spot(phase, round, addr)); got != -1 {
					t.Errorf("P17.1: %+v: Makes of %+v: %d", p, spot(phase, round, addr), got)
				}
			}
		}
	}
}

// TestRefused: public numbers below and past their bounds, one by one and
// together.
func TestRefused(t *testing.T) {
	bounds := []int{api.MaxRecords, api.MaxK, api.MaxBlock, api.MaxWorkers}
	for i, bound := range bounds {
		for _, wrong := range append(far(), -1, 0, bound+1, bound+2) {
			for _, p := range []api.Params{public(1, 1, 1, 1), public(5, 2, 3, 2), public(64, 1, 8, 4), public(62, 1, 2, 1)} {
				*[]*int{&p.Records, &p.K, &p.Block, &p.Workers}[i] = wrong
				if !mayBe(p) {
					refused(t, p)
				}
			}
		}
	}
	for _, wrong := range append(far(), -1, 0, 65) {
		refused(t, public(wrong, wrong, wrong, wrong))
	}
	refused(t, api.Params{})
	refused(t, public(-3, -1, 2, 1))
	refused(t, public(-3, 1, -2, 1))
}

// TestBounds: each public number at its bound, and next to it: those that may be
// have tasks, and no other ones.
func TestBounds(t *testing.T) {
	var all []api.Params
	for _, records := range []int{0, 1, 2, 31, 32, 33, 63, 64, 65} {
		for k := 0; k <= api.MaxK+1; k++ {
			for block := 0; block <= api.MaxBlock+1; block++ {
				for workers := 0; workers <= api.MaxWorkers+1; workers++ {
					all = append(all, public(records, k, block, workers))
				}
			}
		}
	}
	ofEach(all, func(p api.Params) {
		if !mayBe(p) {
			refused(t, p)
			return
		}
		if w := words(p); Count(p) != len(w.all) || !slices.Equal(Last(p), w.stand) {
			t.Errorf("P17.1: %+v: %d tasks, and the blocks %+v in the end", p, Count(p), Last(p))
		}
	})
}

// TestMostBlocks: K times the input's blocks at MaxBlocks, and next to it.
func TestMostBlocks(t *testing.T) {
	for k := 1; k <= api.MaxK; k++ {
		for block := 1; block <= api.MaxBlock; block++ {
			for input := (api.MaxBlocks - 3*k) / k; k*(input-2) <= api.MaxBlocks; input++ {
				for records := (input-1)*block + 1; records <= min(input*block, api.MaxRecords); records++ {
					p := public(records, k, block, 1)
					if k*input < api.MaxBlocks {
						holds(t, p, words(p))
					} else {
						refused(t, p)
					}
				}
			}
		}
	}
}

// first are the tasks that a sequence tells until it is told to stop behind so
// many of them, and how often it was told.
func first(tasks iter.Seq2[int, api.Task], count int) (l []api.Task, asked int) {
	tasks(func(_ int, x api.Task) bool {
		asked++
		l = append(l, x)
		return asked < count
	})
	return l, asked
}

// TestEnds: told to stop at each of its tasks Tasks stops there, and the sequence
// may be ranged over again (R1).
func TestEnds(t *testing.T) {
	ofEach(unlike(), func(p api.Params) {
		w := words(p)
		want := w.tasks()
		tasks := Tasks(p)
		for count := 1; count <= len(want); count++ {
			got, asked := first(tasks, count)
			if asked != count || !slices.Equal(got, want[:count]) {
				t.Errorf("P17.1: %+v: told to stop behind %d: %d of %+v", p, count, asked, got)
			}
		}
		if got := collect(t, "behind all stops", tasks); !slices.Equal(got, want) {
			t.Errorf("R1: %+v: ranged over again: %+v", p, got)
		}
	})
}

// TestLeft: a loop may be left by break, by a labelled one and by return, and the
// sequence goes on being what it was (R1).
func TestLeft(t *testing.T) {
	p := public(3, 2, 2, 1)
	w := words(p)
	want := w.tasks()
	tasks := Tasks(p)
	find := func(left int) api.Task {
		for n, x := range tasks {
			if n == left {
				return x
			}
		}
		return api.Task{}
	}
	for left := range want {
		count := 0
		for n := range tasks {
			if count++; n == left {
				break
			}
		}
	outer:
		for range 3 {
			for n := range tasks {
				if n == left {
					break outer
				}
			}
		}
		if count != left+1 || find(left) != want[left] {
			t.Errorf("R1: left at %d: %d tasks, and %+v", left, count, find(left))
		}
	}
	if got := collect(t, "behind all", tasks); !slices.Equal(got, want) {
		t.Errorf("R1: %+v", got)
	}
}

// TestTwoAtATime: a sequence is ranged over within itself, and by two in turns
// (R1).
func TestTwoAtATime(t *testing.T) {
	for _, p := range few() {
		w := words(p)
		want := w.tasks()
		tasks := Tasks(p)
		var outer []api.Task
		for n, x := range tasks {
			outer = append(outer, x)
			if n%20 == 0 {
				if inner := collect(t, "within", tasks); !slices.Equal(inner, want) {
					t.Errorf("R1: %+v: within itself, at %d: %+v", p, n, inner)
				}
			}
		}
		if !slices.Equal(outer, want) {
			t.Errorf("R1: %+v: around itself: %+v", p, outer)
		}
		inTurns(t, p, tasks, want)
	}
}

// inTurns asks two of one sequence, one always three tasks ahead of the other.
func inTurns(t *testing.T, p api.Params, tasks iter.Seq2[int, api.Task], want []api.Task) {
	t.Helper()
	ahead, stopAhead := iter.Pull2(tasks)
	defer stopAhead()
	behind, stopBehind := iter.Pull2(tasks)
	defer stopBehind()
	for i := range len(want) + 3 {
		if n, x, is := ahead(); is != (i < len(want)) || is && (n != i || x != want[i]) {
			t.Errorf("R1: %+v: in turns, ahead: %d: %d %+v", p, i, n, x)
		}
		if i < 3 {
			continue
		}
		if n, x, is := behind(); !is || n != i-3 || x != want[i-3] {
			t.Errorf("R1: %+v: in turns, behind: %d: %d %+v", p, i-3, n, x)
		}
	}
	if _, _, is := behind(); is {
		t.Errorf("R1: %+v: in turns: more than there are", p)
	}
}

// TestSequences: what is told is never nil (R1).
func TestSequences(t *testing.T) {
	for _, p := range append(few(), api.Params{}, public(1, 5, 1, 1), public(math.MinInt, 1, 1, 1)) {
		if Tasks(p) == nil {
			t.Errorf("R1: %+v: nil", p)
		}
	}
}

// TestNoTask: numbers of tasks that there are not.
func TestNoTask(t *testing.T) {
	for _, p := range unlike() {
		w := words(p)
		for _, n := range append(far(), -3, -2, -1, len(w.all), len(w.all)+1, len(w.all)+2, 2*len(w.all)) {
			if n < 0 || n >= len(w.all) {
				lacks(t, p, n)
			}
		}
	}
}

// TestMakes: each spot of phases, rounds and addresses below, within and past
// those that there are: what a task writes, that task; else -1.
func TestMakes(t *testing.T) {
	ofEach(unlike(), func(p api.Params) {
		w := words(p)
		makers := w.makers()
		all := len(w.stand)
		for phase := -2; phase <= api.PhaseLast+2; phase++ {
			for round := -2; round <= roundsOf(all)+2; round++ {
				for addr := -2; addr <= all+2; addr++ {
					s := spot(phase, round, addr)
					want, made := makers[s]
					if !made {
						want = -1
					}
					if got := Makes(p, s); got != want {
						t.Errorf("P17.1: %+v: Makes of %+v: %d, not %d", p, s, got, want)
					}
				}
			}
		}
	})
}

// TestMakesFar: spots of which one, two or all numbers are far from those that
// there are.
func TestMakesFar(t *testing.T) {
	for _, p := range few() {
		w := words(p)
		for s := range w.makers() {
			for _, n := range far() {
				for _, wrong := range []api.Spot{spot(n, s.Round, s.Addr), spot(s.Phase, n, s.Addr), spot(s.Phase, s.Round, n), spot(n, n, s.Addr), spot(s.Phase, n, n), spot(n, s.Round, n), spot(n, n, n)} {
					if got := Makes(p, wrong); got != -1 {
						t.Errorf("P17.1: %+v: Makes of %+v: %d", p, wrong, got)
					}
				}
			}
		}
	}
}

// TestMakesInput: no task makes the input.
func TestMakesInput(t *testing.T) {
	for _, p := range unlike() {
		w := words(p)
		for _, d := range w.all {
			for _, s := range d.reads {
				if got := Makes(p, s); got == -1 != (s.Phase == api.PhaseInput) {
					t.Errorf("P17.1: %+v: Makes of %+v, which is read: %d", p, s, got)
				}
			}
		}
	}
}

// TestReadyWrittenOut: the job of the chapter's example.
func TestReadyWrittenOut(t *testing.T) {
	p := public(1, 1, 1, 1)
	for _, row := range []struct {
		done []int
		want []int
	}{
		{nil, []int{0, 1}},
		{[]int{0}, []int{0, 1}},
		{[]int{1}, []int{0, 1}},
		{[]int{0, 1}, []int{0, 1, 2}},
		{[]int{0, 1, 2}, []int{0, 1, 2, 3}},
		{[]int{0, 1, 2, 3}, []int{0, 1, 2, 3, 4}},
		{[]int{0, 1, 2, 4}, []int{0, 1, 2, 3}},
		{[]int{0, 1, 2, 3, 4}, []int{0, 1, 2, 3, 4, 5}},
		{[]int{2}, []int{0, 1, 3}},
		{[]int{3}, []int{0, 1}},
		{[]int{4}, []int{0, 1}},
		{[]int{3, 4}, []int{0, 1, 5}},
		{[]int{5}, []int{0, 1}},
	} {
		done := make([]bool, 6)
		for _, n := range row.done {
			done[n] = true
		}
		for n := -2; n < 9; n++ {
			ready(t, p, done, n, slices.Contains(row.want, n))
		}
	}
}

// TestReady: with all done but one of the makers of what a task reads, and with
// none done but these.
func TestReady(t *testing.T) {
	ofEach(unlike(), func(p api.Params) {
		w := words(p)
		makers := w.makers()
		done := slices.Repeat([]bool{true}, len(w.all))
		none := make([]bool, len(w.all))
		for n := range w.all {
			needs := w.needs(makers, n)
			ready(t, p, done, n, true)
			ready(t, p, none, n, len(needs) == 0)
			for _, need := range needs {
				done[need], none[need] = false, true
				ready(t, p, done, n, false)
				ready(t, p, none, n, len(needs) == 1)
				done[need], none[need] = true, false
			}
			// What else is done, the task itself among it, counts for nothing.
			done[n] = false
			ready(t, p, done, n, true)
			done[n] = true
		}
	})
}

// TestReadyLengths: what a list does not tell is not done; what it tells of tasks
// that there are not counts for nothing.
func TestReadyLengths(t *testing.T) {
	for _, p := range few() {
		w := words(p)
		makers := w.makers()
		done := slices.Repeat([]bool{true}, len(w.all)+9)
		for n := range w.all {
			latest := slices.Max(append(w.needs(makers, n), -1))
			for length := range done {
				// The room behind the end says done, but is no part of the list.
				ready(t, p, done[:length], n, length > latest)
			}
			ready(t, p, make([]bool, len(w.all)+9), n, latest < 0)
		}
		for _, length := range []int{0, len(w.all) - 1, len(w.all), len(w.all) + 9} {
			for _, n := range append(far(), -1, len(w.all), len(w.all)+1) {
				ready(t, p, done[:length], n, n >= 0 && n < len(w.all))
			}
		}
	}
}

// TestReadyChance: lists of chance, of chance's lengths.
func TestReadyChance(t *testing.T) {
	chance := rand.New(rand.NewPCG(17, 1))
	for range 400 {
		p := unlike()[chance.IntN(len(unlike()))]
		w := words(p)
		makers := w.makers()
		done := make([]bool, chance.IntN(len(w.all)+20))
		share := chance.Float64()
		for i := range done {
			done[i] = chance.Float64() < share
		}
		for range 40 {
			n := chance.IntN(len(w.all)+4) - 2
			want := n >= 0 && n < len(w.all)
			if want {
				for _, need := range w.needs(makers, n) {
					want = want && need < len(done) && done[need]
				}
			}
			ready(t, p, done, n, want)
		}
	}
}

// TestNoRounds: with no rounds (no job has none) blocks stand as they were mapped,
// and in the end as they were folded.
func TestNoRounds(t *testing.T) {
	j := job{k: 1, input: 1, all: 1}
	if got := j.reads(api.Task{Kind: api.TaskFold}); !slices.Equal(got, []api.Spot{spot(api.PhaseMap, 0, 0)}) {
		t.Errorf("P17.1: a fold with no rounds reads %+v", got)
	}
	if got := last(j.rounds(), 0); got != spot(api.PhaseFold, 0, 0) {
		t.Errorf("P17.1: the last one with no rounds: %+v", got)
	}
}

// TestWrittenOnce: each spot is written by one task alone, and what a task reads
// is the input's, or made by tasks of lesser numbers.
func TestWrittenOnce(t *testing.T) {
	for _, p := range unlike() {
		written := map[api.Spot]bool{}
		input, all := counted(p)
		for n := range Count(p) {
			for _, s := range Reads(p, n) {
				own := s.Phase == api.PhaseInput && s.Round == 0 && s.Addr >= 0 && s.Addr < input
				if !own && !written[s] {
					t.Errorf("%+v: the task %d reads %+v, which is not there", p, n, s)
				}
				if maker := Makes(p, s); maker >= n || own != (maker == -1) {
					t.Errorf("%+v: the task %d reads %+v, which %d makes", p, n, s, maker)
				}
			}
			for _, s := range Writes(p, n) {
				if written[s] || s.Phase == api.PhaseInput || s.Addr < 0 || s.Addr >= all {
					t.Errorf("%+v: the task %d writes %+v", p, n, s)
				}
				written[s] = true
			}
		}
		for _, s := range Last(p) {
			if !written[s] {
				t.Errorf("%+v: %+v, in the end, is not there", p, s)
			}
		}
	}
}

// TestEachReadOnce: what is made is read by one task, but for the last carry and
// what stands in the end, which none reads; each of the input's blocks is read.
func TestEachReadOnce(t *testing.T) {
	for _, p := range unlike() {
		input, all := counted(p)
		reads := map[api.Spot]int{spot(api.PhaseCarry, 0, all-1): 1}
		for _, s := range Last(p) {
			reads[s]++
		}
		for n := range Count(p) {
			for _, s := range Reads(p, n) {
				reads[s]++
			}
		}
		for a := range input {
			if s := spot(api.PhaseInput, 0, a); reads[s] != 1 {
				t.Errorf("%+v: %+v is read %d times", p, s, reads[s])
			}
		}
		for n := range Count(p) {
			for _, s := range Writes(p, n) {
				if reads[s] != 1 {
					t.Errorf("%+v: %+v is read %d times", p, s, reads[s])
				}
			}
		}
	}
}

// goesThrough does what is ready, and not done, as next says (one of so many), and
// tells the tasks in the order in which they were done, until none is ready.
func goesThrough(p api.Params, next func(ready int) int) []int {
	var order []int
	done := make([]bool, Count(p))
	for {
		var able []int
		for n := range done {
			if !done[n] && Ready(p, done, n) {
				able = append(able, n)
			}
		}
		if len(able) == 0 {
			return order
		}
		n := able[next(len(able))]
		done[n] = true
		order = append(order, n)
	}
}

// TestGoesThrough: whoever does what is ready, in whatever order, comes to the end
// with all done; the least one first does them by their numbers.
func TestGoesThrough(t *testing.T) {
	chance := rand.New(rand.NewPCG(17, 2))
	for _, p := range []api.Params{public(1, 1, 1, 1), public(3, 1, 2, 2), public(2, 2, 1, 1), public(1, 4, 1, 4), public(20, 1, 4, 3)} {
		whole := make([]int, Count(p))
		for n := range whole {
			whole[n] = n
		}
		if got := goesThrough(p, func(int) int { return 0 }); !slices.Equal(got, whole) {
			t.Errorf("%+v: the least one first: %v", p, got)
		}
		for what, next := range map[string]func(int) int{"the greatest one first": func(n int) int { return n - 1 }, "chance": chance.IntN} {
			if got := slices.Sorted(slices.Values(goesThrough(p, next))); !slices.Equal(got, whole) {
				t.Errorf("%+v: %s: %v", p, what, got)
			}
		}
	}
}

// TestAllAtOnce: whoever does all that is ready, again and again, is done with
// each job that may be.
func TestAllAtOnce(t *testing.T) {
	ofEach(unlike(), func(p api.Params) {
		_, all := counted(p)
		done := make([]bool, Count(p))
		turns := 0
		for slices.Contains(done, false) {
			was := slices.Clone(done)
			for n := range done {
				done[n] = done[n] || Ready(p, was, n)
			}
			if slices.Equal(was, done) {
				t.Errorf("%+v: nothing more is ready: %v", p, done)
				return
			}
			turns++
		}
		// Maps, the rounds, the folds one behind the other, and the rounds again, the
		// last fold of which holds up all that comes behind it.
		if want := 1 + roundsOf(all) + all + roundsOf(all); turns != want {
			t.Errorf("%+v: done behind %d turns, not %d", p, turns, want)
		}
	})
}

// TestPublicAlone: jobs of as many blocks of the input, and of one K, have the
// same to do, whatever their workers, and whether the last block is full or not.
func TestPublicAlone(t *testing.T) {
	type like struct{ k, input int }
	seen := map[like][]api.Task{}
	for workers := 1; workers <= api.MaxWorkers; workers++ {
		for _, p := range allPublic(workers) {
			input, _ := counted(p)
			got := collect(t, "all", Tasks(p))
			if want, is := seen[like{p.K, input}]; is && !slices.Equal(got, want) {
				t.Errorf("P17.1: %+v: other tasks than of another one: %+v", p, got)
			}
			seen[like{p.K, input}] = got
		}
	}
	if len(seen) != len(unlike()) {
		t.Errorf("there are %d unlike jobs, not %d", len(seen), len(unlike()))
	}
}

// TestAsPipe: the tasks, done on plain blocks in their order, make what pipe's
// stages tell, and in the end what pipe.Run does.
func TestAsPipe(t *testing.T) {
	chance := rand.New(rand.NewPCG(17, 3))
	for _, p := range append(few(), public(31, 1, 1, 1), public(10, 3, 1, 1), public(17, 2, 4, 2)) {
		g := program(p.K)
		in := make([]api.Pair, p.Records)
		for i := range in {
			in[i] = api.Pair{Key: chance.Int64N(9), Value: chance.Int64N(100)}
		}
		blocks := done(t, g, p, in)
		_, all := counted(p)
		rounds := roundsOf(all)
		for r := range rounds {
			stands(t, g, p, in, 2+r, blocks, api.PhaseSort, r+1)
			stands(t, g, p, in, 3+rounds+r, blocks, api.PhaseLast, r+1)
		}
		stands(t, g, p, in, 1, blocks, api.PhaseMap, 0)
		stands(t, g, p, in, 2+rounds, blocks, api.PhaseFold, 0)
		var told []api.Pair
		for _, s := range Last(p) {
			for _, r := range blocks[s] {
				if !r.Dead {
					told = append(told, api.Pair{Key: r.Key, Value: r.Value})
				}
			}
		}
		if want, e := spec.Run(g, p, in); e != api.OK || !slices.Equal(told, want) {
			t.Errorf("%+v: %v in the end, not %v (%d)", p, told, want, e)
		}
	}
}

// program is one of k slots, of unlike keys, whose fold hangs on the order.
func program(k int) api.Program {
	g := api.Program{K: k, Map: []api.Op{{Code: api.OpSet, D: 3, N: 1}}}
	for slot := range int64(k) {
		g.Map = append(g.Map, api.Op{Code: api.OpEmit, A: 0, B: 1, C: 3, N: slot}, api.Op{Code: api.OpAdd, D: 0, A: 0, B: 3})
	}
	g.Fold = []api.Op{{Code: api.OpSet, D: 2, N: 31}, {Code: api.OpMul, D: 0, A: 0, B: 2}, {Code: api.OpAdd, D: 0, A: 0, B: 1}}
	return g
}

// done are the blocks at all spots, behind all tasks.
func done(t *testing.T, g api.Program, p api.Params, in []api.Pair) map[api.Spot][]api.Record {
	t.Helper()
	mapped, e := pipe.Stage(g, p, in, 1)
	if e != api.OK {
		t.Fatalf("%+v: the error %d", p, e)
	}
	blocks := map[api.Spot][]api.Record{}
	for n, x := range Tasks(p) {
		var read, made [][]api.Record
		for _, s := range Reads(p, n) {
			if s.Phase != api.PhaseInput && blocks[s] == nil {
				t.Errorf("%+v: nothing at %+v", p, s)
			}
			read = append(read, blocks[s])
		}
		switch x.Kind {
		case api.TaskMap:
			made = mapped[p.K*x.A : p.K*(x.A+1)]
		case api.TaskPad:
			made = [][]api.Record{slices.Repeat([]api.Record{record.Dead()}, p.Block)}
		case api.TaskFold:
			carry := record.Dead()
			if x.A > 0 {
				carry = read[1][0]
			}
			out, on := chain.Step(g, carry, read[0])
			made = [][]api.Record{merge.Sort(out, false), {on}}
		default:
			lesser, greater := merge.Split(read[0], read[1], x.Kind == api.TaskSort)
			if made = [][]api.Record{lesser, greater}; !x.Up {
				made = [][]api.Record{greater, lesser}
			}
		}
		for i, s := range Writes(p, n) {
			blocks[s] = made[i]
		}
	}
	return blocks
}

// stands holds the blocks of a phase and a round against a stage of pipe.
func stands(t *testing.T, g api.Program, p api.Params, in []api.Pair, n int, blocks map[api.Spot][]api.Record, phase, round int) {
	t.Helper()
	want, e := pipe.Stage(g, p, in, n)
	for addr, l := range want {
		if got := blocks[spot(phase, round, addr)]; !slices.Equal(got, l) {
			t.Errorf("%+v: the phase %d, the round %d: %v, not %v", p, phase, round, got, l)
		}
	}
	if e != api.OK || len(blocks[spot(phase, round, len(want))]) != 0 {
		t.Errorf("%+v: the phase %d, the round %d: a block more than pipe has (%d)", p, phase, round, e)
	}
}

// TestHandedIn: done, with the room behind its end, is as it was (R3).
func TestHandedIn(t *testing.T) {
	for _, p := range few() {
		for length := 0; length <= Count(p)+3; length += 1 + length/3 {
			for _, behind := range []bool{false, true} {
				whole := make([]bool, length+9)
				for i := range whole {
					whole[i] = i%3 != 1
				}
				for i := length; i < len(whole); i++ {
					whole[i] = behind
				}
				was := slices.Clone(whole)
				for n := -1; n <= Count(p); n++ {
					Ready(p, whole[:length], n)
				}
				if !slices.Equal(whole, was) {
					t.Errorf("R3: %+v: %d done: what was handed in was changed", p, length)
				}
			}
		}
	}
}

// TestHandedInNotKept: what becomes of done behind a call changes no later answer
// (R3).
func TestHandedInNotKept(t *testing.T) {
	p := public(1, 1, 1, 1)
	done := []bool{true, true, true, true, true, true}
	ready(t, p, done, 5, true)
	clear(done)
	ready(t, p, done, 5, false)
	ready(t, p, []bool{false, false, false, true, true}, 5, true)
	done[3], done[4] = true, true
	ready(t, p, done, 5, true)
	ready(t, p, nil, 5, false)
}

// TestNilAndEmpty: no list and an empty one are the same (R3).
func TestNilAndEmpty(t *testing.T) {
	room := slices.Repeat([]bool{true}, 700)
	for _, p := range append(few(), api.Params{}) {
		w := duties{}
		if mayBe(p) {
			w = words(p)
		}
		for n := -1; n <= len(w.all); n++ {
			want := n >= 0 && n < len(w.all) && w.all[n].task.Kind <= api.TaskPad
			for _, done := range [][]bool{nil, {}, room[:0]} {
				ready(t, p, done, n, want)
			}
		}
	}
}

// spoil writes over all of l, and over the room behind its end.
func spoil(l []api.Spot) {
	l = l[:cap(l)]
	for i := range l {
		l[i] = spot(-7, -7, -7)
	}
}

// TestHandedOut: what is told is new memory: who writes into it, or behind its
// end, changes no other list, and no later answer (R3).
func TestHandedOut(t *testing.T) {
	for _, p := range few() {
		w := words(p)
		var kept, spoilt [][]api.Spot
		for n := range w.all {
			kept = append(kept, Reads(p, n), Writes(p, n), Last(p))
			spoilt = append(spoilt, Reads(p, n), Writes(p, n), Last(p))
		}
		for _, l := range spoilt {
			spoil(l)
		}
		for n, d := range w.all {
			if want := [][]api.Spot{d.reads, d.writes, w.stand}; !slices.EqualFunc(kept[3*n:3*n+3], want, slices.Equal) {
				t.Errorf("R3: %+v: who writes into what is told of %d changes more", p, n)
			}
		}
		holds(t, p, w)
	}
}

// TestAgain: the same is told again, whatever was asked ahead, and by many at once
// (R2).
func TestAgain(t *testing.T) {
	var asking sync.WaitGroup
	for _, p := range few() {
		w := words(p)
		makers := w.makers()
		shared := Tasks(p)
		half := slices.Repeat([]bool{true}, len(w.all)/2)
		for range 4 {
			asking.Go(func() {
				holds(t, p, w)
				for n := range w.all {
					latest := slices.Max(append(w.needs(makers, n), -1))
					ready(t, p, half, n, latest < len(half))
				}
				refused(t, public(32, 1, 1, 1))
				if got := collect(t, "by many at once", shared); !slices.Equal(got, w.tasks()) {
					t.Errorf("R2: %+v: by many at once: %+v", p, got)
				}
				holds(t, p, w)
			})
		}
	}
	asking.Wait()
}

// TestGivenAlone: no call is given a record or a program, so that nothing of them
// can show (W2).
func TestGivenAlone(t *testing.T) {
	may := []any{api.Params{}, api.Spot{}, []bool(nil), 0}
	for _, call := range []any{Tasks, Count, Task, Reads, Writes, Makes, Ready, Last} {
		kind := reflect.TypeOf(call)
		for i := range kind.NumIn() {
			if !slices.ContainsFunc(may, func(v any) bool { return reflect.TypeOf(v) == kind.In(i) }) {
				t.Errorf("W2: %s is given more than what is public", kind)
			}
		}
	}
}
