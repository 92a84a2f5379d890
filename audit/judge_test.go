package audit_test

import (
	"math"
	"math/rand"
	"slices"
	"sync"
	"testing"

	"lessonbook/api"
	"lessonbook/audit"
	"lessonbook/draw"
	"lessonbook/train"
	"lessonbook/tree"
)

// count is how many numbers a pupil of the config has.
func count(c api.Config) int { return c.In*c.Hidden + c.Hidden + c.Hidden*c.Out + c.Out }

// state is any one that fits the config.
func state(r *rand.Rand, c api.Config) api.State {
	return api.State{Weights: list(r, count(c)), Moves: list(r, count(c))}
}

// redone is the record of P20, told by the layers below.
func redone(t *testing.T, c api.Config, data []api.Example, s api.State, step int) api.Record {
	t.Helper()
	then, batch, rate, e := train.Next(c, data, s, step)
	if e != api.OK {
		t.Fatalf("Next of %+v at %d: %d", c, step, e)
	}
	root, e := tree.Root(slices.Concat(then.Weights, then.Moves))
	if e != api.OK {
		t.Fatalf("Root of %v: %d", then, e)
	}
	return api.Record{Step: step, Batch: batch, Rate: rate, Root: root}
}

func isJudged(t *testing.T, c api.Config, data []api.Example, s api.State, step int, a, b api.Record, want int) {
	t.Helper()
	if got, e := audit.Judge(c, data, s, step, a, b); e != api.OK || got != want {
		t.Errorf("Judge of %+v at %d, of %+v and %+v = %d, %d, want %d", c, step, a, b, got, e, want)
	}
}

// eachVerdict asks all four that a right record and a wrong one may give.
func eachVerdict(t *testing.T, c api.Config, data []api.Example, s api.State, step int, right, wrong api.Record) {
	t.Helper()
	isJudged(t, c, data, s, step, right, wrong, 1)
	isJudged(t, c, data, s, step, wrong, right, 2)
	isJudged(t, c, data, s, step, right, right, 3)
	isJudged(t, c, data, s, step, wrong, wrong, 0)
}

// bent is a record bent in one way, with a batch of its own.
func bent(x api.Record, b bend) api.Record {
	x.Batch = slices.Clone(x.Batch)
	b.to(&x)
	return x
}

// P20: steps from states that no course has, reckoned elsewhere.
func TestJudgeByNumbers(t *testing.T) {
	first := api.State{Weights: []int{one, 2 * one, -one, 5}, Moves: []int{7, -8, 9, -10}}
	second := api.State{Weights: []int{one, -one, 300, 40000, 2 * one, 3 * one, -77}, Moves: []int{one, -one, one / 2, -3, 0, most, -most}}
	third := api.State{Weights: []int{most, -most, one, one, -one, 0, 1, -1, 12345}, Moves: []int{1, 2, 3, 4, 5, 6, 7, 8, -9}}
	for _, x := range []struct {
		c     api.Config
		data  []api.Example
		s     api.State
		right api.Record
	}{
		{plain(), two(), first, api.Record{Step: 0, Batch: []int{0}, Rate: 6554, Root: 945135179452918772}},
		{plain(), two(), first, api.Record{Step: 1, Batch: []int{1}, Rate: 6554, Root: 1887931456827152797}},
		{plain(), two(), first, api.Record{Step: 2, Batch: []int{1}, Rate: 6554, Root: 1887931456827152797}},
		{moving(), two(), second, api.Record{Step: 0, Batch: []int{1, 0, 1}, Rate: 6554, Root: 1974100226337789264}},
		{moving(), two(), second, api.Record{Step: 3, Batch: []int{1, 1, 0}, Rate: 1638, Root: 398545031236511220}},
		{clipped(), three(), third, api.Record{Step: 1, Batch: []int{1, 1}, Rate: 10486, Root: 642553469939963916}},
		{clipped(), three(), third, api.Record{Step: 4, Batch: []int{2, 0}, Rate: 2621, Root: 1328955030970101040}},
	} {
		for _, b := range bends() {
			eachVerdict(t, x.c, x.data, x.s, x.right.Step, x.right, bent(x.right, b))
		}
	}
}

// P20: each step of journals reckoned elsewhere, from the states of the course.
func TestJudgeOfJournals(t *testing.T) {
	for _, x := range reckoned() {
		states, _ := train.Run(x.c, x.data, len(x.l))
		for step, right := range x.l {
			for _, b := range bends() {
				eachVerdict(t, x.c, x.data, states[step], step, right, bent(right, b))
			}
			other := x.l[(step+1)%len(x.l)]
			eachVerdict(t, x.c, x.data, states[step], step, right, other)
			eachVerdict(t, x.c, x.data, states[step], step, right, api.Record{})
		}
	}
}

// P18, P20: the same examples in another order are another batch.
func TestBatchesInOrder(t *testing.T) {
	for _, x := range reckoned() {
		states, _ := train.Run(x.c, x.data, len(x.l))
		for step, right := range x.l {
			l := copied(x.l)
			slices.Reverse(l[step].Batch)
			if slices.Equal(l[step].Batch, right.Batch) {
				continue
			}
			isWhole(t, x.c, x.data, l, step, "a batch in another order")
			eachVerdict(t, x.c, x.data, states[step], step, right, l[step])
		}
	}
}

// P20: every shape, from any state, at any step.
func TestJudgeByWords(t *testing.T) {
	r := rand.New(rand.NewSource(21))
	ways := bends()
	eachShape(r, func(c api.Config) {
		data, s := some(r, c), state(r, c)
		for _, step := range []int{0, c.Steps - 1, r.Intn(c.Steps)} {
			right := redone(t, c, data, s, step)
			for range 3 {
				eachVerdict(t, c, data, s, step, right, bent(right, ways[r.Intn(len(ways))]))
			}
		}
	})
}

// P20: two that are wrong, in ways that are not the same.
func TestJudgeOfTwoWrongOnes(t *testing.T) {
	r := rand.New(rand.NewSource(22))
	c := config(r)
	data, s := some(r, c), state(r, c)
	right := redone(t, c, data, s, 0)
	for _, x := range bends() {
		for _, y := range bends() {
			isJudged(t, c, data, s, 0, bent(right, x), bent(right, y), 0)
		}
	}
}

// P20: chains are not looked at.
func TestJudgeIsBlindToChains(t *testing.T) {
	r := rand.New(rand.NewSource(23))
	c := config(r)
	data := some(r, c)
	right := records(t, c, data, 1)[0]
	s, _ := train.Start(c)
	wrong := bent(right, bentRoot())
	for _, n := range []uint64{0, 1, right.Chain, right.Chain + 1, api.P, full} {
		a, b := right, right
		a.Chain, b.Chain = n, ^n
		isJudged(t, c, data, s, 0, a, b, 3)
		b = wrong
		b.Chain = n
		eachVerdict(t, c, data, s, 0, a, b)
	}
}

// P20: a record is right from one state, not from another.
func TestJudgeLooksAtTheState(t *testing.T) {
	c := plain()
	states, _ := train.Run(c, two(), 3)
	l := records(t, c, two(), 3)
	for step := range 3 {
		for i, s := range states {
			want := 0
			if i == step {
				want = 3
			}
			isJudged(t, c, two(), s, step, l[step], l[step], want)
		}
	}
	s := api.State{Weights: slices.Clone(states[0].Weights), Moves: []int{0, 0, 0, 1}}
	isJudged(t, c, two(), s, 0, l[0], l[0], 0)
}

func refusedJudge(t *testing.T, c api.Config, data []api.Example, s api.State, step int, want api.Errno) {
	t.Helper()
	for _, x := range []api.Record{{}, {Step: step}, {Step: -1, Batch: make([]int, 300)}} {
		if got, e := audit.Judge(c, data, s, step, x, x); got != 0 || e != want {
			t.Errorf("Judge of %+v with %v from %v at %d = %d, %d, want %d", c, data, s, step, got, e, want)
		}
	}
}

// P20: steps that there are not.
func TestJudgeOfWrongSteps(t *testing.T) {
	r := rand.New(rand.NewSource(24))
	for steps := 1; steps <= api.MaxSteps; steps++ {
		c := config(r)
		c.Steps = steps
		data, s := some(r, c), state(r, c)
		for _, step := range outside(0, steps-1) {
			refusedJudge(t, c, data, s, step, api.ErrArg)
		}
	}
}

// P20: states that do not fit, ahead of steps that there are not.
func TestJudgeOfWrongStates(t *testing.T) {
	r := rand.New(rand.NewSource(25))
	eachShape(r, func(c api.Config) {
		data := some(r, c)
		for _, n := range []int{0, count(c) - 1, count(c) + 1, 201} {
			for _, step := range []int{0, -1, c.Steps} {
				s := state(r, c)
				s.Weights = make([]int, n)
				refusedJudge(t, c, data, s, step, api.ErrForm)
				s = state(r, c)
				s.Moves = make([]int, n)
				refusedJudge(t, c, data, s, step, api.ErrForm)
			}
		}
		for _, n := range []int{most + 1, -most - 1, math.MaxInt, math.MinInt} {
			s := state(r, c)
			s.Weights[r.Intn(count(c))] = n
			refusedJudge(t, c, data, s, 0, api.ErrForm)
			s = state(r, c)
			s.Moves[r.Intn(count(c))] = n
			refusedJudge(t, c, data, s, c.Steps, api.ErrForm)
		}
	})
}

// P20: train.Check's errors go ahead of those of states and steps.
func TestJudgeChecks(t *testing.T) {
	r := rand.New(rand.NewSource(26))
	for _, f := range fields() {
		for _, wrong := range outside(f.low, f.high) {
			c := config(r)
			data, s := some(r, c), state(r, c)
			*f.of(&c) = wrong
			refusedJudge(t, c, data, s, 0, api.ErrArg)
			refusedJudge(t, c, make([]api.Example, 17), api.State{}, 0, api.ErrArg)
		}
	}
	c := config(r)
	for _, s := range []api.State{{}, state(r, c)} {
		for _, step := range []int{0, -1, 41} {
			refusedJudge(t, c, nil, s, step, api.ErrArg)
			refusedJudge(t, c, make([]api.Example, 17), s, step, api.ErrLarge)
			refusedJudge(t, c, make([]api.Example, 16), s, step, api.ErrForm)
		}
	}
	refusedJudge(t, api.Config{}, nil, api.State{}, 0, api.ErrArg)
}

// P18 to P20: who has another journal is found by few questions, and one step
// done again, wherever it parts, and whoever of the two it is.
func TestWhoHasAnotherIsFound(t *testing.T) {
	r := rand.New(rand.NewSource(27))
	c := config(r)
	c.Steps = api.MaxSteps
	data := some(r, c)
	right := records(t, c, data, c.Steps)
	states, _ := train.Run(c, data, c.Steps)
	for i := range right {
		wrong := rechained(t, right, i, bentRoot())
		place, asks := find(t, right, wrong)
		if place != i || asks > 7 {
			t.Errorf("Find, parted at %d = %d, %d", i, place, asks)
		}
		isJudged(t, c, data, states[place], place, right[place], wrong[place], 1)
		isJudged(t, c, data, states[place], place, wrong[place], right[place], 2)
		isWhole(t, c, data, wrong, i, "chained")
	}
}

// roomy is a list of the same numbers, with room behind it that is told apart.
func roomy(l []int) []int {
	return append(slices.Clone(l), slices.Repeat([]int{91}, 8)...)[:len(l)]
}

// untouched: is that the list that it was, and the room behind it too?
func untouched(l, was []int) bool {
	room := l[len(l) : len(l)+8]
	return slices.Equal(l, was) && slices.Equal(room, slices.Repeat([]int{91}, 8))
}

// P2: nothing that is handed in is changed, nor the room behind it.
func TestMemory(t *testing.T) {
	r := rand.New(rand.NewSource(28))
	for range 20 {
		c := config(r)
		c.Steps = 5
		data, s := some(r, c), state(r, c)
		right := records(t, c, data, 5)
		given := make([]api.Example, len(data), len(data)+2)
		for i, x := range data {
			given[i] = api.Example{In: roomy(x.In), Out: roomy(x.Out)}
		}
		l := make([]api.Record, 5, 7)
		for i, x := range right {
			l[i] = x
			l[i].Batch = roomy(x.Batch)
		}
		before := api.State{Weights: roomy(s.Weights), Moves: roomy(s.Moves)}
		isWhole(t, c, given, l, 5, "with room behind")
		find(t, l, l)
		if _, e := audit.Judge(c, given, before, 4, l[0], l[4]); e != api.OK {
			t.Errorf("Judge of %+v: %d", c, e)
		}
		for i, x := range given {
			if !untouched(x.In, data[i].In) || !untouched(x.Out, data[i].Out) {
				t.Errorf("example %d of %+v is changed", i, c)
			}
		}
		for i, x := range l {
			want := right[i]
			if !untouched(x.Batch, want.Batch) || x.Step != want.Step || x.Rate != want.Rate || x.Root != want.Root || x.Chain != want.Chain {
				t.Errorf("record %d of %+v is changed", i, c)
			}
		}
		if !untouched(before.Weights, s.Weights) || !untouched(before.Moves, s.Moves) {
			t.Errorf("the state of %+v is changed", c)
		}
		for _, x := range given[len(given):cap(given)] {
			if x.In != nil || x.Out != nil {
				t.Errorf("the room behind the examples of %+v is changed", c)
			}
		}
		for _, x := range l[len(l):cap(l)] {
			if x.Batch != nil || x.Step != 0 || x.Rate != 0 || x.Root != 0 || x.Chain != 0 {
				t.Errorf("the room behind the records of %+v is changed", c)
			}
		}
	}
}

// P2: one list may be each example's both lists and each record's batch, and
// another one both lists of the state.
func TestOneListForAll(t *testing.T) {
	c := api.Config{In: 4, Hidden: 1, Out: 4, Batch: 4, Steps: 2, Rate: 6554}
	l, _ := draw.Batch(c.Seed, c.Batch, 4, 1)
	was := slices.Clone(l)
	data := slices.Repeat([]api.Example{{In: l, Out: l}}, 4)
	numbers := list(rand.New(rand.NewSource(29)), count(c))
	s := api.State{Weights: numbers, Moves: numbers}
	x := redone(t, c, data, s, 1)
	x.Batch = l
	isJudged(t, c, data, s, 1, x, x, 3)
	if !slices.Equal(l, was) {
		t.Errorf("the list is %v, not %v", l, was)
	}
}

// P2: nothing is kept, so calls at the same time, and behind wrong ones, answer
// as calls alone.
func TestNothingIsKept(t *testing.T) {
	r := rand.New(rand.NewSource(30))
	c := config(r)
	c.Steps = 10
	data, s := some(r, c), state(r, c)
	right := records(t, c, data, 10)
	wrong := rechained(t, right, 6, bentRoot())
	x := redone(t, c, data, s, 3)
	var group sync.WaitGroup
	for range 8 {
		group.Go(func() {
			for range 5 {
				audit.Whole(c, nil, right)
				isWhole(t, c, data, right, 10, "as they were")
				isWhole(t, c, data, wrong, 6, "chained")
				audit.Find(right, nil)
				if place, asks, e := audit.Find(right, wrong); place != 6 || asks != 4 || e != api.OK {
					t.Errorf("Find = %d, %d, %d", place, asks, e)
				}
				audit.Judge(c, data, s, -1, x, x)
				isJudged(t, c, data, s, 3, x, api.Record{}, 1)
			}
		})
	}
	group.Wait()
}
