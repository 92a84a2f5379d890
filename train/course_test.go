package train_test

import (
	"math/rand"
	"slices"
	"sync"
	"testing"

	"lessonbook/api"
	"lessonbook/train"
)

// told is what Next tells.
type told struct {
	batch          []int
	rate           int
	weights, moves []int
}

// course is one, and what is told of its steps.
type course struct {
	c     api.Config
	data  []api.Example
	steps []told
}

// reckoned are courses reckoned elsewhere: in the last two the sums are clamped
// on the way, so that the order of the examples is to be seen.
func reckoned() []course {
	two := []api.Example{{In: []int{one}, Out: []int{2 * one}}, {In: []int{2 * one}, Out: []int{4 * one}}}
	three := []api.Example{
		{In: []int{one, -one}, Out: []int{one / 2}},
		{In: []int{3 * one, 7}, Out: []int{-one}},
		{In: []int{-20000, 40001}, Out: []int{99999}}}
	huge := []api.Example{
		{In: []int{most, most}, Out: []int{-most}},
		{In: []int{most, -most}, Out: []int{most}},
		{In: []int{one, 1}, Out: []int{most}}}
	return []course{
		{api.Config{In: 1, Hidden: 1, Out: 1, Seed: 1, Batch: 1, Steps: 3, Rate: 6554}, two, []told{
			{[]int{0}, 6554, []int{-34014, 54285, 19291, -43129}, make([]int, 4)},
			{[]int{1}, 6554, []int{-34014, 54285, 19291, -12600}, make([]int, 4)},
			{[]int{1}, 6554, []int{-34014, 54285, 19291, 14876}, make([]int, 4)},
		}},
		{api.Config{In: 1, Hidden: 2, Out: 1, Seed: 5, Batch: 3, Steps: 4, Rate: 6554, Decay: 1, How: 1, Keep: 58982}, two, []told{
			{[]int{1, 0, 1}, 6554, []int{3701, 16139, -29624, 72296, -24187, 53387, 2684}, []int{0, -212680, 0, -117468, 0, -161869, -206951}},
			{[]int{0, 1, 0}, 4916, []int{3701, 39892, -29624, 86071, -24187, 75070, 23831}, []int{0, -316656, 0, -183643, 0, -289065, -281910}},
			{[]int{0, 1, 0}, 3277, []int{3701, 54573, -29624, 93844, -24187, 87744, 36088}, []int{0, -293605, 0, -155441, 0, -253457, -245129}},
			{[]int{1, 1, 0}, 1638, []int{3701, 57980, -29624, 95164, -24187, 89129, 39976}, []int{0, -136332, 0, -52794, 0, -55398, -155559}},
		}},
		{api.Config{In: 2, Hidden: 2, Out: 1, Seed: 77, Batch: 2, Steps: 5, Rate: 13107, Decay: 1, Keep: one, Clip: one}, three, []told{
			{[]int{0, 2}, 13107, []int{-30579, 62048, -49009, -37039, 23108, 54528, 12465, -2914, -22391}, make([]int, 9)},
			{[]int{1, 1}, 10486, []int{-30579, 62048, -49009, -37039, 23108, 54528, 12465, -2914, -29294}, make([]int, 9)},
			{[]int{0, 2}, 7864, []int{-30875, 62640, -49063, -37055, 24078, 54178, 17937, 2529, -21430}, make([]int, 9)},
			{[]int{0, 1}, 5243, []int{-30875, 62640, -48982, -37136, 24078, 54259, 17937, 3882, -21091}, make([]int, 9)},
			{[]int{2, 0}, 2621, []int{-31019, 62928, -48960, -37127, 24550, 54414, 19824, 5687, -18470}, make([]int, 9)},
		}},
		{api.Config{In: 2, Hidden: 1, Out: 1, Seed: 9, Batch: 5, Steps: 6, Rate: 3277, How: 1, Keep: one / 2, Clip: one / 2}, three, []told{
			{[]int{2, 1, 0, 0, 2}, 3277, []int{63599, 53495, -21392, -26658, -6128}, []int{1522, 0, 507, -3208, -32768}},
			{[]int{1, 1, 0, 2, 1}, 3277, []int{63232, 53495, -21514, -25882, -3670}, []int{7331, 0, 2444, -15520, -49152}},
			{[]int{2, 0, 2, 1, 0}, 3277, []int{63018, 53495, -21585, -25427, -803}, []int{4287, 0, 1429, -9105, -57344}},
			{[]int{0, 1, 2, 0, 2}, 3277, []int{62909, 53495, -21621, -25196, 2269}, []int{2179, 0, 726, -4628, -61440}},
			{[]int{1, 2, 0, 1, 0}, 3277, []int{62937, 53495, -21612, -25262, 5321}, []int{-552, 0, -184, 1314, -61043}},
			{[]int{1, 2, 0, 2, 1}, 3277, []int{63070, 53495, -21568, -25557, 8486}, []int{-2656, 0, -886, 5906, -63290}},
		}},
		{api.Config{In: 2, Hidden: 2, Out: 1, Seed: 3, Batch: 4, Steps: 2, Rate: 655, How: 1, Keep: one}, huge, []told{
			{[]int{2, 1, 0, 1}, 655,
				[]int{-5322672, 5396728, -630307, 1828523, -5356055, -2447955, 5306632, 806479, 5413041},
				[]int{536870912, -536870912, 68354048, -177041760, 536870912, 245394149, -536870912, -83689472, -536870912}},
			{[]int{2, 0, 1, 2}, 655,
				[]int{-10688432, 10762488, -1313472, 3597968, -10721815, -4900548, 10672392, 1642914, 16144561},
				[]int{536870912, -536870912, 68354048, -177041760, 536870912, 245394149, -536870912, -83689472, -1073741824}},
		}},
		{api.Config{In: 2, Hidden: 2, Out: 1, Seed: 4, Batch: 8, Steps: 2, Rate: 655, Decay: 1, Keep: one}, huge, []told{
			{[]int{0, 1, 2, 2, 0, 1, 1, 0}, 655, []int{2641878, 2724121, 1435760, 4646, 2699693, 1515182, -2729690, 1090831, -35325}, make([]int, 9)},
			{[]int{2, 0, 2, 1, 2, 1, 0, 1}, 328, []int{1298390, 4067609, 2779248, -1338842, 1356205, 2686475, -1386202, 2434319, 35067}, make([]int, 9)},
		}},
	}
}

// P15: Next and Run of courses reckoned elsewhere.
func TestCoursesByNumbers(t *testing.T) {
	for _, x := range reckoned() {
		s := start(t, x.c)
		all := run(t, x.c, x.data, len(x.steps))
		if !same(all[0], s) {
			t.Errorf("Run of %+v begins with %v, not %v", x.c, all[0], s)
		}
		for step, want := range x.steps {
			then, batch, rate := next(t, x.c, x.data, s, step)
			state := api.State{Weights: want.weights, Moves: want.moves}
			if !same(then, state) || !slices.Equal(batch, want.batch) || rate != want.rate {
				t.Errorf("Next of %+v at %d = %v, %v, %d, want %v", x.c, step, then, batch, rate, want)
			}
			if !same(all[step+1], state) {
				t.Errorf("Run of %+v, state %d = %v, want %v", x.c, step+1, all[step+1], state)
			}
			s = then
		}
	}
}

// P15: every shape, with any state, at any step.
func TestNextByWords(t *testing.T) {
	r := rand.New(rand.NewSource(11))
	eachShape(r, func(c api.Config) {
		for range 12 {
			other := config(r)
			other.In, other.Hidden, other.Out = c.In, c.Hidden, c.Out
			data, s := some(r, other), state(r, other)
			if r.Intn(2) == 0 {
				s = start(t, other)
			}
			for _, step := range []int{0, other.Steps - 1, r.Intn(other.Steps)} {
				then, batch, rate := next(t, other, data, s, step)
				wantThen, wantBatch, wantRate := nextWords(other, data, s, step)
				if !same(then, wantThen) || !slices.Equal(batch, wantBatch) || rate != wantRate {
					t.Errorf("Next of %+v with %v from %v at %d = %v, %v, %d, want %v, %v, %d",
						other, data, s, step, then, batch, rate, wantThen, wantBatch, wantRate)
				}
			}
		}
	})
}

// P15: Next takes a state at the bounds of its numbers.
func TestNextTakesBounds(t *testing.T) {
	r := rand.New(rand.NewSource(12))
	eachShape(r, func(c api.Config) {
		data := some(r, c)
		for _, n := range []int{most, -most, 0} {
			l := slices.Repeat([]int{n}, count(c))
			s := api.State{Weights: l, Moves: l}
			then, _, _ := next(t, c, data, s, 0)
			if want, _, _ := nextWords(c, data, s, 0); !same(then, want) {
				t.Errorf("Next of %+v from %d everywhere = %v, want %v", c, n, then, want)
			}
		}
	})
}

// P15: a sum is clamped as it grows, from the first example of the batch on,
// and divided as a whole: what is rounded, or clamped, by itself is another.
func TestSumsInOrder(t *testing.T) {
	c := api.Config{In: 1, Hidden: 1, Out: 1, Seed: 6, Batch: 3, Steps: 40, Rate: one}
	// The hidden one is 0, so that B2 alone has something to learn: D.
	s := api.State{Weights: make([]int, 4), Moves: make([]int, 4)}
	mean := func(step int, outs []int) (int, []int) {
		var data []api.Example
		for _, n := range outs {
			data = append(data, api.Example{In: []int{0}, Out: []int{n}})
		}
		then, batch, _ := next(t, c, data, s, step)
		return then.Weights[3], batch
	}
	// Seed, size and count alone say the batch; each epoch is one batch here.
	seen := map[int]int{}
	for step := range 40 {
		got, batch := mean(step, []int{most, most, -most})
		want := 715827882
		// At last most less most, where the one below 0 comes behind the others.
		if batch[2] == 2 {
			want = 0
		}
		if got != want {
			t.Errorf("Next at %d, batch %v: %d, want %d", step, batch, got, want)
		}
		seen[want]++
		if got, _ := mean(step, []int{1, 1, 0}); got != 1 {
			t.Errorf("Next at %d of 1, 1, 0: %d", step, got)
		}
		if got, _ := mean(step, []int{1, 0, 0}); got != 0 {
			t.Errorf("Next at %d of 1, 0, 0: %d", step, got)
		}
	}
	if len(seen) != 2 {
		t.Errorf("one order only: %v", seen)
	}
}

// P15: halves are rounded to the even one, behind the sum.
func TestMeansRounded(t *testing.T) {
	c := api.Config{In: 1, Hidden: 1, Out: 1, Batch: 2, Steps: 1, Rate: one}
	s := api.State{Weights: make([]int, 4), Moves: make([]int, 4)}
	for _, x := range []struct{ a, b, want int }{
		{1, 0, 0}, {1, 1, 1}, {3, 0, 2}, {1, 2, 2}, {5, 0, 2}, {-1, 0, 0}, {-3, 0, -2}, {-5, 0, -2}, {7, -2, 2}, {9, -2, 4},
	} {
		data := []api.Example{{In: []int{0}, Out: []int{x.a}}, {In: []int{0}, Out: []int{x.b}}}
		then, _, _ := next(t, c, data, s, 0)
		if got := then.Weights[3]; got != x.want {
			t.Errorf("the mean of %d and %d = %d, want %d", x.a, x.b, got, x.want)
		}
	}
}

// P15: the mean is what is clipped, not what it is made of, nor the sum.
func TestMeanIsClipped(t *testing.T) {
	s := api.State{Weights: make([]int, 4), Moves: make([]int, 4)}
	data := []api.Example{{In: []int{0}, Out: []int{8 * one}}, {In: []int{0}, Out: []int{-4 * one}}}
	for _, x := range []struct{ clip, want int }{
		{0, 2 * one}, {3 * one, 2 * one}, {2 * one, 2 * one}, {one, one}, {one / 2, one / 2},
	} {
		c := api.Config{In: 1, Hidden: 1, Out: 1, Batch: 2, Steps: 1, Rate: one, Clip: x.clip}
		then, _, _ := next(t, c, data, s, 0)
		if got := then.Weights[3]; got != x.want {
			t.Errorf("clipped at %d: %d, want %d", x.clip, got, x.want)
		}
	}
}

// P15: one example may come more than once in a batch.
func TestOneExample(t *testing.T) {
	data := []api.Example{{In: []int{one}, Out: []int{2 * one}}}
	c := api.Config{In: 1, Hidden: 1, Out: 1, Seed: 1, Batch: 1, Steps: 40, Rate: 6554}
	alone := run(t, c, data, 40)
	c.Batch = 8
	for step, s := range run(t, c, data, 40) {
		if !same(s, alone[step]) {
			t.Errorf("state %d of a batch of one example = %v, want %v", step, s, alone[step])
		}
	}
	_, batch, _ := next(t, c, data, alone[0], 0)
	if !slices.Equal(batch, make([]int, 8)) {
		t.Errorf("a batch of one example: %v", batch)
	}
}

// P15: states with lists that are too short or too long, ahead of a wrong step.
func TestWrongStates(t *testing.T) {
	r := rand.New(rand.NewSource(13))
	eachShape(r, func(c api.Config) {
		data, s, n := some(r, c), state(r, c), count(c)
		for _, step := range []int{0, c.Steps - 1, -1, c.Steps} {
			refusedNext(t, c, data, api.State{}, step, api.ErrForm)
			for _, k := range []int{0, 1, n - 1, n + 1, 2 * n, 200, 201, 5000} {
				wrong := make([]int, k)
				refusedNext(t, c, data, api.State{Weights: wrong, Moves: s.Moves}, step, api.ErrForm)
				refusedNext(t, c, data, api.State{Weights: s.Weights, Moves: wrong}, step, api.ErrForm)
				refusedNext(t, c, data, api.State{Weights: wrong, Moves: wrong}, step, api.ErrForm)
			}
			for i := range n {
				x := beyond()[r.Intn(5)]
				wrong := copyOf(s)
				wrong.Weights[i] = x
				refusedNext(t, c, data, wrong, step, api.ErrForm)
				wrong = copyOf(s)
				wrong.Moves[i] = x
				refusedNext(t, c, data, wrong, step, api.ErrForm)
			}
		}
	})
}

// P15: every step of every course, and those that are out of its bounds; Run
// has one number more.
func TestWrongSteps(t *testing.T) {
	r := rand.New(rand.NewSource(14))
	for steps := 1; steps <= api.MaxSteps; steps++ {
		c := config(r)
		c.Steps = steps
		data, s := some(r, c), state(r, c)
		for step := range steps {
			next(t, c, data, s, step)
		}
		for _, step := range outside(0, steps-1) {
			refusedNext(t, c, data, s, step, api.ErrArg)
		}
		for _, n := range outside(0, steps) {
			refusedRun(t, c, data, n, api.ErrArg)
		}
	}
}

// P15: Run has Start, and each one's Next, for as many steps as it is asked.
func TestRunByWords(t *testing.T) {
	r := rand.New(rand.NewSource(15))
	for n := range api.MaxSteps + 1 {
		for range 3 {
			c := config(r)
			c.Steps = max(n, c.Steps)
			data := some(r, c)
			all, s := run(t, c, data, n), startWords(c)
			if len(all) != n+1 {
				t.Fatalf("Run of %d steps has %d states", n, len(all))
			}
			for step := range n {
				if !same(all[step], s) {
					t.Errorf("Run of %+v, state %d = %v, want %v", c, step, all[step], s)
				}
				s, _, _ = nextWords(c, data, s, step)
			}
			if !same(all[n], s) {
				t.Errorf("Run of %+v, the last of %d = %v, want %v", c, n, all[n], s)
			}
		}
	}
}

// P15: a longer course begins as a shorter one; if the rate stays, also one of
// which more steps are meant to be taken.
func TestLongerBeginsAsShorter(t *testing.T) {
	r := rand.New(rand.NewSource(16))
	for range 10 {
		c := config(r)
		data := some(r, c)
		all := run(t, c, data, c.Steps)
		for n := range c.Steps + 1 {
			if part := run(t, c, data, n); !slices.EqualFunc(part, all[:n+1], same) {
				t.Errorf("Run of %+v, %d steps, begins otherwise", c, n)
			}
		}
		c.Decay = api.RConst
		short, long := c, c
		long.Steps = api.MaxSteps
		if a, b := run(t, short, data, c.Steps), run(t, long, data, c.Steps); !slices.EqualFunc(a, b, same) {
			t.Errorf("Run of %+v and of %+v: other states", short, long)
		}
	}
}

// roomy is a list of the same numbers with room behind it, and that room.
func roomy(l []int) ([]int, []int) {
	whole := append(slices.Clone(l), 91, 92, 93)
	return whole[:len(l)], whole[len(l):]
}

// spoil writes over a list, the room behind it included.
func spoil(l []int) {
	l = l[:cap(l)]
	for i := range l {
		l[i] = 77
	}
}

// handed is what is handed in, with room behind each list.
type handed struct {
	data  []api.Example
	state api.State
	rooms [][]int
	last  []api.Example
}

func hand(data []api.Example, s api.State) handed {
	var h handed
	take := func(l []int) []int {
		l, room := roomy(l)
		h.rooms = append(h.rooms, room)
		return l
	}
	h.data = make([]api.Example, len(data), len(data)+2)
	h.last = h.data[len(data) : len(data)+2]
	for i, x := range data {
		h.data[i] = api.Example{In: take(x.In), Out: take(x.Out)}
	}
	h.state = api.State{Weights: take(s.Weights), Moves: take(s.Moves)}
	return h
}

func sameExample(a, b api.Example) bool {
	return slices.Equal(a.In, b.In) && slices.Equal(a.Out, b.Out)
}

// untouched: is all that was handed in, and the room behind it, as it was?
func (h handed) untouched(data []api.Example, s api.State) bool {
	for _, room := range h.rooms {
		if !slices.Equal(room, []int{91, 92, 93}) {
			return false
		}
	}
	for _, x := range h.last {
		if x.In != nil || x.Out != nil {
			return false
		}
	}
	return slices.EqualFunc(h.data, data, sameExample) && same(h.state, s)
}

func (h handed) spoil() {
	for _, x := range h.data {
		spoil(x.In)
		spoil(x.Out)
	}
	spoil(h.state.Weights)
	spoil(h.state.Moves)
}

// P2: Next changes nothing that is handed in, nor the room behind it; what it
// tells shares nothing with that, nor one of its lists with another.
func TestNextMemory(t *testing.T) {
	r := rand.New(rand.NewSource(17))
	eachShape(r, func(c api.Config) {
		for how := range 2 {
			c.How = how
			data, s := some(r, c), state(r, c)
			h := hand(data, s)
			then, batch, _ := next(t, c, h.data, h.state, 0)
			want, wantBatch, _ := nextWords(c, data, s, 0)
			if !h.untouched(data, s) {
				t.Errorf("Next of %+v changes what is handed in", c)
			}
			h.spoil()
			if !same(then, want) || !slices.Equal(batch, wantBatch) {
				t.Errorf("Next of %+v keeps what is handed in", c)
			}
			spoil(batch)
			if !same(then, want) {
				t.Errorf("Next of %+v: the batch shares memory", c)
			}
			spoil(then.Weights)
			if !slices.Equal(then.Moves, want.Moves) {
				t.Errorf("Next of %+v: weights and moves share memory", c)
			}
			spoil(then.Moves)
			if again, batch, _ := next(t, c, data, s, 0); !same(again, want) || !slices.Equal(batch, wantBatch) {
				t.Errorf("Next of %+v, asked again, is another", c)
			}
		}
	})
}

// P2: no list of a course, the room behind it included, shares memory with
// another one, or with the examples.
func TestRunMemory(t *testing.T) {
	r := rand.New(rand.NewSource(18))
	for k := range 20 {
		c := config(r)
		c.Steps, c.How = 6, k%2
		data := some(r, c)
		h := hand(data, api.State{})
		all := run(t, c, h.data, 6)
		if !h.untouched(data, api.State{}) {
			t.Errorf("Run of %+v changes what is handed in", c)
		}
		h.spoil()
		kept := run(t, c, data, 6)
		for i := range all {
			spoil(all[i].Weights)
			if !slices.Equal(all[i].Moves, kept[i].Moves) || !slices.EqualFunc(all[i+1:], kept[i+1:], same) {
				t.Errorf("Run of %+v: the weights of state %d share memory", c, i)
			}
			spoil(all[i].Moves)
			if !slices.EqualFunc(all[i+1:], kept[i+1:], same) {
				t.Errorf("Run of %+v: the moves of state %d share memory", c, i)
			}
		}
		if !slices.EqualFunc(run(t, c, data, 6), kept, same) {
			t.Errorf("Run of %+v, asked again, is another", c)
		}
	}
}

// P2: a start shares nothing with another one, nor its weights with its moves.
func TestStartMemory(t *testing.T) {
	r := rand.New(rand.NewSource(19))
	eachShape(r, func(c api.Config) {
		a, b, want := start(t, c), start(t, c), startWords(c)
		spoil(a.Weights)
		if !slices.Equal(a.Moves, want.Moves) || !same(b, want) {
			t.Errorf("Start of %+v: the weights share memory", c)
		}
		spoil(a.Moves)
		if !same(b, want) || !same(start(t, c), want) {
			t.Errorf("Start of %+v: the moves share memory", c)
		}
	})
}

// P2: one list may be handed in as weights and as moves, and as each list of
// each example.
func TestOneListForAll(t *testing.T) {
	r := rand.New(rand.NewSource(20))
	for range 50 {
		c := config(r)
		c.Out = c.In
		x, l := list(r, c.In), list(r, count(c))
		kept, keptX := slices.Clone(l), slices.Clone(x)
		data := slices.Repeat([]api.Example{{In: x, Out: x}}, 3)
		s := api.State{Weights: l, Moves: l}
		then, _, _ := next(t, c, data, s, 0)
		if want, _, _ := nextWords(c, data, s, 0); !same(then, want) || !slices.Equal(l, kept) || !slices.Equal(x, keptX) {
			t.Errorf("Next of %+v from %v = %v, want %v", c, kept, then, want)
		}
	}
}

// P2: nothing is kept, so calls at the same time, on the same examples, and
// behind wrong ones, answer as calls alone.
func TestNothingIsKept(t *testing.T) {
	r := rand.New(rand.NewSource(21))
	c := config(r)
	c.Steps = 10
	data := some(r, c)
	want := run(t, c, data, 10)
	var group sync.WaitGroup
	for k := range 8 {
		group.Go(func() {
			r := rand.New(rand.NewSource(int64(k)))
			for range 6 {
				step := r.Intn(10)
				train.Next(c, data, want[step], -1)
				then, _, _, e := train.Next(c, data, want[step], step)
				if e != api.OK || !same(then, want[step+1]) {
					t.Errorf("Next at %d = %v, %d", step, then, e)
				}
				train.Run(c, nil, 3)
				all, e := train.Run(c, data, step)
				if e != api.OK || !slices.EqualFunc(all, want[:step+1], same) {
					t.Errorf("Run of %d steps = %v, %d", step, all, e)
				}
				if s, e := train.Start(c); e != api.OK || !same(s, want[0]) {
					t.Errorf("Start = %v, %d", s, e)
				}
			}
		})
	}
	group.Wait()
}
