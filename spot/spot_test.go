package spot_test

import (
	"math"
	"math/rand"
	"slices"
	"testing"

	"lessonbook/api"
	"lessonbook/journal"
	"lessonbook/spot"
	"lessonbook/train"
)

const (
	one  = api.One
	most = api.Most
	full = math.MaxUint64
)

// field is one number of a config, and its bounds.
type field struct {
	of        func(c *api.Config) *int
	low, high int
}

func fields() []field {
	return []field{
		{func(c *api.Config) *int { return &c.In }, 1, 4},
		{func(c *api.Config) *int { return &c.Hidden }, 1, 4},
		{func(c *api.Config) *int { return &c.Out }, 1, 4},
		{func(c *api.Config) *int { return &c.Batch }, 1, 8},
		{func(c *api.Config) *int { return &c.Steps }, 1, 40},
		{func(c *api.Config) *int { return &c.Rate }, 0, 1<<31 - 1},
		{func(c *api.Config) *int { return &c.Decay }, 0, 1},
		{func(c *api.Config) *int { return &c.How }, 0, 1},
		{func(c *api.Config) *int { return &c.Keep }, 0, 65536},
		{func(c *api.Config) *int { return &c.Clip }, 0, 1<<31 - 1},
	}
}

// outside are numbers that no bound from low to high lets go.
func outside(low, high int) []int {
	return []int{low - 1, low - 2, -high - 1, high + 1, high + 2, 1 << 32, 1<<32 + low, -1 << 32, math.MaxInt, math.MinInt}
}

// config is one that fits, with each number anywhere in its bounds.
func config(r *rand.Rand) api.Config {
	c := api.Config{Seed: r.Uint64()}
	for _, f := range fields() {
		switch r.Intn(4) {
		case 0:
			*f.of(&c) = f.low
		case 1:
			*f.of(&c) = f.high
		default:
			*f.of(&c) = f.low + r.Intn(f.high-f.low+1)
		}
	}
	// Often one with which a course does not run off at once.
	if r.Intn(2) == 0 {
		c.Rate = r.Intn(one / 4)
		c.Clip = r.Intn(2) * r.Intn(2*one)
	}
	return c
}

// eachShape asks f of a config with every number of inputs, hidden ones and
// outputs.
func eachShape(r *rand.Rand, f func(c api.Config)) {
	for in := 1; in <= api.MaxSide; in++ {
		for hidden := 1; hidden <= api.MaxSide; hidden++ {
			for out := 1; out <= api.MaxSide; out++ {
				c := config(r)
				c.In, c.Hidden, c.Out = in, hidden, out
				f(c)
			}
		}
	}
}

func list(r *rand.Rand, n int) []int {
	l := make([]int, n)
	for i := range l {
		l[i] = r.Intn(4*one) - 2*one
		if r.Intn(10) == 0 {
			l[i] = []int{most, -most, 0}[r.Intn(3)]
		}
	}
	return l
}

// some are examples that fit the config, however many there may be.
func some(r *rand.Rand, c api.Config) []api.Example {
	data := make([]api.Example, 1+r.Intn(api.MaxData))
	for i := range data {
		data[i] = api.Example{In: list(r, c.In), Out: list(r, c.Out)}
	}
	return data
}

// count is how many numbers a pupil of the config has.
func count(c api.Config) int { return c.In*c.Hidden + c.Hidden + c.Hidden*c.Out + c.Out }

// state is any one that fits the config.
func state(r *rand.Rand, c api.Config) api.State {
	return api.State{Weights: list(r, count(c)), Moves: list(r, count(c))}
}

func same(a, b api.State) bool {
	return slices.Equal(a.Weights, b.Weights) && slices.Equal(a.Moves, b.Moves)
}

func records(t *testing.T, c api.Config, data []api.Example, n int) []api.Record {
	t.Helper()
	l, e := journal.Make(c, data, n)
	if e != api.OK {
		t.Fatalf("Make of %+v, %d records: %d", c, n, e)
	}
	return l
}

// proof is one step reckoned elsewhere: the state ahead of it, that one's root,
// and what comes of it.
type proof struct {
	s    api.State
	root uint64
	r    api.Record
}

// course is one whose steps, from the first on, were reckoned elsewhere.
type course struct {
	c     api.Config
	data  []api.Example
	steps []proof
}

func two() []api.Example {
	return []api.Example{{In: []int{one}, Out: []int{2 * one}}, {In: []int{2 * one}, Out: []int{4 * one}}}
}

func three() []api.Example {
	return []api.Example{
		{In: []int{one, -one}, Out: []int{one / 2}},
		{In: []int{3 * one, 7}, Out: []int{-one}},
		{In: []int{-20000, 40001}, Out: []int{99999}}}
}

func plain() api.Config {
	return api.Config{In: 1, Hidden: 1, Out: 1, Seed: 1, Batch: 1, Steps: 3, Rate: 6554}
}

func moving() api.Config {
	return api.Config{In: 1, Hidden: 2, Out: 1, Seed: 5, Batch: 3, Steps: 4, Rate: 6554, Decay: 1, How: 1, Keep: 58982}
}

func clipped() api.Config {
	return api.Config{In: 2, Hidden: 2, Out: 1, Seed: 77, Batch: 2, Steps: 5, Rate: 13107, Decay: 1, Keep: one, Clip: one}
}

func reckoned() []course {
	return []course{
		{plain(), two(), []proof{
			{api.State{Weights: []int{-38703, 49596, 16123, -62188}, Moves: make([]int, 4)}, 1366924279814396559,
				api.Record{Step: 0, Batch: []int{0}, Rate: 6554, Root: 1687146225227360379}},
			{api.State{Weights: []int{-34014, 54285, 19291, -43129}, Moves: make([]int, 4)}, 1687146225227360379,
				api.Record{Step: 1, Batch: []int{1}, Rate: 6554, Root: 1444372270118958408}},
			{api.State{Weights: []int{-34014, 54285, 19291, -12600}, Moves: make([]int, 4)}, 1444372270118958408,
				api.Record{Step: 2, Batch: []int{1}, Rate: 6554, Root: 1581233537430261997}},
		}},
		{moving(), two(), []proof{
			{api.State{Weights: []int{3701, -5130, -29624, 60548, -24187, 37199, -18012}, Moves: make([]int, 7)}, 1427750483753705578,
				api.Record{Step: 0, Batch: []int{1, 0, 1}, Rate: 6554, Root: 181964385764481772}},
			{api.State{Weights: []int{3701, 16139, -29624, 72296, -24187, 53387, 2684}, Moves: []int{0, -212680, 0, -117468, 0, -161869, -206951}}, 181964385764481772,
				api.Record{Step: 1, Batch: []int{0, 1, 0}, Rate: 4916, Root: 1423175283162880147}},
			{api.State{Weights: []int{3701, 39892, -29624, 86071, -24187, 75070, 23831}, Moves: []int{0, -316656, 0, -183643, 0, -289065, -281910}}, 1423175283162880147,
				api.Record{Step: 2, Batch: []int{0, 1, 0}, Rate: 3277, Root: 34295056373006596}},
			{api.State{Weights: []int{3701, 54573, -29624, 93844, -24187, 87744, 36088}, Moves: []int{0, -293605, 0, -155441, 0, -253457, -245129}}, 34295056373006596,
				api.Record{Step: 3, Batch: []int{1, 1, 0}, Rate: 1638, Root: 1613712204207978072}},
		}},
		{clipped(), three(), []proof{
			{api.State{Weights: []int{-30443, 61776, -48622, -36933, 22662, 57027, 3445, -12497, -35498}, Moves: make([]int, 9)}, 2220709867574287245,
				api.Record{Step: 0, Batch: []int{0, 2}, Rate: 13107, Root: 1585774676096776142}},
			{api.State{Weights: []int{-30579, 62048, -49009, -37039, 23108, 54528, 12465, -2914, -22391}, Moves: make([]int, 9)}, 1585774676096776142,
				api.Record{Step: 1, Batch: []int{1, 1}, Rate: 10486, Root: 1837869061255020504}},
			{api.State{Weights: []int{-30579, 62048, -49009, -37039, 23108, 54528, 12465, -2914, -29294}, Moves: make([]int, 9)}, 1837869061255020504,
				api.Record{Step: 2, Batch: []int{0, 2}, Rate: 7864, Root: 1867412801139004318}},
			{api.State{Weights: []int{-30875, 62640, -49063, -37055, 24078, 54178, 17937, 2529, -21430}, Moves: make([]int, 9)}, 1867412801139004318,
				api.Record{Step: 3, Batch: []int{0, 1}, Rate: 5243, Root: 1551849663534171968}},
			{api.State{Weights: []int{-30875, 62640, -48982, -37136, 24078, 54259, 17937, 3882, -21091}, Moves: make([]int, 9)}, 1551849663534171968,
				api.Record{Step: 4, Batch: []int{2, 0}, Rate: 2621, Root: 1060192443678249508}},
		}},
	}
}

// longest is the last step of a course that is as long as one may be, reckoned
// elsewhere.
func longest() (api.Config, proof) {
	c := moving()
	c.Steps = 40
	s := api.State{
		Weights: []int{3701, 79799, -29624, -28290, -24187, 32980, 158146},
		Moves:   []int{0, -54827, 0, 44038, 0, -122435, 66114}}
	return c, proof{s, 1463621843492352194, api.Record{Step: 39, Batch: []int{1, 0, 1}, Rate: 164, Root: 781817748937236266}}
}

func prove(t *testing.T, c api.Config, data []api.Example, step int) api.State {
	t.Helper()
	s, e := spot.Prove(c, data, step)
	if e != api.OK {
		t.Fatalf("Prove of %+v with %v at %d: %d", c, data, step, e)
	}
	return s
}

// P21: states reckoned elsewhere.
func TestProveByNumbers(t *testing.T) {
	for _, x := range reckoned() {
		for step, want := range x.steps {
			if got := prove(t, x.c, x.data, step); !same(got, want.s) {
				t.Errorf("Prove of %+v at %d = %v, want %v", x.c, step, got, want.s)
			}
		}
	}
	c, want := longest()
	if got := prove(t, c, two(), 39); !same(got, want.s) {
		t.Errorf("Prove of %+v at 39 = %v, want %v", c, got, want.s)
	}
}

// P21: every shape, at every step: from the start on, as many steps as are
// ahead.
func TestProveByWords(t *testing.T) {
	r := rand.New(rand.NewSource(1))
	eachShape(r, func(c api.Config) {
		c.Steps = 1 + r.Intn(5)
		data := some(r, c)
		want, _ := train.Start(c)
		for step := range c.Steps {
			if got := prove(t, c, data, step); !same(got, want) {
				t.Errorf("Prove of %+v at %d = %v, want %v", c, step, got, want)
			}
			want, _, _, _ = train.Next(c, data, want, step)
		}
	})
}

// P21: every step of a course that is as long as one may be: the root of the
// record ahead is that of the state.
func TestProveOfTheLongest(t *testing.T) {
	r := rand.New(rand.NewSource(2))
	c := config(r)
	c.Steps = api.MaxSteps
	data := some(r, c)
	l := records(t, c, data, c.Steps)
	for step := 1; step < c.Steps; step++ {
		if got, e := journal.Root(prove(t, c, data, step)); e != api.OK || got != l[step-1].Root {
			t.Errorf("Root of Prove of %+v at %d = %d, %d, want %d", c, step, got, e, l[step-1].Root)
		}
	}
}

func refusedProve(t *testing.T, c api.Config, data []api.Example, step int, want api.Errno) {
	t.Helper()
	if got, e := spot.Prove(c, data, step); got.Weights != nil || got.Moves != nil || e != want {
		t.Errorf("Prove of %+v with %v at %d = %v, %d, want %d", c, data, step, got, e, want)
	}
}

// P21: steps that there are not, of courses of every length; the one behind the
// last one has a state ahead of it, but is none.
func TestProveOfWrongSteps(t *testing.T) {
	r := rand.New(rand.NewSource(3))
	for steps := 1; steps <= api.MaxSteps; steps++ {
		c := config(r)
		c.Steps = steps
		data := some(r, c)
		for _, step := range outside(0, steps-1) {
			refusedProve(t, c, data, step, api.ErrArg)
		}
		prove(t, c, data, steps-1)
	}
}

// P21: train.Check's errors, in their order, go ahead of that.
func TestProveChecks(t *testing.T) {
	r := rand.New(rand.NewSource(4))
	for _, step := range []int{0, -1, 40, 41, math.MaxInt} {
		for _, f := range fields() {
			for _, wrong := range outside(f.low, f.high) {
				c := config(r)
				data := some(r, c)
				*f.of(&c) = wrong
				refusedProve(t, c, data, step, api.ErrArg)
				refusedProve(t, c, make([]api.Example, 17), step, api.ErrArg)
				refusedProve(t, c, make([]api.Example, 1), step, api.ErrArg)
			}
		}
		c := config(r)
		data := some(r, c)
		refusedProve(t, api.Config{}, nil, step, api.ErrArg)
		refusedProve(t, c, nil, step, api.ErrArg)
		refusedProve(t, c, make([]api.Example, 17), step, api.ErrLarge)
		refusedProve(t, c, make([]api.Example, 16), step, api.ErrForm)
		data[len(data)-1].Out[0] = most + 1
		refusedProve(t, c, data, step, api.ErrForm)
		data[len(data)-1].Out = make([]int, c.Out+1)
		refusedProve(t, c, data, step, api.ErrForm)
	}
}
