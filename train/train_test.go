package train_test

import (
	"math"
	"math/rand"
	"slices"
	"testing"

	"lessonbook/api"
	"lessonbook/digest"
	"lessonbook/draw"
	"lessonbook/fix"
	"lessonbook/optim"
	"lessonbook/pupil"
	"lessonbook/train"
)

const (
	one  = api.One
	most = api.Most
)

// field is one number of a config, and its bounds.
type field struct {
	name      string
	of        func(c *api.Config) *int
	low, high int
}

func fields() []field {
	return []field{
		{"In", func(c *api.Config) *int { return &c.In }, 1, 4},
		{"Hidden", func(c *api.Config) *int { return &c.Hidden }, 1, 4},
		{"Out", func(c *api.Config) *int { return &c.Out }, 1, 4},
		{"Batch", func(c *api.Config) *int { return &c.Batch }, 1, 8},
		{"Steps", func(c *api.Config) *int { return &c.Steps }, 1, 40},
		{"Rate", func(c *api.Config) *int { return &c.Rate }, 0, 1<<31 - 1},
		{"Decay", func(c *api.Config) *int { return &c.Decay }, 0, 1},
		{"How", func(c *api.Config) *int { return &c.How }, 0, 1},
		{"Keep", func(c *api.Config) *int { return &c.Keep }, 0, 65536},
		{"Clip", func(c *api.Config) *int { return &c.Clip }, 0, 1<<31 - 1},
	}
}

// outside are numbers that no bound from low to high lets go.
func outside(low, high int) []int {
	return []int{low - 1, low - 2, -high - 1, high + 1, high + 2, 1 << 32, 1<<32 + low, -1 << 32, math.MaxInt, math.MinInt}
}

// beyond are numbers that are out of bounds as numbers with a fixed point.
func beyond() []int { return []int{-most - 1, most + 1, 1 << 32, math.MinInt, math.MaxInt} }

// config is one that fits, with each number anywhere in its bounds, and often
// at a rate and a clip with which a course does not run off at once.
func config(r *rand.Rand) api.Config {
	c := api.Config{Seed: r.Uint64()}
	for _, f := range fields() {
		switch r.Intn(4) {
		case 0:
			*f.of(&c) = f.low
		case 1:
			*f.of(&c) = f.high
		default:
			*f.of(&c) = f.low + r.Intn(f.high-f.low+1)
		}
	}
	if r.Intn(2) == 0 {
		c.Rate = r.Intn(one / 4)
		c.Clip = r.Intn(2) * r.Intn(2*one)
	}
	return c
}

// eachShape asks f of a config with every number of inputs, hidden ones and
// outputs.
func eachShape(r *rand.Rand, f func(c api.Config)) {
	for in := 1; in <= api.MaxSide; in++ {
		for hidden := 1; hidden <= api.MaxSide; hidden++ {
			for out := 1; out <= api.MaxSide; out++ {
				c := config(r)
				c.In, c.Hidden, c.Out = in, hidden, out
				f(c)
			}
		}
	}
}

// count is how many numbers a pupil of the config has: those of W1, B1, W2, B2.
func count(c api.Config) int { return c.Hidden*c.In + c.Hidden + c.Out*c.Hidden + c.Out }

// number is one from -most to most, mostly a small one.
func number(r *rand.Rand) int {
	switch r.Intn(12) {
	case 0:
		return []int{most, -most, most - 1, 1 - most, 0}[r.Intn(5)]
	case 1:
		return r.Intn(2*most+1) - most
	case 2:
		return r.Intn(21) - 10
	}
	return r.Intn(4*one) - 2*one
}

func list(r *rand.Rand, n int) []int {
	l := make([]int, n)
	for i := range l {
		l[i] = number(r)
	}
	return l
}

// examples are n that fit the config.
func examples(r *rand.Rand, c api.Config, n int) []api.Example {
	data := make([]api.Example, n)
	for i := range data {
		data[i] = api.Example{In: list(r, c.In), Out: list(r, c.Out)}
	}
	return data
}

// some are examples that fit the config, however many there may be.
func some(r *rand.Rand, c api.Config) []api.Example {
	return examples(r, c, 1+r.Intn(api.MaxData))
}

// state is one that fits the config.
func state(r *rand.Rand, c api.Config) api.State {
	return api.State{Weights: list(r, count(c)), Moves: list(r, count(c))}
}

func same(a, b api.State) bool {
	return slices.Equal(a.Weights, b.Weights) && slices.Equal(a.Moves, b.Moves)
}

// nothing: is that the zero value of a state?
func nothing(s api.State) bool { return s.Weights == nil && s.Moves == nil }

func copyOf(s api.State) api.State {
	return api.State{Weights: slices.Clone(s.Weights), Moves: slices.Clone(s.Moves)}
}

func start(t *testing.T, c api.Config) api.State {
	t.Helper()
	s, e := train.Start(c)
	if e != api.OK {
		t.Fatalf("Start of %+v: %d", c, e)
	}
	return s
}

func next(t *testing.T, c api.Config, data []api.Example, s api.State, step int) (api.State, []int, int) {
	t.Helper()
	then, batch, rate, e := train.Next(c, data, s, step)
	if e != api.OK {
		t.Fatalf("Next of %+v from %v at %d: %d", c, s, step, e)
	}
	return then, batch, rate
}

func run(t *testing.T, c api.Config, data []api.Example, n int) []api.State {
	t.Helper()
	all, e := train.Run(c, data, n)
	if e != api.OK {
		t.Fatalf("Run of %+v, %d steps: %d", c, n, e)
	}
	return all
}

// startWords is Start of P14, number by number.
func startWords(c api.Config) api.State {
	var s api.State
	for i := range uint64(count(c)) {
		s.Weights = append(s.Weights, int(digest.Word(c.Seed, 1000+i)%131073)-65536)
		s.Moves = append(s.Moves, 0)
	}
	return s
}

// nextWords is Next of P15, told number by number between the layers below.
func nextWords(c api.Config, data []api.Example, s api.State, step int) (api.State, []int, int) {
	batch, _ := draw.Batch(c.Seed, c.Batch, len(data), step)
	var grads [][]int
	for _, k := range batch {
		m, _ := pupil.Shape(c.In, c.Hidden, c.Out, s.Weights)
		g, _ := pupil.Grad(m, data[k])
		l, _ := pupil.Flat(g)
		grads = append(grads, l)
	}
	var g []int
	for i := range count(c) {
		sum := 0
		for _, l := range grads {
			sum = fix.Add(sum, l[i])
		}
		part, _ := fix.Div(sum, c.Batch*one)
		g = append(g, part)
	}
	g, _ = optim.Clip(g, c.Clip)
	rate, _ := optim.Rate(c, step)
	then, _ := optim.Step(c, s, g, rate)
	return then, batch, rate
}

// P14: every shape, with every number of examples that there may be.
func TestCheckTakes(t *testing.T) {
	r := rand.New(rand.NewSource(1))
	eachShape(r, func(c api.Config) {
		for n := 1; n <= 16; n++ {
			if e := train.Check(c, examples(r, c, n)); e != api.OK {
				t.Errorf("Check of %+v with %d examples = %d", c, n, e)
			}
		}
	})
}

// P14: numbers of examples at both bounds, and twice the same example.
func TestCheckTakesBounds(t *testing.T) {
	r := rand.New(rand.NewSource(2))
	eachShape(r, func(c api.Config) {
		for _, n := range []int{most, -most, 0} {
			x := api.Example{In: slices.Repeat([]int{n}, c.In), Out: slices.Repeat([]int{n}, c.Out)}
			if e := train.Check(c, slices.Repeat([]api.Example{x}, 16)); e != api.OK {
				t.Errorf("Check of %+v with %v = %d", c, x, e)
			}
		}
	})
}

// refused: do Check, Next and Run refuse that config with these examples, with
// nothing beside the error, and whatever else is wrong?
func refused(t *testing.T, c api.Config, data []api.Example, s api.State, want api.Errno) {
	t.Helper()
	if e := train.Check(c, data); e != want {
		t.Errorf("Check of %+v with %v = %d, want %d", c, data, e, want)
	}
	for _, n := range []int{0, -1, 41} {
		refusedNext(t, c, data, s, n, want)
		refusedNext(t, c, data, api.State{}, n, want)
		refusedRun(t, c, data, n, want)
	}
}

func refusedNext(t *testing.T, c api.Config, data []api.Example, s api.State, step int, want api.Errno) {
	t.Helper()
	then, batch, rate, e := train.Next(c, data, s, step)
	if !nothing(then) || batch != nil || rate != 0 || e != want {
		t.Errorf("Next of %+v from %v at %d = %v, %v, %d, %d, want %d", c, s, step, then, batch, rate, e, want)
	}
}

func refusedRun(t *testing.T, c api.Config, data []api.Example, n int, want api.Errno) {
	t.Helper()
	if all, e := train.Run(c, data, n); all != nil || e != want {
		t.Errorf("Run of %+v, %d steps = %v, %d, want %d", c, n, all, e, want)
	}
}

// P14, P15: no example, or too many of them; that goes ahead of their form.
func TestWrongCounts(t *testing.T) {
	r := rand.New(rand.NewSource(3))
	eachShape(r, func(c api.Config) {
		s := state(r, c)
		refused(t, c, nil, s, api.ErrArg)
		refused(t, c, []api.Example{}, s, api.ErrArg)
		refused(t, c, examples(r, c, 5)[:0], s, api.ErrArg)
		refused(t, c, examples(r, c, 17), s, api.ErrLarge)
		refused(t, c, make([]api.Example, 17), s, api.ErrLarge)
		refused(t, c, make([]api.Example, 5000), s, api.ErrLarge)
		refused(t, c, make([]api.Example, 16), s, api.ErrForm)
		refused(t, c, make([]api.Example, 1), s, api.ErrForm)
	})
}

// P14, P15: one example of some with too few or too many numbers.
func TestWrongLengths(t *testing.T) {
	r := rand.New(rand.NewSource(4))
	eachShape(r, func(c api.Config) {
		s, data := state(r, c), some(r, c)
		for n := range 7 {
			for _, n := range []int{n, 200, 201} {
				k := r.Intn(len(data))
				if n != c.In {
					wrong := slices.Clone(data)
					wrong[k].In = make([]int, n)
					refused(t, c, wrong, s, api.ErrForm)
				}
				if n != c.Out {
					wrong := slices.Clone(data)
					wrong[k].Out = make([]int, n)
					refused(t, c, wrong, s, api.ErrForm)
				}
			}
		}
		if c.In != c.Out {
			wrong := slices.Clone(data)
			wrong[0].In, wrong[0].Out = data[0].Out, data[0].In
			refused(t, c, wrong, s, api.ErrForm)
		}
	})
}

// P14, P15: a number that is out of bounds, at each place of each example, also
// of one that no step takes.
func TestWrongNumbers(t *testing.T) {
	r := rand.New(rand.NewSource(5))
	eachShape(r, func(c api.Config) {
		s, data := state(r, c), some(r, c)
		for k := range data {
			n := beyond()[r.Intn(5)]
			for i := range c.In {
				wrong := slices.Clone(data)
				wrong[k].In = slices.Clone(data[k].In)
				wrong[k].In[i] = n
				refused(t, c, wrong, s, api.ErrForm)
			}
			for i := range c.Out {
				wrong := slices.Clone(data)
				wrong[k].Out = slices.Clone(data[k].Out)
				wrong[k].Out[i] = n
				refused(t, c, wrong, s, api.ErrForm)
			}
		}
	})
	c := api.Config{In: 1, Hidden: 1, Out: 1, Batch: 1, Steps: 1}
	for _, n := range beyond() {
		refused(t, c, []api.Example{{In: []int{n}, Out: []int{0}}}, start(t, c), api.ErrForm)
		refused(t, c, []api.Example{{In: []int{0}, Out: []int{n}}}, start(t, c), api.ErrForm)
	}
}

// P14, P15: a wrong config goes ahead of wrong examples.
func TestWrongConfigs(t *testing.T) {
	r := rand.New(rand.NewSource(6))
	for _, f := range fields() {
		for _, n := range outside(f.low, f.high) {
			c := config(r)
			s, data := state(r, c), some(r, c)
			*f.of(&c) = n
			refused(t, c, data, s, api.ErrArg)
			refused(t, c, nil, s, api.ErrArg)
			refused(t, c, make([]api.Example, 17), s, api.ErrArg)
			refused(t, c, make([]api.Example, 1), s, api.ErrArg)
			if got, e := train.Start(c); !nothing(got) || e != api.ErrArg {
				t.Errorf("Start of %+v = %v, %d", c, got, e)
			}
		}
	}
	if got, e := train.Start(api.Config{}); !nothing(got) || e != api.ErrArg {
		t.Errorf("Start of nothing = %v, %d", got, e)
	}
}

// P14: starts reckoned elsewhere.
func TestStartByNumbers(t *testing.T) {
	for _, x := range []struct {
		in, hidden, out int
		seed            uint64
		want            []int
	}{
		{1, 1, 1, 1, []int{-38703, 49596, 16123, -62188}},
		{1, 1, 1, 0, []int{-52912, -21346, 42515, 31649}},
		{2, 1, 2, math.MaxUint64, []int{46603, -29497, 65072, -64560, -31492, -3468, -14704}},
		{1, 3, 1, api.P, []int{-52912, -21346, 42515, 31649, -451, 5300, -62183, 25767, -60789, 49492}},
		{4, 4, 4, 12345, []int{
			65505, -26313, 720, 18475, 15738, -57713, 9839, -51097, 5281, -7541, -24895, -41522, 44036, 50581,
			-14515, -50564, 59947, -56115, 1600, 58521, 45113, -49648, 19687, -1348, 39972, -3391, -24314, 63310,
			-43681, -65317, -23660, -61669, 8262, -42613, 40834, -45761, -41325, -17773, -63053, 42020}},
	} {
		c := api.Config{In: x.in, Hidden: x.hidden, Out: x.out, Seed: x.seed, Batch: 1, Steps: 1}
		want := api.State{Weights: x.want, Moves: make([]int, len(x.want))}
		if got := start(t, c); !same(got, want) {
			t.Errorf("Start of %+v = %v, want %v", c, got, want)
		}
	}
}

// P14: every shape; nothing but the shape and the seed is in a start.
func TestStartByWords(t *testing.T) {
	r := rand.New(rand.NewSource(7))
	eachShape(r, func(c api.Config) {
		for _, seed := range []uint64{0, 1, api.P - 1, api.P, math.MaxUint64, r.Uint64()} {
			other := config(r)
			other.In, other.Hidden, other.Out, other.Seed = c.In, c.Hidden, c.Out, seed
			if got, want := start(t, other), startWords(other); !same(got, want) {
				t.Errorf("Start of %+v = %v, want %v", other, got, want)
			}
		}
	})
}

// P14: a start is from -One to One, and its pupil one that pupil lets go.
func TestStartIsAPupil(t *testing.T) {
	r := rand.New(rand.NewSource(8))
	eachShape(r, func(c api.Config) {
		s := start(t, c)
		if _, e := pupil.Shape(c.In, c.Hidden, c.Out, s.Weights); e != api.OK {
			t.Errorf("Shape of the start of %+v: %d", c, e)
		}
		if slices.Max(s.Weights) > one || slices.Min(s.Weights) < -one {
			t.Errorf("Start of %+v = %v", c, s)
		}
	})
}
