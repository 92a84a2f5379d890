package optim_test

import (
	"math"
	"math/rand"
	"slices"
	"sync"
	"testing"

	"lessonbook/api"
	"lessonbook/fix"
	"lessonbook/optim"
)

const (
	one  = api.One
	most = api.Most
)

// field is one number of a config, and its bounds.
type field struct {
	name      string
	of        func(c *api.Config) *int
	low, high int
}

func fields() []field {
	return []field{
		{"In", func(c *api.Config) *int { return &c.In }, 1, 4},
		{"Hidden", func(c *api.Config) *int { return &c.Hidden }, 1, 4},
		{"Out", func(c *api.Config) *int { return &c.Out }, 1, 4},
		{"Batch", func(c *api.Config) *int { return &c.Batch }, 1, 8},
		{"Steps", func(c *api.Config) *int { return &c.Steps }, 1, 40},
		{"Rate", func(c *api.Config) *int { return &c.Rate }, 0, 1<<31 - 1},
		{"Decay", func(c *api.Config) *int { return &c.Decay }, 0, 1},
		{"How", func(c *api.Config) *int { return &c.How }, 0, 1},
		{"Keep", func(c *api.Config) *int { return &c.Keep }, 0, 65536},
		{"Clip", func(c *api.Config) *int { return &c.Clip }, 0, 1<<31 - 1},
	}
}

// outside are numbers that no bound from low to high lets go.
func outside(low, high int) []int {
	return []int{low - 1, low - 2, -high - 1, high + 1, high + 2, 1 << 32, 1<<32 + low, -1 << 32, 1 << 40, math.MaxInt, math.MinInt}
}

// small is the least config that Check must take.
func small() api.Config { return api.Config{In: 1, Hidden: 1, Out: 1, Batch: 1, Steps: 1} }

// config is one that Check must take, with each number anywhere in its bounds.
func config(r *rand.Rand) api.Config {
	c := api.Config{Seed: r.Uint64()}
	for _, f := range fields() {
		switch r.Intn(4) {
		case 0:
			*f.of(&c) = f.low
		case 1:
			*f.of(&c) = f.high
		default:
			*f.of(&c) = f.low + r.Intn(f.high-f.low+1)
		}
	}
	return c
}

// count is how many numbers a pupil of the config has: for each hidden one and
// each output as many as come in to it, and one more.
func count(c api.Config) int { return c.Hidden*(c.In+1) + c.Out*(c.Hidden+1) }

// number is one of any size, often at the bounds or beyond them.
func number(r *rand.Rand) int {
	switch r.Intn(8) {
	case 0:
		return []int{math.MinInt, math.MaxInt, most, -most, most + 1, -most - 1, 0}[r.Intn(7)]
	case 1:
		return int(r.Uint64())
	case 2:
		return r.Intn(2*most+1) - most
	case 3:
		return r.Intn(21) - 10
	}
	return r.Intn(8*one) - 4*one
}

func list(r *rand.Rand, n int) []int {
	l := make([]int, n)
	for i := range l {
		l[i] = number(r)
	}
	return l
}

func clamped(l []int) []int {
	out := make([]int, len(l))
	for i, n := range l {
		out[i] = fix.Clamp(n)
	}
	return out
}

// state is one that fits the config.
func state(r *rand.Rand, c api.Config) api.State {
	return api.State{Weights: clamped(list(r, count(c))), Moves: clamped(list(r, count(c)))}
}

// bounded is a number from 0 to most.
func bounded(r *rand.Rand) int { return max(fix.Clamp(number(r)), 0) }

func same(a, b api.State) bool {
	return slices.Equal(a.Weights, b.Weights) && slices.Equal(a.Moves, b.Moves)
}

// nothing: is that the zero value of a state?
func nothing(s api.State) bool { return s.Weights == nil && s.Moves == nil }

func rate(t *testing.T, c api.Config, step int) int {
	t.Helper()
	n, e := optim.Rate(c, step)
	if e != api.OK {
		t.Fatalf("Rate of %+v at %d: %d", c, step, e)
	}
	return n
}

func clip(t *testing.T, g []int, most int) []int {
	t.Helper()
	l, e := optim.Clip(g, most)
	if e != api.OK {
		t.Fatalf("Clip of %v at %d: %d", g, most, e)
	}
	return l
}

func step(t *testing.T, c api.Config, s api.State, g []int, rate int) api.State {
	t.Helper()
	next, e := optim.Step(c, s, g, rate)
	if e != api.OK {
		t.Fatalf("Step of %+v from %v by %v at %d: %d", c, s, g, rate, e)
	}
	return next
}

// clipWords is Clip of P13 by fix alone, number by number.
func clipWords(g []int, bound int) []int {
	var sizes []int
	for _, n := range clamped(g) {
		if n < 0 {
			n = -n
		}
		sizes = append(sizes, n)
	}
	if bound == 0 || len(g) == 0 || slices.Max(sizes) <= bound {
		return clamped(g)
	}
	part, _ := fix.Div(bound, slices.Max(sizes))
	var out []int
	for _, n := range g {
		out = append(out, fix.Mul(n, part))
	}
	return out
}

// stepWords is Step of P13 by fix alone, number by number.
func stepWords(c api.Config, s api.State, g []int, rate int) api.State {
	var next api.State
	for i, n := range g {
		m, kept := fix.Clamp(n), s.Moves[i]
		if c.How == api.OMomentum {
			m = fix.Add(n, fix.Mul(s.Moves[i], c.Keep))
			kept = m
		}
		next.Weights = append(next.Weights, fix.Sub(s.Weights[i], fix.Mul(m, rate)))
		next.Moves = append(next.Moves, kept)
	}
	return next
}

// P12: each number at both of its bounds, whatever the others are at, and any
// seed.
func TestCheckTakesBounds(t *testing.T) {
	all := fields()
	for bits := range 1 << len(all) {
		c := api.Config{Seed: math.MaxUint64 * uint64(bits%2)}
		for i, f := range all {
			*f.of(&c) = f.low
			if bits>>i&1 == 1 {
				*f.of(&c) = f.high
			}
		}
		if e := optim.Check(c); e != api.OK {
			t.Errorf("Check of %+v = %d", c, e)
		}
	}
}

// P12: each number within its bounds.
func TestCheckTakesWithin(t *testing.T) {
	r := rand.New(rand.NewSource(12))
	for _, f := range fields() {
		for k := range 40 {
			c := small()
			*f.of(&c) = min(f.low+k, f.high)
			if e := optim.Check(c); e != api.OK {
				t.Errorf("Check with %s %d = %d", f.name, *f.of(&c), e)
			}
		}
	}
	for range 2000 {
		if c := config(r); optim.Check(c) != api.OK {
			t.Errorf("Check of %+v = %d", c, optim.Check(c))
		}
	}
}

// P12: each number out of its bounds, alone and with another one.
func TestCheckRefuses(t *testing.T) {
	if e := optim.Check(api.Config{}); e != api.ErrArg {
		t.Errorf("Check of nothing = %d", e)
	}
	r := rand.New(rand.NewSource(13))
	for _, f := range fields() {
		for _, n := range outside(f.low, f.high) {
			c := small()
			*f.of(&c) = n
			if e := optim.Check(c); e != api.ErrArg {
				t.Errorf("Check with %s %d = %d", f.name, n, e)
			}
			c = config(r)
			*f.of(&c) = n
			if e := optim.Check(c); e != api.ErrArg {
				t.Errorf("Check of %+v = %d", c, e)
			}
			other := fields()[r.Intn(10)]
			*other.of(&c) = other.high + 1
			if e := optim.Check(c); e != api.ErrArg {
				t.Errorf("Check of %+v = %d", c, e)
			}
		}
	}
}

// P12: rates that go down, reckoned elsewhere.
func TestRateByNumbers(t *testing.T) {
	for _, x := range []struct{ rate, steps, step, want int }{
		{one, 3, 0, 65536},
		{one, 3, 1, 43691},
		{one, 3, 2, 21845},
		{most, 3, 0, most},
		{most, 3, 1, 1431666687},
		{most, 3, 2, 715816960},
		{most, 40, 0, most},
		{most, 40, 39, 53673984},
		{6554, 3, 1, 4369},
		{6554, 3, 2, 2185},
		{1, 40, 20, 0},
		{3, 40, 20, 2},
		{5, 40, 20, 2},
		{1, 40, 19, 1},
		{one, 40, 39, 1638},
		{one, 7, 4, 28087},
		{6554, 7, 4, 2809},
		{0, 7, 3, 0},
		{most, 1, 0, most},
		{1, 1, 0, 1},
		{12345678, 37, 11, 8675280},
	} {
		c := small()
		c.Rate, c.Steps, c.Decay = x.rate, x.steps, api.RLinear
		if got := rate(t, c, x.step); got != x.want {
			t.Errorf("Rate %d at %d of %d = %d, want %d", x.rate, x.step, x.steps, got, x.want)
		}
		c.Decay = api.RConst
		if got := rate(t, c, x.step); got != x.rate {
			t.Errorf("Rate %d at %d of %d stays: %d", x.rate, x.step, x.steps, got)
		}
	}
}

// P12: every step of every course; nothing else of a config is in a rate.
func TestRateByWords(t *testing.T) {
	r := rand.New(rand.NewSource(14))
	for steps := 1; steps <= api.MaxSteps; steps++ {
		for i := range steps {
			c := config(r)
			c.Steps, c.Rate, c.Decay = steps, bounded(r), api.RLinear
			part, _ := fix.Div((steps-i)*one, steps*one)
			if got, want := rate(t, c, i), fix.Mul(part, c.Rate); got != want {
				t.Errorf("Rate %d at %d of %d = %d, want %d", c.Rate, i, steps, got, want)
			}
			c.Decay = api.RConst
			if got := rate(t, c, i); got != c.Rate {
				t.Errorf("Rate %d at %d of %d stays: %d", c.Rate, i, steps, got)
			}
		}
	}
}

// P12: wrong configs and steps, with nothing beside the error.
func TestWrongRates(t *testing.T) {
	refused := func(c api.Config, step int) {
		t.Helper()
		if n, e := optim.Rate(c, step); n != 0 || e != api.ErrArg {
			t.Errorf("Rate of %+v at %d = %d, %d", c, step, n, e)
		}
	}
	for _, decay := range []int{api.RConst, api.RLinear} {
		for steps := 1; steps <= api.MaxSteps; steps++ {
			c := small()
			c.Steps, c.Rate, c.Decay = steps, one, decay
			for _, step := range outside(0, steps-1) {
				refused(c, step)
			}
		}
	}
	r := rand.New(rand.NewSource(15))
	for _, f := range fields() {
		for _, n := range outside(f.low, f.high) {
			c := config(r)
			*f.of(&c) = n
			for _, step := range []int{0, 1, -1, 39, 40} {
				refused(c, step)
			}
		}
	}
}

// P13: lists reckoned elsewhere; what is clipped may be above the bound by its
// rounding.
func TestClipByNumbers(t *testing.T) {
	for _, x := range []struct {
		g    []int
		most int
		want []int
	}{
		{nil, 0, nil},
		{nil, 5, nil},
		{[]int{}, most, nil},
		{[]int{0, 0}, 1, []int{0, 0}},
		{[]int{-4, 2}, 2, []int{-2, 1}},
		{[]int{3, -4}, 4, []int{3, -4}},
		{[]int{3, -4}, 3, []int{2, -3}},
		{[]int{4, -3}, 3, []int{3, -2}},
		{[]int{1, 2, 3}, 1, []int{0, 1, 1}},
		{[]int{10, -20, 30}, 29, []int{10, -19, 29}},
		{[]int{most, -most}, most, []int{most, -most}},
		{[]int{math.MaxInt, math.MinInt}, most, []int{most, -most}},
		{[]int{math.MaxInt, math.MinInt, 5}, most - 1, []int{most, -most, 5}},
		{[]int{math.MinInt, 1}, 1, []int{0, 0}},
		{[]int{math.MinInt, 7}, most / 2, []int{-1073741824, 4}},
		{[]int{math.MaxInt}, 0, []int{most}},
		{[]int{-most - 1, 2}, 0, []int{-most, 2}},
		{[]int{most, 70000}, 3, []int{0, 0}},
		{[]int{most, 70000}, 32768, []int{32768, 1}},
		{[]int{one, 3, 5, -7}, one / 2, []int{32768, 2, 2, -4}},
		{[]int{one, 3}, one - 1, []int{65535, 3}},
		{[]int{3 * one, -2 * one, one}, 2 * one, []int{131073, -87382, 43691}},
		{[]int{3 * one, 1}, 3*one - 1, []int{196608, 1}},
		{[]int{100000, 99999, -1}, 99999, []int{99998, 99997, -1}},
	} {
		if got := clip(t, x.g, x.most); !slices.Equal(got, x.want) {
			t.Errorf("Clip of %v at %d = %v, want %v", x.g, x.most, got, x.want)
		}
	}
}

// P13: every length, with bounds of any size, and just at the greatest number.
func TestClipByWords(t *testing.T) {
	r := rand.New(rand.NewSource(16))
	for n := range api.MaxList + 1 {
		g := list(r, n)
		if r.Intn(2) == 0 {
			for i := range g {
				g[i] = r.Intn(8*one) - 4*one
			}
		}
		bounds := []int{0, 1, 2, one - 1, one, most - 1, most, bounded(r), bounded(r)}
		for _, x := range clamped(g) {
			size := max(x, -x)
			bounds = append(bounds, size, max(size-1, 0), min(size+1, most))
		}
		for _, bound := range bounds {
			if got, want := clip(t, g, bound), clipWords(g, bound); !slices.Equal(got, want) {
				t.Errorf("Clip of %v at %d = %v, want %v", g, bound, got, want)
			}
		}
	}
}

// P13: where the greatest number stands, and its sign, are nothing to Clip.
func TestClipFindsGreatest(t *testing.T) {
	for i := range api.MaxList {
		for _, sign := range []int{1, -1} {
			g, want := make([]int, api.MaxList), make([]int, api.MaxList)
			for k := range g {
				g[k], want[k] = 4*one, one
			}
			g[i], want[i] = sign*8*one, sign*2*one
			if got := clip(t, g, 2*one); !slices.Equal(got, want) {
				t.Errorf("Clip with the greatest at %d = %v", i, got)
			}
		}
	}
}

// P13: lists that are too long, ahead of bounds that are wrong, and those
// alone, with nothing beside the error.
func TestWrongClips(t *testing.T) {
	refused := func(g []int, bound int, want api.Errno) {
		t.Helper()
		if l, e := optim.Clip(g, bound); l != nil || e != want {
			t.Errorf("Clip of %d numbers at %d = %v, %d, want %d", len(g), bound, l, e, want)
		}
	}
	for _, bound := range append(outside(0, most), 0, 1, most) {
		refused(make([]int, 201), bound, api.ErrLarge)
		refused(make([]int, 5000), bound, api.ErrLarge)
	}
	for _, bound := range outside(0, most) {
		refused(nil, bound, api.ErrArg)
		refused([]int{1, 2}, bound, api.ErrArg)
		refused(make([]int, 200), bound, api.ErrArg)
	}
}

// P13: steps reckoned elsewhere, from the same state.
func TestStepByNumbers(t *testing.T) {
	s := api.State{Weights: []int{1000, -2000, 3 * one, most}, Moves: []int{7, -8, one, -most}}
	little := []int{5, 6, -7, 8}
	great := []int{most, -most, math.MaxInt, math.MinInt}
	plain := []int{one, -one, 3 * one, -3 * one}
	for _, x := range []struct {
		how, keep, rate int
		g               []int
		weights, moves  []int
	}{
		{0, one, 0, little, s.Weights, s.Moves},
		{0, 0, 0, great, s.Weights, s.Moves},
		{0, one, 1, little, s.Weights, s.Moves},
		{0, one, 1, great, []int{-31768, 30768, 163840, most}, s.Moves},
		{0, 58982, 1, plain, []int{999, -1999, 196605, most}, s.Moves},
		{0, 58982, 6554, little, []int{999, -2001, 196609, 2147483646}, s.Moves},
		{0, 58982, 6554, great, []int{-214760472, 214759472, -214564864, most}, s.Moves},
		{0, 58982, 6554, plain, []int{-5554, 4554, 176946, most}, s.Moves},
		{0, 0, one, little, []int{995, -2006, 196615, 2147483639}, s.Moves},
		{0, 0, one, great, []int{-2147482647, 2147481647, -2147287039, most}, s.Moves},
		{0, 0, most, little, []int{-162840, -198608, 425984, 2147221503}, s.Moves},
		{0, one, most, great, []int{-2147482647, 2147481647, -2147287039, most}, s.Moves},
		{1, 0, 0, little, s.Weights, little},
		{1, 0, 0, great, s.Weights, []int{most, -most, most, -most}},
		{1, 0, 6554, plain, []int{-5554, 4554, 176946, most}, plain},
		{1, 1, 0, little, s.Weights, []int{5, 6, -6, -32760}},
		{1, 1, one, little, []int{995, -2006, 196614, most}, []int{5, 6, -6, -32760}},
		{1, 58982, 0, little, s.Weights, []int{11, -1, 58975, -1932722167}},
		{1, 58982, 6554, little, []int{999, -2000, 190710, most}, []int{11, -1, 58975, -1932722167}},
		{1, 58982, 6554, plain, []int{-5555, 4555, 171047, most}, []int{65542, -65543, 255590, -1932918783}},
		{1, 58982, most, little, []int{-359448, 30768, -1932296191, most}, []int{11, -1, 58975, -1932722167}},
		{1, one, 1, little, []int{1000, -2000, 196607, most}, []int{12, -2, 65529, -2147483639}},
		{1, one, 6554, plain, []int{-5555, 4555, 170392, most}, []int{65543, -65544, 262144, -most}},
		{1, one, one, little, []int{988, -1998, 131079, most}, []int{12, -2, 65529, -2147483639}},
		{1, one, most, great, []int{-2147482647, 2147481647, -2147287039, most}, []int{most, -most, most, -most}},
	} {
		c := small()
		c.How, c.Keep = x.how, x.keep
		got, want := step(t, c, s, x.g, x.rate), api.State{Weights: x.weights, Moves: x.moves}
		if !same(got, want) {
			t.Errorf("Step %d, keep %d, by %v at %d = %v, want %v", x.how, x.keep, x.g, x.rate, got, want)
		}
	}
}

// eachShape asks f of a config with every number of inputs, hidden ones and
// outputs.
func eachShape(r *rand.Rand, f func(c api.Config)) {
	for in := 1; in <= api.MaxSide; in++ {
		for hidden := 1; hidden <= api.MaxSide; hidden++ {
			for out := 1; out <= api.MaxSide; out++ {
				c := config(r)
				c.In, c.Hidden, c.Out = in, hidden, out
				f(c)
			}
		}
	}
}

// P13: every shape, both ways, with numbers of any size.
func TestStepByWords(t *testing.T) {
	r := rand.New(rand.NewSource(17))
	eachShape(r, func(c api.Config) {
		for how := range 2 {
			c.How = how
			for _, rate := range []int{0, 1, one, most, bounded(r), bounded(r)} {
				s, g := state(r, c), list(r, count(c))
				if got, want := step(t, c, s, g, rate), stepWords(c, s, g, rate); !same(got, want) {
					t.Errorf("Step of %+v from %v by %v at %d = %v, want %v", c, s, g, rate, got, want)
				}
			}
		}
	})
}

// P13: a step's rate is the one that is handed in, and g is not clipped;
// neither is what the config says of them, nor its seed, its batch or its steps.
func TestStepAlone(t *testing.T) {
	r := rand.New(rand.NewSource(18))
	for range 300 {
		c := config(r)
		s, g, rate := state(r, c), list(r, count(c)), bounded(r)
		other := config(r)
		other.In, other.Hidden, other.Out, other.How, other.Keep = c.In, c.Hidden, c.Out, c.How, c.Keep
		if a, b := step(t, c, s, g, rate), step(t, other, s, g, rate); !same(a, b) {
			t.Errorf("Step of %+v and of %+v: %v, %v", c, other, a, b)
		}
	}
}

// refusedStep: is that step refused, with nothing beside the error?
func refusedStep(t *testing.T, c api.Config, s api.State, g []int, rate int, want api.Errno) {
	t.Helper()
	if next, e := optim.Step(c, s, g, rate); !nothing(next) || e != want {
		t.Errorf("Step of %+v from %v by %v at %d = %v, %d, want %d", c, s, g, rate, next, e, want)
	}
}

// P13: lists that have too few or too many numbers, ahead of a wrong rate.
func TestWrongLengths(t *testing.T) {
	r := rand.New(rand.NewSource(19))
	eachShape(r, func(c api.Config) {
		n := count(c)
		s, g := state(r, c), make([]int, n)
		for _, rate := range []int{0, most, -1, most + 1} {
			for _, k := range []int{0, 1, n - 1, n + 1, 2 * n, 200, 201, 5000} {
				wrong := make([]int, k)
				refusedStep(t, c, api.State{Weights: wrong, Moves: s.Moves}, g, rate, api.ErrForm)
				refusedStep(t, c, api.State{Weights: s.Weights, Moves: wrong}, g, rate, api.ErrForm)
				refusedStep(t, c, s, wrong, rate, api.ErrForm)
				refusedStep(t, c, api.State{Weights: wrong, Moves: wrong}, wrong, rate, api.ErrForm)
			}
			refusedStep(t, c, api.State{}, nil, rate, api.ErrForm)
		}
	})
}

// P13: weights and moves out of bounds, at each place, ahead of a wrong rate;
// g may have such numbers.
func TestWrongNumbers(t *testing.T) {
	r := rand.New(rand.NewSource(20))
	eachShape(r, func(c api.Config) {
		s, g := state(r, c), make([]int, count(c))
		for i := range g {
			for _, n := range []int{-most - 1, most + 1, 1 << 32, math.MinInt, math.MaxInt} {
				for _, rate := range []int{one, -1} {
					wrong := slices.Clone(s.Weights)
					wrong[i] = n
					refusedStep(t, c, api.State{Weights: wrong, Moves: s.Moves}, g, rate, api.ErrForm)
					wrong = slices.Clone(s.Moves)
					wrong[i] = n
					refusedStep(t, c, api.State{Weights: s.Weights, Moves: wrong}, g, rate, api.ErrForm)
				}
				beyond := slices.Clone(g)
				beyond[i] = n
				step(t, c, s, beyond, one)
			}
		}
	})
}

// P13: a wrong config goes ahead of wrong lists, those ahead of a wrong rate.
func TestWrongSteps(t *testing.T) {
	r := rand.New(rand.NewSource(21))
	for _, rate := range outside(0, most) {
		c := config(r)
		refusedStep(t, c, state(r, c), make([]int, count(c)), rate, api.ErrArg)
	}
	for _, f := range fields() {
		for _, n := range outside(f.low, f.high) {
			c := config(r)
			s, g := state(r, c), make([]int, count(c))
			*f.of(&c) = n
			for _, rate := range []int{one, -1} {
				refusedStep(t, c, s, g, rate, api.ErrArg)
				refusedStep(t, c, api.State{}, g, rate, api.ErrArg)
				refusedStep(t, c, s, nil, rate, api.ErrArg)
			}
		}
	}
}

// roomy is a list of the same numbers with room behind it, and that room.
func roomy(l []int) ([]int, []int) {
	whole := append(slices.Clone(l), 91, 92, 93, 94, 95)
	return whole[:len(l)], whole[len(l):]
}

func spoil(l []int) {
	l = l[:cap(l)]
	for i := range l {
		l[i] = 77
	}
}

// untouched: has the room behind a list what was in it?
func untouched(room []int) bool { return slices.Equal(room, []int{91, 92, 93, 94, 95}) }

// P2: Clip changes nothing that is handed in, and shares nothing with it.
func TestClipMemory(t *testing.T) {
	r := rand.New(rand.NewSource(22))
	for n := range 50 {
		for _, bound := range []int{0, 1, one, most} {
			g, room := roomy(list(r, n))
			kept := slices.Clone(g)
			got := clip(t, g, bound)
			want := slices.Clone(got)
			if !slices.Equal(g, kept) || !untouched(room) {
				t.Errorf("Clip at %d changes %v to %v, %v", bound, kept, g, room)
			}
			spoil(g)
			if !slices.Equal(got, want) {
				t.Errorf("Clip at %d keeps what was handed in", bound)
			}
			g = slices.Clone(kept)
			spoil(got)
			if !slices.Equal(g, kept) || !slices.Equal(clip(t, g, bound), want) {
				t.Errorf("Clip at %d of %v, asked again, is another", bound, g)
			}
		}
	}
}

// P2: Step changes nothing that is handed in; what it tells shares nothing with
// that, nor its weights with its moves.
func TestStepMemory(t *testing.T) {
	r := rand.New(rand.NewSource(23))
	eachShape(r, func(c api.Config) {
		for how := range 2 {
			c.How = how
			kept, keptG := state(r, c), list(r, count(c))
			w, room := roomy(kept.Weights)
			m, more := roomy(kept.Moves)
			g, last := roomy(keptG)
			got := step(t, c, api.State{Weights: w, Moves: m}, g, one)
			want := api.State{Weights: slices.Clone(got.Weights), Moves: slices.Clone(got.Moves)}
			if !same(api.State{Weights: w, Moves: m}, kept) || !slices.Equal(g, keptG) {
				t.Errorf("Step changes %v, %v to %v, %v, %v", kept, keptG, w, m, g)
			}
			if !untouched(room) || !untouched(more) || !untouched(last) {
				t.Errorf("Step writes behind a list: %v, %v, %v", room, more, last)
			}
			spoil(w)
			spoil(m)
			spoil(g)
			if !same(got, want) {
				t.Errorf("Step keeps what was handed in")
			}
			spoil(got.Weights)
			if !slices.Equal(got.Moves, want.Moves) {
				t.Errorf("Step's lists share memory")
			}
			spoil(got.Moves)
			if !same(step(t, c, kept, keptG, one), want) {
				t.Errorf("Step, asked again, is another")
			}
		}
	})
}

// P2: the same list may be handed in as weights, as moves and as g.
func TestOneListForAll(t *testing.T) {
	r := rand.New(rand.NewSource(24))
	eachShape(r, func(c api.Config) {
		l := clamped(list(r, count(c)))
		kept := slices.Clone(l)
		s := api.State{Weights: l, Moves: l}
		want := stepWords(c, api.State{Weights: kept, Moves: kept}, kept, one)
		if got := step(t, c, s, l, one); !same(got, want) || !slices.Equal(l, kept) {
			t.Errorf("Step of %v for all = %v, want %v", kept, got, want)
		}
	})
}

// P2: how much room is behind a list is nothing to an answer.
func TestRoomIsNothing(t *testing.T) {
	r := rand.New(rand.NewSource(25))
	for range 100 {
		c := config(r)
		s, g := state(r, c), list(r, count(c))
		w, _ := roomy(s.Weights)
		m, _ := roomy(s.Moves)
		h, _ := roomy(g)
		if a, b := step(t, c, s, g, one), step(t, c, api.State{Weights: w, Moves: m}, h, one); !same(a, b) {
			t.Errorf("Step with room: %v, without: %v", b, a)
		}
		if a, b := clip(t, g, one), clip(t, h, one); !slices.Equal(a, b) {
			t.Errorf("Clip with room: %v, without: %v", b, a)
		}
	}
	full := make([]int, 200, 1000)
	if _, e := optim.Clip(full, 1); e != api.OK {
		t.Errorf("Clip of 200 numbers with room = %d", e)
	}
}

// P2: nothing is kept, so calls at the same time, on the same lists, and behind
// wrong ones, answer as calls alone.
func TestNothingIsKept(t *testing.T) {
	r := rand.New(rand.NewSource(26))
	c := config(r)
	s, g := state(r, c), list(r, count(c))
	var group sync.WaitGroup
	for k := range 8 {
		group.Go(func() {
			r := rand.New(rand.NewSource(int64(k)))
			for range 200 {
				n := bounded(r)
				optim.Step(c, s, g, -1)
				next, e := optim.Step(c, s, g, n)
				if e != api.OK || !same(next, stepWords(c, s, g, n)) {
					t.Errorf("Step at %d = %v, %d", n, next, e)
				}
				optim.Clip(g, -1)
				l, e := optim.Clip(g, n)
				if e != api.OK || !slices.Equal(l, clipWords(g, n)) {
					t.Errorf("Clip at %d = %v, %d", n, l, e)
				}
			}
		})
	}
	group.Wait()
}
