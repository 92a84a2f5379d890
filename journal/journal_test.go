package journal_test

import (
	"math"
	"math/rand"
	"slices"
	"testing"

	"lessonbook/api"
	"lessonbook/digest"
	"lessonbook/journal"
	"lessonbook/train"
	"lessonbook/tree"
)

const (
	one  = api.One
	most = api.Most
	full = math.MaxUint64
)

// field is one number of a config, and its bounds.
type field struct {
	name      string
	of        func(c *api.Config) *int
	low, high int
}

func fields() []field {
	return []field{
		{"In", func(c *api.Config) *int { return &c.In }, 1, 4},
		{"Hidden", func(c *api.Config) *int { return &c.Hidden }, 1, 4},
		{"Out", func(c *api.Config) *int { return &c.Out }, 1, 4},
		{"Batch", func(c *api.Config) *int { return &c.Batch }, 1, 8},
		{"Steps", func(c *api.Config) *int { return &c.Steps }, 1, 40},
		{"Rate", func(c *api.Config) *int { return &c.Rate }, 0, 1<<31 - 1},
		{"Decay", func(c *api.Config) *int { return &c.Decay }, 0, 1},
		{"How", func(c *api.Config) *int { return &c.How }, 0, 1},
		{"Keep", func(c *api.Config) *int { return &c.Keep }, 0, 65536},
		{"Clip", func(c *api.Config) *int { return &c.Clip }, 0, 1<<31 - 1},
	}
}

// outside are numbers that no bound from low to high lets go.
func outside(low, high int) []int {
	return []int{low - 1, low - 2, -high - 1, high + 1, high + 2, 1 << 32, 1<<32 + low, -1 << 32, math.MaxInt, math.MinInt}
}

// config is one that fits, with each number anywhere in its bounds.
func config(r *rand.Rand) api.Config {
	c := api.Config{Seed: r.Uint64()}
	for _, f := range fields() {
		switch r.Intn(4) {
		case 0:
			*f.of(&c) = f.low
		case 1:
			*f.of(&c) = f.high
		default:
			*f.of(&c) = f.low + r.Intn(f.high-f.low+1)
		}
	}
	// Often one with which a course does not run off at once.
	if r.Intn(2) == 0 {
		c.Rate = r.Intn(one / 4)
		c.Clip = r.Intn(2) * r.Intn(2*one)
	}
	return c
}

// eachShape asks f of a config with every number of inputs, hidden ones and
// outputs.
func eachShape(r *rand.Rand, f func(c api.Config)) {
	for in := 1; in <= api.MaxSide; in++ {
		for hidden := 1; hidden <= api.MaxSide; hidden++ {
			for out := 1; out <= api.MaxSide; out++ {
				c := config(r)
				c.In, c.Hidden, c.Out = in, hidden, out
				f(c)
			}
		}
	}
}

// number is one from -most to most, mostly a small one.
func number(r *rand.Rand) int {
	switch r.Intn(10) {
	case 0:
		return []int{most, -most, most - 1, 1 - most, 0}[r.Intn(5)]
	case 1:
		return r.Intn(2*most+1) - most
	}
	return r.Intn(4*one) - 2*one
}

func list(r *rand.Rand, n int) []int {
	l := make([]int, n)
	for i := range l {
		l[i] = number(r)
	}
	return l
}

// examples are n that fit the config.
func examples(r *rand.Rand, c api.Config, n int) []api.Example {
	data := make([]api.Example, n)
	for i := range data {
		data[i] = api.Example{In: list(r, c.In), Out: list(r, c.Out)}
	}
	return data
}

// some are examples that fit the config, however many there may be.
func some(r *rand.Rand, c api.Config) []api.Example {
	return examples(r, c, 1+r.Intn(api.MaxData))
}

// rising is the list low, low + 1, .. of n numbers.
func rising(low, n int) []int {
	l := make([]int, n)
	for i := range l {
		l[i] = low + i
	}
	return l
}

func root(t *testing.T, s api.State) uint64 {
	t.Helper()
	n, e := journal.Root(s)
	if e != api.OK {
		t.Fatalf("Root of %v: %d", s, e)
	}
	return n
}

func head(t *testing.T, c api.Config, data []api.Example) uint64 {
	t.Helper()
	n, e := journal.Head(c, data)
	if e != api.OK {
		t.Fatalf("Head of %+v with %v: %d", c, data, e)
	}
	return n
}

func chain(t *testing.T, before uint64, r api.Record) uint64 {
	t.Helper()
	n, e := journal.Chain(before, r)
	if e != api.OK {
		t.Fatalf("Chain of %d and %+v: %d", before, r, e)
	}
	return n
}

// joined is a and, behind it, b, number by number.
func joined(a, b []int) []int {
	var l []int
	for _, n := range a {
		l = append(l, n)
	}
	for _, n := range b {
		l = append(l, n)
	}
	return l
}

// rootWords is Root of P16.
func rootWords(s api.State) uint64 {
	n, _ := tree.Root(joined(s.Weights, s.Moves))
	return n
}

// headWords is Head of P16, number by number.
func headWords(c api.Config, data []api.Example) uint64 {
	l := make([]uint64, 11)
	for i, n := range []int{0: c.In, 1: c.Hidden, 2: c.Out, 4: c.Batch, 5: c.Steps, 6: c.Rate, 7: c.Decay, 8: c.How, 9: c.Keep, 10: c.Clip} {
		l[i] = uint64(n)
	}
	l[3] = c.Seed
	for _, x := range data {
		n, _ := tree.Root(joined(x.In, x.Out))
		l = append(l, n)
	}
	s, _ := train.Start(c)
	l = append(l, rootWords(s))
	n, _ := digest.Of(5, l)
	return n
}

// chainWords is Chain of P16, number by number.
func chainWords(before uint64, r api.Record) uint64 {
	l := make([]uint64, 5+len(r.Batch))
	l[0], l[1], l[2], l[3], l[4] = before, uint64(r.Step), uint64(r.Rate), r.Root, uint64(len(r.Batch))
	for i, n := range r.Batch {
		l[5+i] = uint64(n)
	}
	n, _ := digest.Of(6, l)
	return n
}

// P16: roots reckoned elsewhere; where the weights end is not in a root.
func TestRootByNumbers(t *testing.T) {
	for _, x := range []struct {
		weights, moves []int
		want           uint64
	}{
		{[]int{1}, nil, 658647065380269259},
		{nil, []int{1}, 658647065380269259},
		{[]int{1, 2, 3}, []int{4, 5}, 1433694290867580234},
		{[]int{1, 2, 3, 4}, []int{5}, 1433694290867580234},
		{[]int{-1, 1 << 40}, []int{math.MinInt, 7}, 1897057691171646652},
		{rising(-100, 100), rising(0, 100), 622964060948928303},
		{rising(-100, 200), nil, 622964060948928303},
		{[]int{}, rising(-100, 200), 622964060948928303},
	} {
		if got := root(t, api.State{Weights: x.weights, Moves: x.moves}); got != x.want {
			t.Errorf("Root of %v, %v = %d, want %d", x.weights, x.moves, got, x.want)
		}
	}
}

// P16: every length of both together, from one to one more than a tree takes.
func TestRootByWords(t *testing.T) {
	r := rand.New(rand.NewSource(1))
	for n := 1; n <= 201; n++ {
		l := list(r, n)
		for _, cut := range []int{0, n / 2, r.Intn(n + 1), n} {
			s := api.State{Weights: l[:cut], Moves: l[cut:]}
			want, wantE := tree.Root(l)
			if got, e := journal.Root(s); got != want || e != wantE {
				t.Errorf("Root of %v = %d, %d, want %d, %d", s, got, e, want, wantE)
			}
		}
	}
}

// P16: the weights come first.
func TestRootInOrder(t *testing.T) {
	a, b := []int{1, 2}, []int{3, 4}
	if x, y := root(t, api.State{Weights: a, Moves: b}), root(t, api.State{Weights: b, Moves: a}); x == y {
		t.Errorf("Root of 1, 2, 3, 4 and of 3, 4, 1, 2: both %d", x)
	}
}

// P16: Root tells tree's errors, of both lists together.
func TestWrongRoots(t *testing.T) {
	for _, x := range []struct {
		weights, moves int
		want           api.Errno
	}{
		{0, 0, api.ErrArg}, {201, 0, api.ErrLarge}, {0, 201, api.ErrLarge}, {100, 101, api.ErrLarge},
		{200, 1, api.ErrLarge}, {1, 200, api.ErrLarge}, {200, 200, api.ErrLarge}, {5000, 5000, api.ErrLarge},
	} {
		s := api.State{Weights: make([]int, x.weights), Moves: make([]int, x.moves)}
		if got, e := journal.Root(s); got != 0 || e != x.want {
			t.Errorf("Root of %d and %d numbers = %d, %d, want %d", x.weights, x.moves, got, e, x.want)
		}
	}
	if got, e := journal.Root(api.State{}); got != 0 || e != api.ErrArg {
		t.Errorf("Root of nothing = %d, %d", got, e)
	}
}

// P16: every shape, with every number of examples that there may be.
func TestHeadByWords(t *testing.T) {
	r := rand.New(rand.NewSource(2))
	eachShape(r, func(c api.Config) {
		for n := 1; n <= api.MaxData; n++ {
			data := examples(r, c, n)
			if got, want := head(t, c, data), headWords(c, data); got != want {
				t.Errorf("Head of %+v with %v = %d, want %d", c, data, got, want)
			}
		}
	})
}

// P16: each number of a config stands at a place of its own: another one there
// is another head, and no two of them may change places.
func TestHeadHasAll(t *testing.T) {
	r := rand.New(rand.NewSource(3))
	c := api.Config{In: 1, Hidden: 2, Out: 3, Seed: 4, Batch: 5, Steps: 6, Rate: 7, Decay: 0, How: 1, Keep: 8, Clip: 9}
	data := examples(r, c, 3)
	seen := map[uint64]string{head(t, c, data): "the config"}
	tell := func(name string, c api.Config, data []api.Example) {
		t.Helper()
		n := head(t, c, data)
		if other, ok := seen[n]; ok {
			t.Errorf("Head of %s is that of %s", name, other)
		}
		seen[n] = name
	}
	for _, f := range fields()[3:] {
		other := c
		*f.of(&other) ^= 1
		tell(f.name, other, data)
	}
	other := c
	other.Seed++
	tell("Seed", other, data)
	other = c
	other.Hidden = 3
	tell("Hidden", other, data)
	other = c
	other.Batch, other.Steps = c.Steps, c.Batch
	tell("Batch for Steps", other, data)
	other = c
	other.Decay, other.How = c.How, c.Decay
	tell("Decay for How", other, data)
	other = c
	other.Keep, other.Clip = c.Clip, c.Keep
	tell("Keep for Clip", other, data)
	tell("fewer examples", c, data[:2])
	tell("another order", c, []api.Example{data[1], data[0], data[2]})
	tell("one twice", c, []api.Example{data[0], data[0], data[1], data[2]})
	for k := range data {
		changed := slices.Clone(data)
		changed[k].In = []int{data[k].In[0] ^ 1}
		tell("another In", c, changed)
		changed[k] = api.Example{In: data[k].In, Out: slices.Clone(data[k].Out)}
		changed[k].Out[2] ^= 1
		tell("another Out", c, changed)
	}
}

// P16: of a seed its rest by P is meant, as digest has it.
func TestHeadOfSeeds(t *testing.T) {
	r := rand.New(rand.NewSource(4))
	for _, x := range []struct{ seed, like uint64 }{{api.P, 0}, {api.P + 5, 5}, {full, full % api.P}} {
		c := config(r)
		data := some(r, c)
		c.Seed = x.seed
		got := head(t, c, data)
		c.Seed = x.like
		if want := head(t, c, data); got != want {
			t.Errorf("Head with seed %d = %d, with %d %d", x.seed, got, x.like, want)
		}
	}
}

// P16: chains reckoned elsewhere; of numbers at or above P the rest is meant.
func TestChainByNumbers(t *testing.T) {
	for _, x := range []struct {
		before uint64
		r      api.Record
		want   uint64
	}{
		{0, api.Record{}, 1631300139203940325},
		{1, api.Record{Step: 2, Rate: 3, Root: 4, Batch: []int{5}}, 75582738642755587},
		{1, api.Record{Step: 2, Rate: 3, Root: 4, Batch: []int{0}}, 1023276609152551880},
		{1, api.Record{Step: 2, Rate: 3, Root: 4, Batch: []int{}}, 89349161506543973},
		{7, api.Record{Rate: 6554, Root: 9, Batch: []int{7, 6, 5, 4, 3, 2, 1, 0}}, 1985116405992587695},
		{api.P, api.Record{Root: api.P, Batch: []int{0}}, 680355915408652896},
		{0, api.Record{Batch: []int{0}}, 680355915408652896},
		{full, api.Record{Step: math.MaxInt, Rate: math.MaxInt, Root: full, Batch: slices.Repeat([]int{math.MaxInt}, 8)}, 514152039502214561},
	} {
		if got := chain(t, x.before, x.r); got != x.want {
			t.Errorf("Chain of %d and %+v = %d, want %d", x.before, x.r, got, x.want)
		}
	}
}

// record is one that Chain takes, with n numbers in its batch, each of any size.
func record(r *rand.Rand, n int) api.Record {
	x := api.Record{Step: r.Int() >> r.Intn(63), Rate: r.Int() >> r.Intn(63), Root: r.Uint64(), Chain: r.Uint64(), Batch: make([]int, n)}
	for i := range x.Batch {
		x.Batch[i] = r.Int() >> r.Intn(63)
	}
	return x
}

// P16: every number of a batch's numbers; the record's own chain is not in it.
func TestChainByWords(t *testing.T) {
	r := rand.New(rand.NewSource(5))
	for n := range api.MaxBatch + 1 {
		for range 30 {
			before, x := r.Uint64(), record(r, n)
			got, want := chain(t, before, x), chainWords(before, x)
			if got != want {
				t.Errorf("Chain of %d and %+v = %d, want %d", before, x, got, want)
			}
			x.Chain++
			if again := chain(t, before, x); again != want {
				t.Errorf("Chain of %d and %+v = %d, want %d", before, x, again, want)
			}
		}
	}
}

// P16: another number anywhere in a record, or ahead of it, is another chain.
func TestChainHasAll(t *testing.T) {
	r := rand.New(rand.NewSource(6))
	for n := range api.MaxBatch + 1 {
		x := record(r, n)
		seen := map[uint64]int{chain(t, 1, x): -1}
		tell := func(before uint64, x api.Record) {
			t.Helper()
			seen[chain(t, before, x)]++
		}
		tell(2, x)
		changed := x
		changed.Step ^= 1
		tell(1, changed)
		changed = x
		changed.Rate ^= 1
		tell(1, changed)
		changed = x
		changed.Root ^= 1
		tell(1, changed)
		for i := range n {
			changed = x
			changed.Batch = slices.Clone(x.Batch)
			changed.Batch[i] ^= 1
			tell(1, changed)
		}
		if n > 0 {
			changed = x
			changed.Batch = x.Batch[:n-1]
			tell(1, changed)
		} else {
			changed = x
			changed.Batch = []int{0}
			tell(1, changed)
		}
		if len(seen) != n+6 {
			t.Errorf("%d numbers in a batch: %d chains of %d", n, len(seen), n+6)
		}
	}
}

// P16: what is below 0, at each place, and batches that are too long; noughts
// are taken.
func TestWrongChains(t *testing.T) {
	refused := func(x api.Record) {
		t.Helper()
		for _, before := range []uint64{0, 1, full} {
			if got, e := journal.Chain(before, x); got != 0 || e != api.ErrForm {
				t.Errorf("Chain of %d and %+v = %d, %d", before, x, got, e)
			}
		}
	}
	r := rand.New(rand.NewSource(7))
	for n := range api.MaxBatch + 1 {
		for _, below := range []int{-1, -2, -most, -1 << 32, math.MinInt} {
			x := record(r, n)
			x.Step = below
			refused(x)
			x = record(r, n)
			x.Rate = below
			refused(x)
			for i := range n {
				x = record(r, n)
				x.Batch[i] = below
				refused(x)
			}
		}
		chain(t, 0, api.Record{Batch: make([]int, n)})
	}
	for _, n := range []int{9, 10, 195, 196, 200, 201, 5000} {
		refused(api.Record{Batch: make([]int, n)})
		refused(api.Record{Step: -1, Rate: -1, Batch: slices.Repeat([]int{-1}, n)})
	}
}
