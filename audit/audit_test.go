package audit_test

import (
	"math"
	"math/rand"
	"slices"
	"testing"

	"lessonbook/api"
	"lessonbook/audit"
	"lessonbook/journal"
)

const (
	one  = api.One
	most = api.Most
	full = math.MaxUint64
)

// field is one number of a config, and its bounds.
type field struct {
	of        func(c *api.Config) *int
	low, high int
}

func fields() []field {
	return []field{
		{func(c *api.Config) *int { return &c.In }, 1, 4},
		{func(c *api.Config) *int { return &c.Hidden }, 1, 4},
		{func(c *api.Config) *int { return &c.Out }, 1, 4},
		{func(c *api.Config) *int { return &c.Batch }, 1, 8},
		{func(c *api.Config) *int { return &c.Steps }, 1, 40},
		{func(c *api.Config) *int { return &c.Rate }, 0, 1<<31 - 1},
		{func(c *api.Config) *int { return &c.Decay }, 0, 1},
		{func(c *api.Config) *int { return &c.How }, 0, 1},
		{func(c *api.Config) *int { return &c.Keep }, 0, 65536},
		{func(c *api.Config) *int { return &c.Clip }, 0, 1<<31 - 1},
	}
}

// outside are numbers that no bound from low to high lets go.
func outside(low, high int) []int {
	return []int{low - 1, low - 2, -high - 1, high + 1, high + 2, 1 << 32, 1<<32 + low, -1 << 32, math.MaxInt, math.MinInt}
}

// config is one that fits, with each number anywhere in its bounds.
func config(r *rand.Rand) api.Config {
	c := api.Config{Seed: r.Uint64()}
	for _, f := range fields() {
		switch r.Intn(4) {
		case 0:
			*f.of(&c) = f.low
		case 1:
			*f.of(&c) = f.high
		default:
			*f.of(&c) = f.low + r.Intn(f.high-f.low+1)
		}
	}
	// Often one with which a course does not run off at once.
	if r.Intn(2) == 0 {
		c.Rate = r.Intn(one / 4)
		c.Clip = r.Intn(2) * r.Intn(2*one)
	}
	return c
}

// eachShape asks f of a config with every number of inputs, hidden ones and
// outputs.
func eachShape(r *rand.Rand, f func(c api.Config)) {
	for in := 1; in <= api.MaxSide; in++ {
		for hidden := 1; hidden <= api.MaxSide; hidden++ {
			for out := 1; out <= api.MaxSide; out++ {
				c := config(r)
				c.In, c.Hidden, c.Out = in, hidden, out
				f(c)
			}
		}
	}
}

func list(r *rand.Rand, n int) []int {
	l := make([]int, n)
	for i := range l {
		l[i] = r.Intn(4*one) - 2*one
		if r.Intn(10) == 0 {
			l[i] = []int{most, -most, 0}[r.Intn(3)]
		}
	}
	return l
}

// examples are n that fit the config.
func examples(r *rand.Rand, c api.Config, n int) []api.Example {
	data := make([]api.Example, n)
	for i := range data {
		data[i] = api.Example{In: list(r, c.In), Out: list(r, c.Out)}
	}
	return data
}

// some are examples that fit the config, however many there may be.
func some(r *rand.Rand, c api.Config) []api.Example {
	return examples(r, c, 1+r.Intn(api.MaxData))
}

func records(t *testing.T, c api.Config, data []api.Example, n int) []api.Record {
	t.Helper()
	l, e := journal.Make(c, data, n)
	if e != api.OK {
		t.Fatalf("Make of %+v, %d records: %d", c, n, e)
	}
	return l
}

// copied are the same records, with batches of their own.
func copied(l []api.Record) []api.Record {
	l = slices.Clone(l)
	for i := range l {
		l[i].Batch = slices.Clone(l[i].Batch)
	}
	return l
}

// bend is one way to make another record of one.
type bend struct {
	name string
	to   func(r *api.Record)
}

// bends are those that a step done again is to show.
func bends() []bend {
	return []bend{
		{"a step more", func(r *api.Record) { r.Step++ }},
		{"a step less", func(r *api.Record) { r.Step-- }},
		{"a step far off", func(r *api.Record) { r.Step += 1 << 32 }},
		{"a step below 0", func(r *api.Record) { r.Step = math.MinInt }},
		{"a rate more", func(r *api.Record) { r.Rate++ }},
		{"a rate less", func(r *api.Record) { r.Rate-- }},
		{"a rate far off", func(r *api.Record) { r.Rate += 1 << 32 }},
		{"a rate below 0", func(r *api.Record) { r.Rate = -r.Rate - 1 }},
		{"a root more", func(r *api.Record) { r.Root++ }},
		{"a root of which the rest is the same", func(r *api.Record) { r.Root += api.P }},
		{"a root far off", func(r *api.Record) { r.Root ^= 1 << 63 }},
		{"no batch", func(r *api.Record) { r.Batch = nil }},
		{"an empty batch", func(r *api.Record) { r.Batch = []int{} }},
		{"a batch that is longer", func(r *api.Record) { r.Batch = append(r.Batch, 0) }},
		{"a batch that is far too long", func(r *api.Record) { r.Batch = append(r.Batch, make([]int, 1000)...) }},
		{"a batch that is shorter", func(r *api.Record) { r.Batch = r.Batch[:len(r.Batch)-1] }},
		{"a batch with another first number", func(r *api.Record) { r.Batch[0]++ }},
		{"a batch with another last number", func(r *api.Record) { r.Batch[len(r.Batch)-1]-- }},
		{"a batch far off", func(r *api.Record) { r.Batch[len(r.Batch)/2] += 1 << 32 }},
	}
}

// chainBends are those that only the journal shows.
func chainBends() []bend {
	return []bend{
		{"a chain more", func(r *api.Record) { r.Chain++ }},
		{"a chain of which the rest is the same", func(r *api.Record) { r.Chain += api.P }},
		{"a chain far off", func(r *api.Record) { r.Chain ^= 1 << 63 }},
		{"the root as its chain", func(r *api.Record) { r.Chain = r.Root }},
	}
}

// isWhole: does Whole tell that number?
func isWhole(t *testing.T, c api.Config, data []api.Example, l []api.Record, want int, what string) {
	t.Helper()
	if got, e := audit.Whole(c, data, l); e != api.OK || got != want {
		t.Errorf("Whole of %+v, %d records, %s = %d, %d, want %d", c, len(l), what, got, e, want)
	}
}

// written is a journal reckoned elsewhere.
type written struct {
	c    api.Config
	data []api.Example
	l    []api.Record
}

func two() []api.Example {
	return []api.Example{{In: []int{one}, Out: []int{2 * one}}, {In: []int{2 * one}, Out: []int{4 * one}}}
}

func three() []api.Example {
	return []api.Example{
		{In: []int{one, -one}, Out: []int{one / 2}},
		{In: []int{3 * one, 7}, Out: []int{-one}},
		{In: []int{-20000, 40001}, Out: []int{99999}}}
}

func plain() api.Config {
	return api.Config{In: 1, Hidden: 1, Out: 1, Seed: 1, Batch: 1, Steps: 3, Rate: 6554}
}

func moving() api.Config {
	return api.Config{In: 1, Hidden: 2, Out: 1, Seed: 5, Batch: 3, Steps: 4, Rate: 6554, Decay: 1, How: 1, Keep: 58982}
}

func clipped() api.Config {
	return api.Config{In: 2, Hidden: 2, Out: 1, Seed: 77, Batch: 2, Steps: 5, Rate: 13107, Decay: 1, Keep: one, Clip: one}
}

func reckoned() []written {
	return []written{
		{plain(), two(), []api.Record{
			{Step: 0, Batch: []int{0}, Rate: 6554, Root: 1687146225227360379, Chain: 585605263347491947},
			{Step: 1, Batch: []int{1}, Rate: 6554, Root: 1444372270118958408, Chain: 1808890147807593584},
			{Step: 2, Batch: []int{1}, Rate: 6554, Root: 1581233537430261997, Chain: 385688676154239192},
		}},
		{moving(), two(), []api.Record{
			{Step: 0, Batch: []int{1, 0, 1}, Rate: 6554, Root: 181964385764481772, Chain: 1050919768250886125},
			{Step: 1, Batch: []int{0, 1, 0}, Rate: 4916, Root: 1423175283162880147, Chain: 2090131981013548346},
			{Step: 2, Batch: []int{0, 1, 0}, Rate: 3277, Root: 34295056373006596, Chain: 658643886808056044},
			{Step: 3, Batch: []int{1, 1, 0}, Rate: 1638, Root: 1613712204207978072, Chain: 464333533608916822},
		}},
		{clipped(), three(), []api.Record{
			{Step: 0, Batch: []int{0, 2}, Rate: 13107, Root: 1585774676096776142, Chain: 470338321912488552},
			{Step: 1, Batch: []int{1, 1}, Rate: 10486, Root: 1837869061255020504, Chain: 624135499679003768},
			{Step: 2, Batch: []int{0, 2}, Rate: 7864, Root: 1867412801139004318, Chain: 1739894541008684893},
			{Step: 3, Batch: []int{0, 1}, Rate: 5243, Root: 1551849663534171968, Chain: 1377494914742906346},
			{Step: 4, Batch: []int{2, 0}, Rate: 2621, Root: 1060192443678249508, Chain: 603200240218298482},
		}},
	}
}

// P18: journals reckoned elsewhere, each beginning of them, and each record of
// them bent in each way.
func TestWholeByNumbers(t *testing.T) {
	for _, x := range reckoned() {
		for n := range len(x.l) + 1 {
			isWhole(t, x.c, x.data, x.l[:n], n, "as they were")
		}
		for i := range x.l {
			for _, b := range slices.Concat(bends(), chainBends()) {
				l := copied(x.l)
				b.to(&l[i])
				isWhole(t, x.c, x.data, l, i, b.name)
				isWhole(t, x.c, x.data, l[:i+1], i, b.name)
				isWhole(t, x.c, x.data, l[:i], i, b.name+" behind them")
			}
		}
	}
}

// P18: every shape, and every number of records.
func TestWholeJournals(t *testing.T) {
	r := rand.New(rand.NewSource(1))
	eachShape(r, func(c api.Config) {
		data, n := some(r, c), r.Intn(min(c.Steps, 4)+1)
		isWhole(t, c, data, records(t, c, data, n), n, "as they were")
	})
	c := config(r)
	c.Steps = api.MaxSteps
	data := some(r, c)
	l := records(t, c, data, c.Steps)
	for n := range c.Steps + 1 {
		isWhole(t, c, data, l[:n], n, "as they were")
	}
	isWhole(t, c, data, nil, 0, "none")
	isWhole(t, c, data, []api.Record{}, 0, "none")
}

// P18: the first one of several that are bent is told, at every place.
func TestWholeTellsTheFirst(t *testing.T) {
	r := rand.New(rand.NewSource(2))
	c := config(r)
	c.Steps = api.MaxSteps
	data := some(r, c)
	right := records(t, c, data, c.Steps)
	ways := slices.Concat(bends(), chainBends())
	for i := range right {
		l, b := copied(right), ways[r.Intn(len(ways))]
		b.to(&l[i])
		for range 3 {
			later := i + r.Intn(len(l)-i)
			if later > i {
				ways[r.Intn(len(ways))].to(&l[later])
			}
		}
		isWhole(t, c, data, l, i, b.name)
		l = copied(right)
		l[i] = api.Record{}
		isWhole(t, c, data, l, i, "nothing there")
	}
	isWhole(t, c, data, slices.Concat(right[:7], right[8:]), 7, "one left out")
	isWhole(t, c, data, slices.Concat(right[:7], right[6:39]), 7, "one twice")
}

// rechained are the records with one of them bent, and every chain from there
// on made to fit.
func rechained(t *testing.T, right []api.Record, i int, b bend) []api.Record {
	t.Helper()
	l := copied(right)
	b.to(&l[i])
	before := uint64(1)
	if i > 0 {
		before = l[i-1].Chain
	}
	for k := i; k < len(l); k++ {
		var e api.Errno
		if l[k].Chain, e = journal.Chain(before, l[k]); e != api.OK {
			t.Fatalf("Chain of %+v: %d", l[k], e)
		}
		before = l[k].Chain
	}
	return l
}

// bentRoot is one of which a chain can be made.
func bentRoot() bend { return bend{"another root", func(r *api.Record) { r.Root ^= 2 }} }

// P18: chains that fit each other do not make a bent record right.
func TestWholeIsNotTakenInByChains(t *testing.T) {
	r := rand.New(rand.NewSource(3))
	c := config(r)
	c.Steps = 12
	data := some(r, c)
	right := records(t, c, data, c.Steps)
	for i := range right {
		isWhole(t, c, data, rechained(t, right, i, bentRoot()), i, "chained")
	}
}

// P18: the journal of another course is not this one's, and a course of another
// length has other chains from its head on.
func TestWholeOfOtherCourses(t *testing.T) {
	c := plain()
	l := records(t, c, two(), 3)
	for _, f := range fields()[3:] {
		other := c
		if *f.of(&other) == f.high {
			continue
		}
		*f.of(&other)++
		isWhole(t, other, two(), l, 0, "of another config")
	}
	other := c
	other.Seed++
	isWhole(t, other, two(), l, 0, "of another seed")
	other.Seed = c.Seed + api.P
	isWhole(t, other, two(), l, 3, "of a seed with the same rest")
	data := two()
	data[1].Out[0]++
	isWhole(t, c, data, l, 0, "of other examples")
}

func refusedWhole(t *testing.T, c api.Config, data []api.Example, l []api.Record, want api.Errno) {
	t.Helper()
	if got, e := audit.Whole(c, data, l); got != 0 || e != want {
		t.Errorf("Whole of %+v with %v, %d records = %d, %d, want %d", c, data, len(l), got, e, want)
	}
}

// P18: more records than steps.
func TestWholeOfTooMany(t *testing.T) {
	r := rand.New(rand.NewSource(4))
	for steps := 1; steps <= api.MaxSteps; steps++ {
		c := config(r)
		c.Steps = steps
		data := some(r, c)
		l := records(t, c, data, steps)
		refusedWhole(t, c, data, append(l, api.Record{}), api.ErrLarge)
		refusedWhole(t, c, data, make([]api.Record, steps+1), api.ErrLarge)
		refusedWhole(t, c, data, make([]api.Record, 41), api.ErrLarge)
		refusedWhole(t, c, data, make([]api.Record, 1<<16), api.ErrLarge)
		isWhole(t, c, data, make([]api.Record, steps), 0, "of nothing")
	}
}

// P18: train.Check's errors, in their order, go ahead of that.
func TestWholeChecks(t *testing.T) {
	r := rand.New(rand.NewSource(5))
	for _, n := range []int{0, 1, 41} {
		l := make([]api.Record, n)
		for _, f := range fields() {
			for _, wrong := range outside(f.low, f.high) {
				c := config(r)
				data := some(r, c)
				*f.of(&c) = wrong
				refusedWhole(t, c, data, l, api.ErrArg)
				refusedWhole(t, c, make([]api.Example, 17), l, api.ErrArg)
				refusedWhole(t, c, make([]api.Example, 1), l, api.ErrArg)
			}
		}
		c := config(r)
		data := some(r, c)
		refusedWhole(t, api.Config{}, nil, l, api.ErrArg)
		refusedWhole(t, c, nil, l, api.ErrArg)
		refusedWhole(t, c, make([]api.Example, 17), l, api.ErrLarge)
		refusedWhole(t, c, make([]api.Example, 16), l, api.ErrForm)
		data[len(data)-1].Out[0] = most + 1
		refusedWhole(t, c, data, l, api.ErrForm)
		data[len(data)-1].Out = make([]int, c.Out+1)
		refusedWhole(t, c, data, l, api.ErrForm)
	}
}
