package journal_test

import (
	"math"
	"math/rand"
	"slices"
	"sync"
	"testing"

	"lessonbook/api"
	"lessonbook/journal"
	"lessonbook/train"
)

func records(t *testing.T, c api.Config, data []api.Example, n int) []api.Record {
	t.Helper()
	l, e := journal.Make(c, data, n)
	if e != api.OK {
		t.Fatalf("Make of %+v, %d records: %d", c, n, e)
	}
	return l
}

func same(a, b api.Record) bool {
	return a.Step == b.Step && slices.Equal(a.Batch, b.Batch) && a.Rate == b.Rate && a.Root == b.Root && a.Chain == b.Chain
}

// makeWords is Make of P17, told by the states of train.Run.
func makeWords(c api.Config, data []api.Example, n int) []api.Record {
	states, _ := train.Run(c, data, n)
	var l []api.Record
	for step := range n {
		_, batch, rate, _ := train.Next(c, data, states[step], step)
		r := api.Record{Step: step, Batch: batch, Rate: rate, Root: rootWords(states[step+1])}
		before := headWords(c, data)
		if step > 0 {
			before = l[step-1].Chain
		}
		r.Chain = chainWords(before, r)
		l = append(l, r)
	}
	return l
}

// written is a journal reckoned elsewhere.
type written struct {
	c    api.Config
	data []api.Example
	head uint64
	l    []api.Record
}

func reckoned() []written {
	two := []api.Example{{In: []int{one}, Out: []int{2 * one}}, {In: []int{2 * one}, Out: []int{4 * one}}}
	three := []api.Example{
		{In: []int{one, -one}, Out: []int{one / 2}},
		{In: []int{3 * one, 7}, Out: []int{-one}},
		{In: []int{-20000, 40001}, Out: []int{99999}}}
	huge := []api.Example{
		{In: []int{most, most}, Out: []int{-most}},
		{In: []int{most, -most}, Out: []int{most}},
		{In: []int{one, 1}, Out: []int{most}}}
	return []written{
		{api.Config{In: 1, Hidden: 1, Out: 1, Seed: 1, Batch: 1, Steps: 3, Rate: 6554}, two, 1323463764856146601, []api.Record{
			{Step: 0, Batch: []int{0}, Rate: 6554, Root: 1687146225227360379, Chain: 585605263347491947},
			{Step: 1, Batch: []int{1}, Rate: 6554, Root: 1444372270118958408, Chain: 1808890147807593584},
			{Step: 2, Batch: []int{1}, Rate: 6554, Root: 1581233537430261997, Chain: 385688676154239192},
		}},
		{api.Config{In: 1, Hidden: 2, Out: 1, Seed: 5, Batch: 3, Steps: 4, Rate: 6554, Decay: 1, How: 1, Keep: 58982}, two, 1496116850544767812, []api.Record{
			{Step: 0, Batch: []int{1, 0, 1}, Rate: 6554, Root: 181964385764481772, Chain: 1050919768250886125},
			{Step: 1, Batch: []int{0, 1, 0}, Rate: 4916, Root: 1423175283162880147, Chain: 2090131981013548346},
			{Step: 2, Batch: []int{0, 1, 0}, Rate: 3277, Root: 34295056373006596, Chain: 658643886808056044},
			{Step: 3, Batch: []int{1, 1, 0}, Rate: 1638, Root: 1613712204207978072, Chain: 464333533608916822},
		}},
		{api.Config{In: 2, Hidden: 2, Out: 1, Seed: 77, Batch: 2, Steps: 5, Rate: 13107, Decay: 1, Keep: one, Clip: one}, three, 699736008412331377, []api.Record{
			{Step: 0, Batch: []int{0, 2}, Rate: 13107, Root: 1585774676096776142, Chain: 470338321912488552},
			{Step: 1, Batch: []int{1, 1}, Rate: 10486, Root: 1837869061255020504, Chain: 624135499679003768},
			{Step: 2, Batch: []int{0, 2}, Rate: 7864, Root: 1867412801139004318, Chain: 1739894541008684893},
			{Step: 3, Batch: []int{0, 1}, Rate: 5243, Root: 1551849663534171968, Chain: 1377494914742906346},
			{Step: 4, Batch: []int{2, 0}, Rate: 2621, Root: 1060192443678249508, Chain: 603200240218298482},
		}},
		{api.Config{In: 2, Hidden: 1, Out: 1, Seed: 9, Batch: 5, Steps: 6, Rate: 3277, How: 1, Keep: one / 2, Clip: one / 2}, three, 802066022753987314, []api.Record{
			{Step: 0, Batch: []int{2, 1, 0, 0, 2}, Rate: 3277, Root: 2147471362769851218, Chain: 1684678442533982191},
			{Step: 1, Batch: []int{1, 1, 0, 2, 1}, Rate: 3277, Root: 1912340786229644337, Chain: 2059839023943154670},
			{Step: 2, Batch: []int{2, 0, 2, 1, 0}, Rate: 3277, Root: 100870840943479963, Chain: 1043273492900483942},
			{Step: 3, Batch: []int{0, 1, 2, 0, 2}, Rate: 3277, Root: 1005337234039476227, Chain: 418166302700623059},
			{Step: 4, Batch: []int{1, 2, 0, 1, 0}, Rate: 3277, Root: 1779277500375512850, Chain: 1204257009479838917},
			{Step: 5, Batch: []int{1, 2, 0, 2, 1}, Rate: 3277, Root: 2083978390482611371, Chain: 1498712429329900600},
		}},
		{api.Config{In: 2, Hidden: 2, Out: 1, Seed: full, Batch: 4, Steps: 2, Rate: 655, How: 1, Keep: one}, huge, 11468380305750911, []api.Record{
			{Step: 0, Batch: []int{2, 0, 1, 2}, Rate: 655, Root: 409864025503643937, Chain: 1585682391984172244},
			{Step: 1, Batch: []int{0, 1, 1, 2}, Rate: 655, Root: 1888451045097704067, Chain: 1648604908193292844},
		}},
	}
}

// P16, P17: heads and journals reckoned elsewhere.
func TestMakeByNumbers(t *testing.T) {
	for _, x := range reckoned() {
		if got := head(t, x.c, x.data); got != x.head {
			t.Errorf("Head of %+v = %d, want %d", x.c, got, x.head)
		}
		if got := records(t, x.c, x.data, len(x.l)); !slices.EqualFunc(got, x.l, same) {
			t.Errorf("Make of %+v = %v, want %v", x.c, got, x.l)
		}
	}
}

// P16, P17: the greatest course: all sides, examples, batches and steps.
func TestGreatest(t *testing.T) {
	c := api.Config{In: 4, Hidden: 4, Out: 4, Seed: 12345, Batch: 8, Steps: 40, Rate: 6554, Decay: 1, How: 1, Keep: 58982, Clip: one}
	data := make([]api.Example, 16)
	for i := range data {
		for k := range 4 {
			data[i].In = append(data[i].In, (i*7919+k*104729)%131072-65536)
			data[i].Out = append(data[i].Out, (i*15485863+k*32452843)%131072-65536)
		}
	}
	if got := head(t, c, data); got != 1155101775085673483 {
		t.Errorf("Head = %d", got)
	}
	l := records(t, c, data, 40)
	for _, want := range []api.Record{
		{Step: 0, Batch: []int{3, 15, 1, 6, 2, 10, 11, 5}, Rate: 6554, Root: 408647471507348243, Chain: 900292162600540968},
		{Step: 1, Batch: []int{9, 8, 7, 0, 14, 13, 4, 12}, Rate: 6390, Root: 1033404972497425988, Chain: 1642254031526769906},
		{Step: 2, Batch: []int{11, 0, 5, 1, 2, 14, 8, 15}, Rate: 6226, Root: 2166884585539716655, Chain: 1173661215832601512},
		{Step: 39, Batch: []int{14, 4, 0, 6, 2, 5, 8, 10}, Rate: 164, Root: 87660572163737768, Chain: 1193591600959597592},
	} {
		if got := l[want.Step]; !same(got, want) {
			t.Errorf("record %d = %+v, want %+v", want.Step, got, want)
		}
	}
}

// P17: every number of records, of courses that are as long, and longer.
func TestMakeByWords(t *testing.T) {
	r := rand.New(rand.NewSource(11))
	for n := range api.MaxSteps + 1 {
		for _, steps := range []int{max(n, 1), api.MaxSteps} {
			c := config(r)
			c.Steps = steps
			data := some(r, c)
			got, want := records(t, c, data, n), makeWords(c, data, n)
			if len(got) != n || !slices.EqualFunc(got, want, same) {
				t.Errorf("Make of %+v, %d records = %v, want %v", c, n, got, want)
			}
		}
	}
}

// P17: every shape.
func TestMakeShapes(t *testing.T) {
	r := rand.New(rand.NewSource(12))
	eachShape(r, func(c api.Config) {
		data, n := some(r, c), min(c.Steps, 3)
		if got, want := records(t, c, data, n), makeWords(c, data, n); !slices.EqualFunc(got, want, same) {
			t.Errorf("Make of %+v = %v, want %v", c, got, want)
		}
	})
}

// P17: each record is chained to the one ahead, and the first one to Head, by
// this package's own calls; a longer journal begins as a shorter one.
func TestEachIsChained(t *testing.T) {
	r := rand.New(rand.NewSource(13))
	for range 10 {
		c := config(r)
		data := some(r, c)
		all, before := records(t, c, data, c.Steps), head(t, c, data)
		states, _ := train.Run(c, data, c.Steps)
		for k, x := range all {
			if got := chain(t, before, x); got != x.Chain {
				t.Errorf("record %d of %+v has chain %d, not %d", k, c, x.Chain, got)
			}
			if got := root(t, states[k+1]); got != x.Root {
				t.Errorf("record %d of %+v has root %d, not %d", k, c, x.Root, got)
			}
			if got := records(t, c, data, k); !slices.EqualFunc(got, all[:k], same) {
				t.Errorf("Make of %+v, %d records, begins otherwise", c, k)
			}
			before = x.Chain
		}
	}
}

// P17: a course with other examples, of which no step has taken any yet, has
// the same roots, and other chains.
func TestHeadIsInChains(t *testing.T) {
	c := api.Config{In: 1, Hidden: 1, Out: 1, Seed: 1, Batch: 1, Steps: 1, Rate: 6554}
	data := []api.Example{{In: []int{one}, Out: []int{one}}, {In: []int{one}, Out: []int{one}}}
	a := records(t, c, data, 1)[0]
	data[1-a.Batch[0]].Out = []int{2 * one}
	b := records(t, c, data, 1)[0]
	if a.Root != b.Root || a.Chain == b.Chain {
		t.Errorf("%+v and %+v", a, b)
	}
}

// refusedBoth: do Head and Make refuse that config with these examples, with
// nothing beside the error, and whatever number of records is asked for?
func refusedBoth(t *testing.T, c api.Config, data []api.Example, want api.Errno) {
	t.Helper()
	if got, e := journal.Head(c, data); got != 0 || e != want {
		t.Errorf("Head of %+v with %v = %d, %d, want %d", c, data, got, e, want)
	}
	for _, n := range []int{0, 1, -1, 41} {
		refusedMake(t, c, data, n, want)
	}
}

func refusedMake(t *testing.T, c api.Config, data []api.Example, n int, want api.Errno) {
	t.Helper()
	if l, e := journal.Make(c, data, n); l != nil || e != want {
		t.Errorf("Make of %+v, %d records = %v, %d, want %d", c, n, l, e, want)
	}
}

// P16, P17: no example, too many of them, and ones that do not fit.
func TestWrongExamples(t *testing.T) {
	r := rand.New(rand.NewSource(14))
	eachShape(r, func(c api.Config) {
		refusedBoth(t, c, nil, api.ErrArg)
		refusedBoth(t, c, []api.Example{}, api.ErrArg)
		refusedBoth(t, c, examples(r, c, 17), api.ErrLarge)
		refusedBoth(t, c, make([]api.Example, 17), api.ErrLarge)
		refusedBoth(t, c, make([]api.Example, 16), api.ErrForm)
		data := some(r, c)
		k := r.Intn(len(data))
		for _, n := range []int{0, c.In + 1, 201} {
			wrong := slices.Clone(data)
			wrong[k].In = make([]int, n)
			refusedBoth(t, c, wrong, api.ErrForm)
		}
		for _, n := range []int{0, c.Out + 1, 201} {
			wrong := slices.Clone(data)
			wrong[k].Out = make([]int, n)
			refusedBoth(t, c, wrong, api.ErrForm)
		}
		for _, n := range []int{-most - 1, most + 1, math.MinInt, math.MaxInt} {
			wrong := slices.Clone(data)
			wrong[k].In = slices.Repeat([]int{n}, c.In)
			refusedBoth(t, c, wrong, api.ErrForm)
			wrong = slices.Clone(data)
			wrong[k].Out = slices.Repeat([]int{n}, c.Out)
			refusedBoth(t, c, wrong, api.ErrForm)
		}
	})
}

// P16, P17: a wrong config goes ahead of wrong examples.
func TestWrongConfigs(t *testing.T) {
	r := rand.New(rand.NewSource(15))
	for _, f := range fields() {
		for _, n := range outside(f.low, f.high) {
			c := config(r)
			data := some(r, c)
			*f.of(&c) = n
			refusedBoth(t, c, data, api.ErrArg)
			refusedBoth(t, c, nil, api.ErrArg)
			refusedBoth(t, c, make([]api.Example, 17), api.ErrArg)
			refusedBoth(t, c, make([]api.Example, 1), api.ErrArg)
		}
	}
	refusedBoth(t, api.Config{}, nil, api.ErrArg)
}

// P17: more records than steps, or fewer than none.
func TestWrongNumbersOfRecords(t *testing.T) {
	r := rand.New(rand.NewSource(16))
	for steps := 1; steps <= api.MaxSteps; steps++ {
		c := config(r)
		c.Steps = steps
		data := some(r, c)
		for _, n := range outside(0, steps) {
			refusedMake(t, c, data, n, api.ErrArg)
		}
		if l := records(t, c, data, 0); len(l) != 0 {
			t.Errorf("Make of no record: %v", l)
		}
		if l := records(t, c, data, steps); len(l) != steps {
			t.Errorf("Make of %d records has %d", steps, len(l))
		}
	}
}

// roomy is a list of the same numbers with room behind it, and that room.
func roomy(l []int) ([]int, []int) {
	whole := append(slices.Clone(l), slices.Repeat([]int{91}, 8)...)
	return whole[:len(l)], whole[len(l):]
}

// isRoom: is that the room behind a list, as it was?
func isRoom(l []int) bool { return slices.Equal(l, slices.Repeat([]int{91}, 8)) }

// spoil writes over a list, the room behind it included.
func spoil(l []int) {
	l = l[:cap(l)]
	for i := range l {
		l[i] = 77
	}
}

// P2: Root and Chain change nothing that is handed in, nor the room behind it.
func TestRootAndChainMemory(t *testing.T) {
	r := rand.New(rand.NewSource(17))
	for n := 1; n <= 8; n++ {
		a, b := list(r, n), list(r, n)
		weights, roomA := roomy(a)
		moves, roomB := roomy(b)
		want := rootWords(api.State{Weights: a, Moves: b})
		for range 2 {
			if got := root(t, api.State{Weights: weights, Moves: moves}); got != want {
				t.Errorf("Root of %v, %v = %d, want %d", a, b, got, want)
			}
		}
		if !slices.Equal(weights, a) || !slices.Equal(moves, b) || !isRoom(roomA) || !isRoom(roomB) {
			t.Errorf("Root of %v, %v changes them", a, b)
		}
		x := record(r, n)
		kept := x.Batch
		batch, room := roomy(kept)
		x.Batch = batch
		chain(t, 1, x)
		if !slices.Equal(batch, kept) || !isRoom(room) {
			t.Errorf("Chain of %v changes it", kept)
		}
	}
}

// P2: one list may be both lists of a state, and of each example.
func TestOneListForAll(t *testing.T) {
	l := []int{1, 2, 3}
	if got, want := root(t, api.State{Weights: l, Moves: l}), rootWords(api.State{Weights: []int{1, 2, 3, 1}, Moves: []int{2, 3}}); got != want {
		t.Errorf("Root of a list twice = %d, want %d", got, want)
	}
	c := api.Config{In: 3, Hidden: 1, Out: 3, Batch: 2, Steps: 2, Rate: 6554}
	data := slices.Repeat([]api.Example{{In: l, Out: l}}, 3)
	if got, want := records(t, c, data, 2), makeWords(c, data, 2); !slices.EqualFunc(got, want, same) {
		t.Errorf("Make = %v, want %v", got, want)
	}
	if !slices.Equal(l, []int{1, 2, 3}) {
		t.Errorf("the list is %v", l)
	}
}

// untouched: are these the examples that they were, and is nothing behind them?
func untouched(handed, data []api.Example) bool {
	for _, x := range handed[len(data):cap(handed)] {
		if x.In != nil || x.Out != nil {
			return false
		}
	}
	return slices.EqualFunc(handed, data, func(a, b api.Example) bool {
		return slices.Equal(a.In, b.In) && slices.Equal(a.Out, b.Out)
	})
}

// P2: Head and Make change nothing that is handed in, nor the room behind it;
// a journal shares nothing with that, nor one of its lists with another.
func TestMakeMemory(t *testing.T) {
	r := rand.New(rand.NewSource(18))
	for range 30 {
		c := config(r)
		c.Steps = 6
		data := some(r, c)
		handed := make([]api.Example, len(data), len(data)+2)
		var rooms [][]int
		take := func(l []int) []int {
			l, room := roomy(l)
			rooms = append(rooms, room)
			return l
		}
		for i, x := range data {
			handed[i] = api.Example{In: take(x.In), Out: take(x.Out)}
		}
		head(t, c, handed)
		l, want := records(t, c, handed, 6), makeWords(c, data, 6)
		if !untouched(handed, data) || slices.ContainsFunc(rooms, func(l []int) bool { return !isRoom(l) }) {
			t.Errorf("Head or Make of %+v changes what is handed in", c)
		}
		for _, x := range handed {
			spoil(x.In)
			spoil(x.Out)
		}
		if !slices.EqualFunc(l, want, same) {
			t.Errorf("Make of %+v keeps what is handed in", c)
		}
		for i := range l {
			spoil(l[i].Batch)
			if !slices.EqualFunc(l[i+1:], want[i+1:], same) {
				t.Errorf("Make of %+v: the batch of record %d shares memory", c, i)
			}
		}
		if again := records(t, c, data, 6); !slices.EqualFunc(again, want, same) {
			t.Errorf("Make of %+v, asked again, is another", c)
		}
	}
}

// P2: nothing is kept, so calls at the same time, on the same examples, and
// behind wrong ones, answer as calls alone.
func TestNothingIsKept(t *testing.T) {
	r := rand.New(rand.NewSource(19))
	c := config(r)
	c.Steps = 10
	data := some(r, c)
	want, first := makeWords(c, data, 10), headWords(c, data)
	var group sync.WaitGroup
	for k := range 8 {
		group.Go(func() {
			r := rand.New(rand.NewSource(int64(k)))
			for range 6 {
				n := r.Intn(11)
				journal.Make(c, nil, n)
				if l, e := journal.Make(c, data, n); e != api.OK || !slices.EqualFunc(l, want[:n], same) {
					t.Errorf("Make of %d records = %v, %d", n, l, e)
				}
				if got, e := journal.Head(c, data); e != api.OK || got != first {
					t.Errorf("Head = %d, %d", got, e)
				}
				if got, e := journal.Chain(first, want[0]); e != api.OK || got != want[0].Chain {
					t.Errorf("Chain = %d, %d", got, e)
				}
			}
		})
	}
	group.Wait()
}
