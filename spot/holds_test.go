package spot_test

import (
	"math"
	"math/rand"
	"slices"
	"testing"

	"lessonbook/api"
	"lessonbook/spot"
	"lessonbook/train"
	"lessonbook/tree"
)

// bend is one way to make another record of one.
type bend struct {
	name string
	to   func(r *api.Record)
}

func bends() []bend {
	return []bend{
		{"a step more", func(r *api.Record) { r.Step++ }},
		{"a step less", func(r *api.Record) { r.Step-- }},
		{"a step far off", func(r *api.Record) { r.Step += 1 << 32 }},
		{"a step below 0", func(r *api.Record) { r.Step = math.MinInt }},
		{"a rate more", func(r *api.Record) { r.Rate++ }},
		{"a rate less", func(r *api.Record) { r.Rate-- }},
		{"a rate far off", func(r *api.Record) { r.Rate += 1 << 32 }},
		{"a rate below 0", func(r *api.Record) { r.Rate = -r.Rate - 1 }},
		{"a root more", func(r *api.Record) { r.Root++ }},
		{"a root less", func(r *api.Record) { r.Root-- }},
		{"a root of which the rest is the same", func(r *api.Record) { r.Root += api.P }},
		{"a root far off", func(r *api.Record) { r.Root ^= 1 << 63 }},
		{"no batch", func(r *api.Record) { r.Batch = nil }},
		{"a batch that is longer", func(r *api.Record) { r.Batch = append(r.Batch, 0) }},
		{"a batch that is far too long", func(r *api.Record) { r.Batch = append(r.Batch, make([]int, 1000)...) }},
		{"a batch that is shorter", func(r *api.Record) { r.Batch = r.Batch[:len(r.Batch)-1] }},
		{"a batch with another first number", func(r *api.Record) { r.Batch[0]++ }},
		{"a batch with another last number", func(r *api.Record) { r.Batch[len(r.Batch)-1]-- }},
		{"a batch far off", func(r *api.Record) { r.Batch[len(r.Batch)/2] += 1 << 32 }},
	}
}

// bent is a record bent in one way, with a batch of its own.
func bent(x api.Record, b bend) api.Record {
	x.Batch = slices.Clone(x.Batch)
	b.to(&x)
	return x
}

// likeRoots are all numbers whose rest by P is that of a root, which is below P.
func likeRoots(root uint64) []uint64 {
	l := []uint64{root}
	for full-l[len(l)-1] >= api.P {
		l = append(l, l[len(l)-1]+api.P)
	}
	return l
}

// otherRoots are numbers of which it is not, some of them near to one.
func otherRoots(root uint64) []uint64 {
	l := []uint64{root + 1, root - 1, root ^ 1<<60, root + 1<<61, root ^ 1<<63, root + 3*api.P + 1, root - api.P, root / 2}
	return slices.DeleteFunc(l, func(n uint64) bool { return n%api.P == root })
}

func isHeld(t *testing.T, c api.Config, data []api.Example, x proof, want bool, what string) {
	t.Helper()
	if got, e := spot.Holds(c, data, x.r.Step, x.root, x.s, x.r); e != api.OK || got != want {
		t.Errorf("Holds of %+v, %+v, %s = %t, %d", c, x, what, got, e)
	}
}

// eachAnswer asks of a step that holds, of all roots that are the same by P and
// of some that are not, and of each bent record.
func eachAnswer(t *testing.T, c api.Config, data []api.Example, x proof) {
	t.Helper()
	like := x
	for _, like.root = range likeRoots(x.root) {
		isHeld(t, c, data, like, true, "a root that is the same by P")
	}
	other := x
	for _, other.root = range otherRoots(x.root) {
		isHeld(t, c, data, other, false, "another root ahead")
	}
	for _, b := range bends() {
		wrong := bent(x.r, b)
		if got, e := spot.Holds(c, data, x.r.Step, x.root, x.s, wrong); e != api.OK || got {
			t.Errorf("Holds of %+v, %+v, %s = %t, %d", c, x, b.name, got, e)
		}
		if got, e := spot.Holds(c, data, x.r.Step, x.root+1, x.s, wrong); e != api.OK || got {
			t.Errorf("Holds of %+v, %+v, %s, and another root = %t, %d", c, x, b.name, got, e)
		}
	}
}

// P21: steps reckoned elsewhere, of courses and from states that no course has.
func TestHoldsByNumbers(t *testing.T) {
	for _, x := range reckoned() {
		for _, p := range x.steps {
			eachAnswer(t, x.c, x.data, p)
		}
	}
	c, p := longest()
	eachAnswer(t, c, two(), p)
	eachAnswer(t, plain(), two(), proof{
		api.State{Weights: []int{one, 2 * one, -one, 5}, Moves: []int{7, -8, 9, -10}},
		1623288379986621459,
		api.Record{Step: 1, Batch: []int{1}, Rate: 6554, Root: 1887931456827152797}})
	eachAnswer(t, moving(), two(), proof{
		api.State{Weights: []int{one, -one, 300, 40000, 2 * one, 3 * one, -77}, Moves: []int{one, -one, one / 2, -3, 0, most, -most}},
		2137888996042296240,
		api.Record{Step: 3, Batch: []int{1, 1, 0}, Rate: 1638, Root: 398545031236511220}})
	eachAnswer(t, clipped(), three(), proof{
		api.State{Weights: []int{most, -most, one, one, -one, 0, 1, -1, 12345}, Moves: []int{1, 2, 3, 4, 5, 6, 7, 8, -9}},
		532898030195383057,
		api.Record{Step: 4, Batch: []int{2, 0}, Rate: 2621, Root: 1328955030970101040}})
}

// rootOf is the root of a state, told by the layer below.
func rootOf(t *testing.T, s api.State) uint64 {
	t.Helper()
	root, e := tree.Root(slices.Concat(s.Weights, s.Moves))
	if e != api.OK {
		t.Fatalf("Root of %v: %d", s, e)
	}
	return root
}

// redone is the step of P21 that holds, told by the layers below.
func redone(t *testing.T, c api.Config, data []api.Example, s api.State, step int) proof {
	t.Helper()
	then, batch, rate, e := train.Next(c, data, s, step)
	if e != api.OK {
		t.Fatalf("Next of %+v at %d: %d", c, step, e)
	}
	return proof{s, rootOf(t, s), api.Record{Step: step, Batch: batch, Rate: rate, Root: rootOf(t, then)}}
}

// P21: every shape, from any state, at any step.
func TestHoldsByWords(t *testing.T) {
	r := rand.New(rand.NewSource(11))
	eachShape(r, func(c api.Config) {
		data, s := some(r, c), state(r, c)
		for _, step := range []int{0, c.Steps - 1, r.Intn(c.Steps)} {
			eachAnswer(t, c, data, redone(t, c, data, s, step))
		}
	})
}

// P21: each step of a course holds, as it was proved, and no other one's state,
// root or record does in its place.
func TestWhatIsProvedHolds(t *testing.T) {
	r := rand.New(rand.NewSource(12))
	c := config(r)
	c.Steps, c.Rate, c.Clip = 12, one/10, one
	data := some(r, c)
	l := records(t, c, data, c.Steps)
	for step := 1; step < c.Steps; step++ {
		s := prove(t, c, data, step)
		for i := 1; i < c.Steps; i++ {
			isHeld(t, c, data, proof{s, l[i-1].Root, l[step]}, i == step, "a root of the journal")
			got, e := spot.Holds(c, data, step, l[step-1].Root, s, l[i])
			if e != api.OK || got != (i == step) {
				t.Errorf("Holds of %+v at %d, of record %d = %t, %d", c, step, i, got, e)
			}
			other := prove(t, c, data, i)
			isHeld(t, c, data, proof{other, l[step-1].Root, l[step]}, i == step, "a state of the course")
		}
	}
}

// P21: a record of another step does not hold, even if it tells all else of
// this one.
func TestHoldsLooksAtTheStep(t *testing.T) {
	// Steps 1 and 2 take the same example, at the same rate.
	c, s := plain(), api.State{Weights: []int{one, 2 * one, -one, 5}, Moves: []int{7, -8, 9, -10}}
	first, second := redone(t, c, two(), s, 1), redone(t, c, two(), s, 2)
	if first.r.Root != second.r.Root {
		t.Fatalf("roots %d and %d", first.r.Root, second.r.Root)
	}
	for _, x := range []struct {
		step int
		r    api.Record
		want bool
	}{{1, first.r, true}, {2, second.r, true}, {1, second.r, false}, {2, first.r, false}} {
		if got, e := spot.Holds(c, two(), x.step, first.root, s, x.r); e != api.OK || got != x.want {
			t.Errorf("Holds at %d of %+v = %t, %d", x.step, x.r, got, e)
		}
	}
}

// P21: with the root of one state, another one does not hold, even where what
// comes of it is right: of a plain step the moves have to do with nothing else.
func TestHoldsLooksAtTheMoves(t *testing.T) {
	r := rand.New(rand.NewSource(13))
	eachShape(r, func(c api.Config) {
		c.How = api.OPlain
		data, s := some(r, c), state(r, c)
		other := api.State{Weights: s.Weights, Moves: slices.Clone(s.Moves)}
		// Nearer to 0, so that it is in its bounds.
		k := r.Intn(count(c))
		if s.Moves[k] > 0 {
			other.Moves[k]--
		} else {
			other.Moves[k]++
		}
		x := redone(t, c, data, other, 0)
		isHeld(t, c, data, x, true, "as it is")
		x.root = rootOf(t, s)
		isHeld(t, c, data, x, false, "the root of other moves")
	})
}

// P21: the same examples in another order are another batch.
func TestHoldsInOrder(t *testing.T) {
	for _, x := range reckoned() {
		for _, p := range x.steps {
			l := slices.Clone(p.r.Batch)
			slices.Reverse(l)
			if !slices.Equal(l, p.r.Batch) {
				p.r.Batch = l
				isHeld(t, x.c, x.data, p, false, "a batch in another order")
			}
		}
	}
}

// P21: the chain is not looked at.
func TestHoldsIsBlindToChains(t *testing.T) {
	for _, x := range reckoned() {
		l := records(t, x.c, x.data, len(x.steps))
		for i, p := range x.steps {
			for _, p.r.Chain = range []uint64{0, 1, l[i].Chain, l[i].Chain + 1, p.root, p.r.Root, api.P, full} {
				isHeld(t, x.c, x.data, p, true, "any chain")
				wrong := p
				wrong.r.Root++
				isHeld(t, x.c, x.data, wrong, false, "any chain, and another root")
			}
		}
	}
}

// refusedHolds asks of any root and record, also of those that would be right.
func refusedHolds(t *testing.T, c api.Config, data []api.Example, s api.State, step int, want api.Errno) {
	t.Helper()
	root, _ := tree.Root(slices.Concat(s.Weights, s.Moves))
	for _, x := range []api.Record{{}, {Step: step}, {Step: -1, Batch: make([]int, 300)}} {
		for _, n := range []uint64{0, root, root + api.P, full} {
			if got, e := spot.Holds(c, data, step, n, s, x); got || e != want {
				t.Errorf("Holds of %+v with %v from %v at %d = %t, %d, want %d", c, data, s, step, got, e, want)
			}
		}
	}
}

// P21: steps that there are not.
func TestHoldsOfWrongSteps(t *testing.T) {
	r := rand.New(rand.NewSource(14))
	for steps := 1; steps <= api.MaxSteps; steps++ {
		c := config(r)
		c.Steps = steps
		data, s := some(r, c), state(r, c)
		for _, step := range outside(0, steps-1) {
			refusedHolds(t, c, data, s, step, api.ErrArg)
		}
	}
}

// P21: states that do not fit, ahead of steps that there are not; some of them
// have the root of one that does.
func TestHoldsOfWrongStates(t *testing.T) {
	r := rand.New(rand.NewSource(15))
	eachShape(r, func(c api.Config) {
		data := some(r, c)
		for _, n := range []int{0, count(c) - 1, count(c) + 1, 201} {
			for _, step := range []int{0, -1, c.Steps} {
				s := state(r, c)
				s.Weights = make([]int, n)
				refusedHolds(t, c, data, s, step, api.ErrForm)
				s = state(r, c)
				s.Moves = make([]int, n)
				refusedHolds(t, c, data, s, step, api.ErrForm)
			}
		}
		for _, n := range []int{most + 1, -most - 1, math.MaxInt, math.MinInt} {
			s := state(r, c)
			s.Weights[r.Intn(count(c))] = n
			refusedHolds(t, c, data, s, 0, api.ErrForm)
			s = state(r, c)
			s.Moves[r.Intn(count(c))] = n
			refusedHolds(t, c, data, s, c.Steps, api.ErrForm)
		}
		l := list(r, 2*count(c))
		for _, cut := range []int{0, count(c) - 1, count(c) + 1, 2 * count(c)} {
			refusedHolds(t, c, data, api.State{Weights: l[:cut], Moves: l[cut:]}, 0, api.ErrForm)
		}
	})
}

// P21: train.Check's errors go ahead of those of states and steps.
func TestHoldsChecks(t *testing.T) {
	r := rand.New(rand.NewSource(16))
	for _, f := range fields() {
		for _, wrong := range outside(f.low, f.high) {
			c := config(r)
			data, s := some(r, c), state(r, c)
			*f.of(&c) = wrong
			refusedHolds(t, c, data, s, 0, api.ErrArg)
			refusedHolds(t, c, make([]api.Example, 17), api.State{}, 0, api.ErrArg)
		}
	}
	c := config(r)
	for _, s := range []api.State{{}, state(r, c)} {
		for _, step := range []int{0, -1, 41} {
			refusedHolds(t, c, nil, s, step, api.ErrArg)
			refusedHolds(t, c, make([]api.Example, 17), s, step, api.ErrLarge)
			refusedHolds(t, c, make([]api.Example, 16), s, step, api.ErrForm)
		}
	}
	refusedHolds(t, api.Config{}, nil, api.State{}, 0, api.ErrArg)
}
