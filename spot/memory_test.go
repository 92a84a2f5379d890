package spot_test

import (
	"math/rand"
	"slices"
	"sync"
	"testing"

	"lessonbook/api"
	"lessonbook/spot"
)

// roomy is a list of the same numbers, with room behind it that is told apart.
func roomy[T int | uint64](l []T) []T {
	return append(slices.Clone(l), slices.Repeat([]T{91}, 8)...)[:len(l)]
}

// untouched: is that the list that it was, and the room behind it too?
func untouched[T int | uint64](l, was []T) bool {
	room := l[len(l) : len(l)+8]
	return slices.Equal(l, was) && slices.Equal(room, slices.Repeat([]T{91}, 8))
}

// spoil writes over a list, the room behind it included.
func spoil[T int | uint64](l []T) {
	l = l[:cap(l)]
	for i := range l {
		l[i] = 77
	}
}

// P2: nothing that is handed in is changed, nor the room behind it, also when
// the answer is written over.
func TestMemoryOfSteps(t *testing.T) {
	r := rand.New(rand.NewSource(31))
	for range 20 {
		c := config(r)
		c.Steps = 4
		data := some(r, c)
		given := make([]api.Example, len(data), len(data)+2)
		for i, x := range data {
			given[i] = api.Example{In: roomy(x.In), Out: roomy(x.Out)}
		}
		for step := range c.Steps {
			want := prove(t, c, data, step)
			x := redone(t, c, data, want, step)
			s := api.State{Weights: roomy(want.Weights), Moves: roomy(want.Moves)}
			batch := roomy(x.r.Batch)
			isHeld(t, c, given, proof{s, x.root, api.Record{Step: step, Batch: batch, Rate: x.r.Rate, Root: x.r.Root}}, true, "with room behind")
			if !untouched(s.Weights, want.Weights) || !untouched(s.Moves, want.Moves) || !untouched(batch, x.r.Batch) {
				t.Errorf("what was handed in to Holds of %+v is changed", c)
			}
			got := prove(t, c, given, step)
			spoil(got.Weights)
			if !slices.Equal(got.Moves, want.Moves) {
				t.Errorf("weights and moves of Prove of %+v at %d share memory", c, step)
			}
			spoil(got.Moves)
			if again := prove(t, c, given, step); !same(again, want) {
				t.Errorf("Prove of %+v at %d, asked again = %v, not %v", c, step, again, want)
			}
		}
		for i, x := range given {
			if !untouched(x.In, data[i].In) || !untouched(x.Out, data[i].Out) {
				t.Errorf("example %d of %+v is changed", i, c)
			}
		}
		for _, x := range given[len(given):cap(given)] {
			if x.In != nil || x.Out != nil {
				t.Errorf("the room behind the examples of %+v is changed", c)
			}
		}
	}
}

// P2: likewise of chunks, wherever the weights end.
func TestMemoryOfChunks(t *testing.T) {
	r := rand.New(rand.NewSource(32))
	for _, n := range []int{1, 3, 4, 5, 8, 21, 80, 200} {
		l := list(r, n)
		for _, at := range []int{0, 1, n / 2, n} {
			was := split(l, at)
			s := api.State{Weights: roomy(was.Weights), Moves: roomy(was.Moves)}
			for i, want := range cut(l) {
				chunk, path, e := spot.Chunk(s, i)
				wantPath := slices.Clone(path)
				given, up := roomy(chunk), roomy(path)
				isOpened(t, rootOf(t, s), n, i, given, up, true)
				if e != api.OK || !untouched(given, want) || !untouched(up, path) {
					t.Errorf("what was handed in to Opens of chunk %d of %v is changed", i, l)
				}
				spoil(chunk)
				spoil(path)
				isChunk(t, s, i, want, wantPath)
			}
			if !untouched(s.Weights, was.Weights) || !untouched(s.Moves, was.Moves) {
				t.Errorf("the state of %v, cut at %d, is changed", l, at)
			}
		}
	}
}

// P2: one piece of memory may be both lists of a state, one behind the other,
// and one list may be both.
func TestSharedLists(t *testing.T) {
	c := api.Config{In: 2, Hidden: 2, Out: 1, Seed: 8, Batch: 2, Steps: 3, Rate: 6554, How: api.OMomentum, Keep: one / 2}
	l := list(rand.New(rand.NewSource(33)), 2*count(c))
	was := slices.Clone(l)
	data := []api.Example{{In: l[:2], Out: l[2:3]}, {In: l[1:3], Out: l[:1]}}
	for _, s := range []api.State{split(l, count(c)), {Weights: l[:count(c)], Moves: l[:count(c)]}} {
		eachAnswer(t, c, data, redone(t, c, data, s, 1))
		for i, want := range cut(slices.Concat(s.Weights, s.Moves)) {
			chunk, path, e := spot.Chunk(s, i)
			if e != api.OK || !slices.Equal(chunk, want) {
				t.Errorf("Chunk %d of %v = %v, %d", i, s, chunk, e)
			}
			isOpened(t, rootOf(t, s), 2*count(c), i, chunk, path, true)
		}
	}
	if !slices.Equal(l, was) {
		t.Errorf("the list is %v, not %v", l, was)
	}
}

// P2: nothing is kept, so calls at the same time, and behind wrong ones, answer
// as calls alone.
func TestNothingIsKept(t *testing.T) {
	courses, chunks := reckoned(), openings()
	var group sync.WaitGroup
	for range 8 {
		group.Go(func() {
			for _, x := range courses {
				for step, p := range x.steps {
					spot.Prove(x.c, nil, step)
					if got, e := spot.Prove(x.c, x.data, step); e != api.OK || !same(got, p.s) {
						t.Errorf("Prove of %+v at %d = %v, %d", x.c, step, got, e)
					}
					spot.Holds(x.c, x.data, -1, p.root, p.s, p.r)
					isHeld(t, x.c, x.data, p, true, "at the same time")
				}
			}
			for _, x := range chunks {
				s := split(x.l, len(x.l)/2)
				spot.Chunk(s, -1)
				isChunk(t, s, x.i, x.chunk, x.path)
				spot.Opens(x.root, len(x.l), x.i, nil, x.path)
				isOpened(t, x.root, len(x.l), x.i, x.chunk, x.path, true)
				isOpened(t, x.root+1, len(x.l), x.i, x.chunk, x.path, false)
			}
		})
	}
	group.Wait()
}
