package draw_test

import (
	"math"
	"math/rand"
	"slices"
	"sync"
	"testing"

	"lessonbook/api"
	"lessonbook/digest"
	"lessonbook/draw"
)

const all = math.MaxUint64

// words is the order of P11, told another way: from a heap of numbers one is
// taken for the last place that is free, and the heap's last one fills the gap.
func words(seed uint64, epoch, n int) []int {
	var heap, out []int
	for i := range n {
		heap = append(heap, i)
	}
	for len(heap) > 1 {
		last := len(heap) - 1
		j := digest.Word(seed, 64*uint64(epoch)+uint64(last)) % uint64(len(heap))
		out = append(out, heap[j])
		heap[j] = heap[last]
		heap = heap[:last]
	}
	out = append(out, heap[0])
	slices.Reverse(out)
	return out
}

// shuffle asks Shuffle what it must not refuse.
func shuffle(t *testing.T, seed uint64, epoch, n int) []int {
	t.Helper()
	l, e := draw.Shuffle(seed, epoch, n)
	if e != api.OK || len(l) != n {
		t.Fatalf("Shuffle %d, %d, %d = %v, %d", seed, epoch, n, l, e)
	}
	return l
}

// batch asks Batch what it must not refuse.
func batch(t *testing.T, seed uint64, size, n, step int) []int {
	t.Helper()
	l, e := draw.Batch(seed, size, n, step)
	if e != api.OK || len(l) != size {
		t.Fatalf("Batch %d, %d, %d, %d = %v, %d", seed, size, n, step, l, e)
	}
	return l
}

// P11: orders that were reckoned elsewhere, by the document's words.
func TestShuffleByNumbers(t *testing.T) {
	for _, x := range []struct {
		seed     uint64
		epoch, n int
		want     []int
	}{
		{0, 0, 1, []int{0}},
		{7, 1000, 1, []int{0}},
		{1, 0, 2, []int{0, 1}},
		{1, 1, 2, []int{1, 0}},
		{1, 0, 3, []int{0, 2, 1}},
		{7, 5, 3, []int{2, 1, 0}},
		{1, 0, 5, []int{0, 2, 1, 3, 4}},
		{1, 1, 5, []int{1, 0, 3, 4, 2}},
		{2, 0, 5, []int{4, 1, 0, 2, 3}},
		{1, 0, 16, []int{0, 9, 13, 11, 12, 1, 4, 15, 3, 2, 7, 10, 14, 5, 6, 8}},
		{1, 1, 16, []int{1, 5, 6, 8, 2, 0, 3, 15, 9, 7, 14, 11, 12, 4, 13, 10}},
		{1, 1000, 16, []int{5, 9, 1, 6, 14, 10, 0, 15, 4, 8, 12, 2, 7, 11, 13, 3}},
		{0, 0, 16, []int{7, 10, 8, 1, 11, 4, 12, 6, 2, 9, 3, 13, 14, 5, 15, 0}},
		{all, 0, 16, []int{3, 12, 13, 2, 4, 10, 1, 6, 9, 0, 8, 15, 5, 11, 7, 14}},
		{all, 1000, 16, []int{9, 5, 1, 12, 14, 0, 4, 11, 8, 10, 13, 3, 7, 6, 2, 15}},
		{api.P - 1, 3, 15, []int{11, 3, 4, 12, 2, 13, 10, 9, 5, 0, 8, 6, 14, 1, 7}},
		{api.P, 3, 8, []int{2, 7, 4, 5, 6, 3, 0, 1}},
		{0, 3, 8, []int{2, 7, 4, 5, 6, 3, 0, 1}},
	} {
		if got := shuffle(t, x.seed, x.epoch, x.n); !slices.Equal(got, x.want) {
			t.Errorf("Shuffle %d, %d, %d = %v, want %v", x.seed, x.epoch, x.n, got, x.want)
		}
	}
}

// P11: batches that were reckoned elsewhere: within an order, across its end,
// and across several.
func TestBatchByNumbers(t *testing.T) {
	for _, x := range []struct {
		seed          uint64
		size, n, step int
		want          []int
	}{
		{1, 1, 1, 0, []int{0}},
		{1, 8, 1, 39, []int{0, 0, 0, 0, 0, 0, 0, 0}},
		{1, 1, 16, 0, []int{0}},
		{1, 1, 16, 15, []int{8}},
		{1, 1, 16, 16, []int{1}},
		{1, 1, 16, 39, []int{12}},
		{1, 8, 16, 0, []int{0, 9, 13, 11, 12, 1, 4, 15}},
		{1, 8, 16, 1, []int{3, 2, 7, 10, 14, 5, 6, 8}},
		{1, 8, 16, 2, []int{1, 5, 6, 8, 2, 0, 3, 15}},
		{1, 8, 16, 39, []int{6, 4, 2, 12, 5, 3, 0, 9}},
		{7, 2, 3, 0, []int{2, 0}},
		{7, 2, 3, 1, []int{1, 2}},
		{7, 2, 3, 2, []int{0, 1}},
		{1, 8, 3, 0, []int{0, 2, 1, 1, 0, 2, 0, 2}},
		{1, 8, 3, 39, []int{0, 1, 2, 1, 0, 2, 2, 0}},
		{1, 8, 2, 39, []int{0, 1, 1, 0, 1, 0, 0, 1}},
		{all, 5, 7, 20, []int{2, 5, 3, 0, 4}},
		{0, 7, 5, 3, []int{1, 4, 0, 3, 2, 3, 4}},
		{1, 3, 16, 5, []int{8, 1, 5}},
	} {
		if got := batch(t, x.seed, x.size, x.n, x.step); !slices.Equal(got, x.want) {
			t.Errorf("Batch %d, %d, %d, %d = %v, want %v", x.seed, x.size, x.n, x.step, got, x.want)
		}
	}
}

// P11: every count, in epochs from the first to the last.
func TestShuffleByWords(t *testing.T) {
	r := rand.New(rand.NewSource(11))
	for n := 1; n <= api.MaxData; n++ {
		for _, epoch := range []int{0, 1, 2, 63, 64, 319, 999, 1000, r.Intn(1001), r.Intn(1001)} {
			for _, seed := range []uint64{0, 1, api.P - 1, api.P, all, r.Uint64()} {
				got, want := shuffle(t, seed, epoch, n), words(seed, epoch, n)
				if !slices.Equal(got, want) {
					t.Errorf("Shuffle %d, %d, %d = %v, want %v", seed, epoch, n, got, want)
				}
			}
		}
	}
}

// P11: every size, count and step: the batches, one behind the other, are the
// orders, one behind the other.
func TestBatchByWords(t *testing.T) {
	for _, seed := range []uint64{3, all} {
		for n := 1; n <= api.MaxData; n++ {
			var line []int
			for epoch := 0; len(line) < api.MaxSteps*api.MaxBatch; epoch++ {
				line = append(line, words(seed, epoch, n)...)
			}
			for size := 1; size <= api.MaxBatch; size++ {
				for step := range api.MaxSteps {
					got, want := batch(t, seed, size, n, step), line[step*size:(step+1)*size]
					if !slices.Equal(got, want) {
						t.Errorf("Batch %d, %d, %d, %d = %v, want %v", seed, size, n, step, got, want)
					}
				}
			}
		}
	}
}

// P11: an order has each number once.
func TestEachOnce(t *testing.T) {
	r := rand.New(rand.NewSource(12))
	for range 500 {
		seed, epoch, n := r.Uint64(), r.Intn(1001), 1+r.Intn(api.MaxData)
		l := shuffle(t, seed, epoch, n)
		slices.Sort(l)
		for i, got := range l {
			if got != i {
				t.Errorf("Shuffle %d, %d, %d, sorted: %v", seed, epoch, n, l)
				break
			}
		}
	}
}

// P8, P11: of a seed the rest by P is meant.
func TestSeedByP(t *testing.T) {
	for k := range uint64(8) {
		if got, want := shuffle(t, 5+k*api.P, 9, 16), shuffle(t, 5, 9, 16); !slices.Equal(got, want) {
			t.Errorf("%d times P more: Shuffle = %v, want %v", k, got, want)
		}
		if got, want := batch(t, 5+k*api.P, 8, 16, 9), batch(t, 5, 8, 16, 9); !slices.Equal(got, want) {
			t.Errorf("%d times P more: Batch = %v, want %v", k, got, want)
		}
	}
}

// outside are numbers that no bound from 0 or 1 to most lets go.
func outside(most int) []int {
	return []int{-1, -2, most + 1, most + 2, 1 << 31, 1 << 32, 1<<32 + 1, -1 << 32, math.MaxInt, math.MinInt}
}

// P11: epochs and counts out of their bounds, with nothing beside the error.
func TestWrongShuffles(t *testing.T) {
	refused := func(epoch, n int) {
		t.Helper()
		for _, seed := range []uint64{0, 7, all} {
			if got, e := draw.Shuffle(seed, epoch, n); got != nil || e != api.ErrArg {
				t.Errorf("Shuffle %d, %d, %d = %v, %d", seed, epoch, n, got, e)
			}
		}
	}
	for _, n := range append(outside(16), 0) {
		for _, epoch := range append(outside(1000), 0, 1, 1000) {
			refused(epoch, n)
		}
	}
	for _, epoch := range outside(1000) {
		for _, n := range []int{1, 2, 16} {
			refused(epoch, n)
		}
	}
}

// P11: sizes, counts and steps out of their bounds, with nothing beside the
// error.
func TestWrongBatches(t *testing.T) {
	refused := func(size, n, step int) {
		t.Helper()
		for _, seed := range []uint64{0, 7, all} {
			if got, e := draw.Batch(seed, size, n, step); got != nil || e != api.ErrArg {
				t.Errorf("Batch %d, %d, %d, %d = %v, %d", seed, size, n, step, got, e)
			}
		}
	}
	for _, size := range append(outside(8), 0) {
		for _, n := range []int{1, 16, 0, 17} {
			for _, step := range []int{0, 39, -1, 40} {
				refused(size, n, step)
			}
		}
	}
	for _, n := range append(outside(16), 0) {
		for _, step := range []int{0, 39, -1, 40} {
			refused(1, n, step)
			refused(8, n, step)
		}
	}
	for _, step := range outside(39) {
		for _, n := range []int{1, 16} {
			refused(1, n, step)
			refused(8, n, step)
		}
	}
}

// spoil writes over a list, the room behind it included.
func spoil(l []int) {
	l = l[:cap(l)]
	for i := range l {
		l[i] = 77
	}
}

// P2: an answer that is written over, its own room included, changes no other
// one, be it told already or asked for later.
func TestMemory(t *testing.T) {
	for n := 1; n <= api.MaxData; n++ {
		for size := 1; size <= api.MaxBatch; size++ {
			order, other := shuffle(t, 7, 0, n), shuffle(t, 7, 0, n)
			part, next := batch(t, 7, size, n, 0), batch(t, 7, size, n, 1)
			keptOther, keptPart, keptNext := slices.Clone(other), slices.Clone(part), slices.Clone(next)
			spoil(order)
			if !slices.Equal(other, keptOther) || !slices.Equal(part, keptPart) || !slices.Equal(next, keptNext) {
				t.Errorf("%d of %d: Shuffle shares memory", size, n)
			}
			spoil(part)
			if !slices.Equal(other, keptOther) || !slices.Equal(next, keptNext) {
				t.Errorf("%d of %d: Batch shares memory", size, n)
			}
			if !slices.Equal(shuffle(t, 7, 0, n), keptOther) || !slices.Equal(batch(t, 7, size, n, 0), keptPart) {
				t.Errorf("%d of %d: asked again, another answer", size, n)
			}
		}
	}
}

// P2: nothing is kept, so calls at the same time, and behind wrong ones,
// answer as calls alone.
func TestNothingIsKept(t *testing.T) {
	var group sync.WaitGroup
	for k := range 8 {
		group.Go(func() {
			r := rand.New(rand.NewSource(int64(k)))
			for range 60 {
				seed, epoch, n := uint64(r.Intn(3)), r.Intn(20), 1+r.Intn(api.MaxData)
				draw.Shuffle(seed, -1, n)
				l, e := draw.Shuffle(seed, epoch, n)
				if e != api.OK || !slices.Equal(l, words(seed, epoch, n)) {
					t.Errorf("Shuffle %d, %d, %d = %v, %d", seed, epoch, n, l, e)
				}
				draw.Batch(seed, 9, n, epoch)
				b, e := draw.Batch(seed, 1, n, epoch)
				if e != api.OK || len(b) != 1 || b[0] != words(seed, epoch/n, n)[epoch%n] {
					t.Errorf("Batch %d, 1, %d, %d = %v, %d", seed, n, epoch, b, e)
				}
			}
		})
	}
	group.Wait()
}
