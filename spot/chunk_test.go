package spot_test

import (
	"math"
	"math/rand"
	"slices"
	"testing"

	"lessonbook/api"
	"lessonbook/digest"
	"lessonbook/spot"
	"lessonbook/tree"
)

// rising is the list -100, -99, .. of n numbers.
func rising(n int) []int {
	l := make([]int, n)
	for i := range l {
		l[i] = i - 100
	}
	return l
}

// lengths are those of lists: all the short ones, those around 32 chunks and
// the longest ones, and some between.
func lengths() []int {
	var l []int
	for n := 1; n <= api.MaxList; n++ {
		if n <= 40 || n%17 == 0 || n >= 126 && n <= 130 || n >= 196 {
			l = append(l, n)
		}
	}
	return l
}

// cut is the list as the chunks of P9, taken off the front.
func cut(l []int) [][]int {
	var out [][]int
	for len(l) > 4 {
		out = append(out, l[:4])
		l = l[4:]
	}
	return append(out, l)
}

// split is a state of which the weights and, behind them, the moves are l.
func split(l []int, at int) api.State { return api.State{Weights: l[:at], Moves: l[at:]} }

func isChunk(t *testing.T, s api.State, i int, chunk []int, path []uint64) {
	t.Helper()
	gotChunk, gotPath, e := spot.Chunk(s, i)
	if e != api.OK || !slices.Equal(gotChunk, chunk) || !slices.Equal(gotPath, path) {
		t.Errorf("Chunk %d of %v = %v, %v, %d, want %v, %v", i, s, gotChunk, gotPath, e, chunk, path)
	}
}

func isOpened(t *testing.T, root uint64, n, i int, chunk []int, path []uint64, want bool) {
	t.Helper()
	if got, e := spot.Opens(root, n, i, chunk, path); e != api.OK || got != want {
		t.Errorf("Opens of %d, chunk %d of %d, %v, %v = %t, %d", root, i, n, chunk, path, got, e)
	}
}

// opened is one chunk of a list, its path, and that list's root, reckoned
// elsewhere.
type opened struct {
	l     []int
	i     int
	chunk []int
	path  []uint64
	root  uint64
}

func openings() []opened {
	small := []int{1, 2, 3, 4, 5}
	wide := []int{-1, 1<<32 + 5, -1 << 40, 7, 0, 65536, -65536, most, 3}
	a, b, c := uint64(1489990720151866599), uint64(1570156949030084534), uint64(1351115699886142809)
	return []opened{
		{[]int{1}, 0, []int{1}, nil, 658647065380269259},
		{[]int{1, 2, 3, 4}, 0, []int{1, 2, 3, 4}, nil, 1830077658488377839},
		{small, 0, []int{1, 2, 3, 4}, []uint64{2076350571076885826}, 1433694290867580234},
		{small, 1, []int{5}, []uint64{1124084580680703257}, 1433694290867580234},
		{wide, 0, []int{-1, 1<<32 + 5, -1 << 40, 7}, []uint64{b, c}, 1311740314512170224},
		{wide, 1, []int{0, 65536, -65536, most}, []uint64{a, c}, 1311740314512170224},
		{wide, 2, []int{3}, []uint64{512198859141774146}, 1311740314512170224},
		{rising(21), 0, []int{-100, -99, -98, -97}, []uint64{1294236374887560380, 1572367655699883488, 1854373740434940343}, 495212834097599820},
		{rising(21), 3, []int{-88, -87, -86, -85}, []uint64{1590034082268644041, 608269739028801450, 1854373740434940343}, 495212834097599820},
		{rising(21), 4, []int{-84, -83, -82, -81}, []uint64{2073087470512993663, 1819240874397210430}, 495212834097599820},
		{rising(21), 5, []int{-80}, []uint64{275644934901402618, 1819240874397210430}, 495212834097599820},
		{rising(200), 25, []int{0, 1, 2, 3}, []uint64{311486863137318011, 178878995074428839, 407434920096849152, 1998386562880964351, 2139860909424652925, 1980555404405538268}, 622964060948928303},
		{rising(200), 48, []int{92, 93, 94, 95}, []uint64{1732211799978906722, 352022698086163332, 1691332888042586864}, 622964060948928303},
		{rising(200), 49, []int{96, 97, 98, 99}, []uint64{10323942629258914, 352022698086163332, 1691332888042586864}, 622964060948928303},
	}
}

// P22: chunks and paths reckoned elsewhere, wherever the weights end, and that
// they open the root.
func TestChunksByNumbers(t *testing.T) {
	for _, x := range openings() {
		for at := range len(x.l) + 1 {
			isChunk(t, split(x.l, at), x.i, x.chunk, x.path)
		}
		for _, root := range likeRoots(x.root) {
			isOpened(t, root, len(x.l), x.i, x.chunk, x.path, true)
		}
		for _, root := range otherRoots(x.root) {
			isOpened(t, root, len(x.l), x.i, x.chunk, x.path, false)
		}
	}
}

// P22: paths that no list was asked for, reckoned elsewhere.
func TestOpensByNumbers(t *testing.T) {
	for _, x := range []struct {
		n, i  int
		chunk []int
		path  []uint64
		root  uint64
	}{
		{1, 0, []int{0}, nil, 2303313600522737245},
		{4, 0, []int{1, 2, 3, 4}, []uint64{}, 1830077658488377839},
		{5, 1, []int{-7}, []uint64{9}, 2045762335502998729},
		{5, 0, []int{1, 2, 3, 4}, []uint64{0}, 1191933675763023387},
		{9, 2, []int{5}, []uint64{7}, 876321500229555160},
		{9, 1, []int{5, 6, 7, 8}, []uint64{7, 6}, 46214386023677803},
		{18, 4, []int{5, 6}, []uint64{7}, 349381273997614983},
		{199, 49, []int{1, 2, 3}, []uint64{6, 7, 8}, 239914056487154882},
		{200, 49, []int{1, 2, 3, 4}, []uint64{6, 7, 8}, 1429142588941226638},
		{200, 7, []int{1 << 40, -1 << 40, 0, 1}, []uint64{1, 2, 3, 4, 5, 6}, 1384389823256680160},
	} {
		for _, root := range likeRoots(x.root) {
			isOpened(t, root, x.n, x.i, x.chunk, x.path, true)
		}
		for _, root := range otherRoots(x.root) {
			isOpened(t, root, x.n, x.i, x.chunk, x.path, false)
		}
	}
}

// eachChunk asks f of every chunk of lists of many lengths, with its path and
// the list's root, told by the layer below.
func eachChunk(t *testing.T, r *rand.Rand, f func(l []int, i int, chunk []int, path []uint64, root uint64)) {
	t.Helper()
	for _, n := range lengths() {
		l := list(r, n)
		l[r.Intn(n)] = []int{math.MaxInt, math.MinInt, 1 << 32, -1 << 32, most + 1}[r.Intn(5)]
		root, e := tree.Root(l)
		if e != api.OK {
			t.Fatalf("Root of %v: %d", l, e)
		}
		for i, chunk := range cut(l) {
			path, e := tree.Path(l, i)
			if e != api.OK {
				t.Fatalf("Path %d of %v: %d", i, l, e)
			}
			f(l, i, chunk, path, root)
		}
	}
}

// P22: every chunk of lists of many lengths; weights and moves need not be as
// long, and a chunk may have some of both.
func TestChunkByWords(t *testing.T) {
	r := rand.New(rand.NewSource(21))
	eachChunk(t, r, func(l []int, i int, chunk []int, path []uint64, _ uint64) {
		isChunk(t, split(l, r.Intn(len(l)+1)), i, chunk, path)
		if i == 0 {
			isChunk(t, api.State{Weights: l}, i, chunk, path)
			isChunk(t, api.State{Moves: l}, i, chunk, path)
			isChunk(t, api.State{Weights: []int{}, Moves: l}, i, chunk, path)
		}
	})
}

// P22: every chunk of lists of many lengths opens, and with another number in
// its path, or another root, it does not.
func TestOpensByWords(t *testing.T) {
	r := rand.New(rand.NewSource(22))
	eachChunk(t, r, func(l []int, i int, chunk []int, path []uint64, root uint64) {
		n := len(l)
		isOpened(t, root, n, i, chunk, path, true)
		isOpened(t, root+7*api.P, n, i, chunk, path, true)
		isOpened(t, root+1, n, i, chunk, path, false)
		for k := range path {
			wrong := slices.Clone(path)
			wrong[k]++
			isOpened(t, root, n, i, chunk, wrong, false)
		}
	})
}

// P22: another place, another length, or another order is not opened.
func TestOpensTellsApart(t *testing.T) {
	l := rising(16)
	root, _ := tree.Root(l)
	chunk, path, e := spot.Chunk(split(l, 8), 1)
	if e != api.OK {
		t.Fatalf("Chunk 1: %d", e)
	}
	isOpened(t, root, 16, 1, chunk, path, true)
	for _, i := range []int{0, 2, 3} {
		isOpened(t, root, 16, i, chunk, path, false)
	}
	for _, n := range []int{13, 14, 15} {
		isOpened(t, root, n, 1, chunk, path, false)
	}
	isOpened(t, root, 16, 1, []int{-95, -96, -94, -93}, path, false)
	isOpened(t, root, 16, 1, []int{-96, -95, -93, -94}, path, false)
	isOpened(t, root, 16, 1, chunk, []uint64{path[1], path[0]}, false)
}

// P8, P22: of a path's numbers the rest by P is meant, and of a chunk's numbers
// beyond digest's bounds the bound.
func TestOpensOfTheSame(t *testing.T) {
	r := rand.New(rand.NewSource(23))
	eachChunk(t, r, func(l []int, i int, chunk []int, path []uint64, root uint64) {
		more := slices.Clone(path)
		for k := range more {
			more[k] += api.P * uint64(r.Intn(8))
		}
		isOpened(t, root, len(l), i, chunk, more, true)
	})
	l := []int{1 << 32, -1 << 32, 0, 0, 9}
	root, _ := tree.Root(l)
	path, _ := tree.Path(l, 0)
	isOpened(t, root, 5, 0, []int{math.MaxInt, math.MinInt, 0, 0}, path, true)
	isOpened(t, root, 5, 0, []int{1<<32 + 1, -1<<32 - 1, 0, 0}, path, true)
	isOpened(t, root, 5, 0, []int{1<<32 - 1, -1 << 32, 0, 0}, path, false)
}

// P22: numbers that the digests tell apart are told apart: one more, or one
// less, at each place of each chunk.
func TestOpensSeesEachNumber(t *testing.T) {
	for _, n := range []int{1, 2, 3, 4, 5, 7, 9, 22, 80, 199} {
		l := rising(n)
		root, _ := tree.Root(l)
		for i, chunk := range cut(l) {
			path, _ := tree.Path(l, i)
			for k := range chunk {
				for _, by := range []int{1, -1, 1 << 20} {
					other := slices.Clone(chunk)
					other[k] += by
					isOpened(t, root, n, i, other, path, false)
				}
			}
		}
	}
}

// P21, P22: a state that was proved is opened, chunk by chunk, by its root.
func TestWhatIsProvedOpens(t *testing.T) {
	r := rand.New(rand.NewSource(24))
	eachShape(r, func(c api.Config) {
		data := some(r, c)
		step := r.Intn(min(c.Steps, 4))
		s := prove(t, c, data, step)
		root := rootOf(t, s)
		var all []int
		for i := range (2*count(c) + 3) / 4 {
			chunk, path, e := spot.Chunk(s, i)
			if e != api.OK {
				t.Fatalf("Chunk %d of %v: %d", i, s, e)
			}
			isOpened(t, root, 2*count(c), i, chunk, path, true)
			all = append(all, chunk...)
		}
		if !slices.Equal(all, slices.Concat(s.Weights, s.Moves)) {
			t.Errorf("the chunks of %v are %v", s, all)
		}
	})
}

// wrongPlaces are no chunks of a list that has so many.
func wrongPlaces(chunks int) []int {
	return []int{chunks, chunks + 1, -1, -2, 4 * chunks, 1 << 62, 1<<62 + 1, -1 << 62, math.MaxInt, math.MinInt}
}

func refusedChunk(t *testing.T, s api.State, i int, want api.Errno) {
	t.Helper()
	if chunk, path, e := spot.Chunk(s, i); chunk != nil || path != nil || e != want {
		t.Errorf("Chunk %d of %d and %d numbers = %v, %v, %d, want %d", i, len(s.Weights), len(s.Moves), chunk, path, e, want)
	}
}

// P22: chunks that are not there; lists with nothing in them, and those that
// are too long together, go ahead of that.
func TestWrongChunks(t *testing.T) {
	for n := 1; n <= api.MaxList; n++ {
		l := rising(n)
		for _, i := range wrongPlaces((n + 3) / 4) {
			refusedChunk(t, split(l, n/2), i, api.ErrArg)
		}
	}
	places := append(wrongPlaces(50), 0, 1, 49)
	for _, i := range places {
		refusedChunk(t, api.State{}, i, api.ErrArg)
		refusedChunk(t, api.State{Weights: []int{}, Moves: make([]int, 0, 9)}, i, api.ErrArg)
		for _, x := range [][2]int{{201, 0}, {0, 201}, {100, 101}, {200, 1}, {1, 200}, {200, 200}, {201, 201}, {5000, 5000}} {
			refusedChunk(t, api.State{Weights: make([]int, x[0]), Moves: make([]int, x[1])}, i, api.ErrLarge)
		}
	}
}

func refusedOpens(t *testing.T, n, i int, chunk []int, path []uint64, want api.Errno) {
	t.Helper()
	for _, root := range []uint64{0, full} {
		if got, e := spot.Opens(root, n, i, chunk, path); got || e != want {
			t.Errorf("Opens of chunk %d of %d, %d numbers, a path of %d = %t, %d, want %d", i, n, len(chunk), len(path), got, e, want)
		}
	}
}

// P22: chunks with another number of numbers than there are at that place.
func TestOpensOfWrongChunks(t *testing.T) {
	for _, n := range lengths() {
		l := rising(n)
		for i, chunk := range cut(l) {
			path, _ := tree.Path(l, i)
			for _, length := range []int{0, 1, 2, 3, 4, 5, 8, n, 200, 201, 5000} {
				if length != len(chunk) {
					refusedOpens(t, n, i, make([]int, length), path, api.ErrForm)
				}
			}
			refusedOpens(t, n, i, nil, path, api.ErrForm)
			if _, e := spot.Opens(0, n, i, make([]int, len(chunk)), path); e != api.OK {
				t.Errorf("Opens of chunk %d of %d, with as many numbers as it has: %d", i, n, e)
			}
		}
	}
}

// P22: noughts that fill up a last chunk are not what is left.
func TestOpensOfFilledChunks(t *testing.T) {
	root, _ := tree.Root([]int{1, 2, 3})
	isOpened(t, root, 3, 0, []int{1, 2, 3}, nil, true)
	isOpened(t, root, 4, 0, []int{1, 2, 3, 0}, nil, false)
	for n := range 5 {
		if n > 0 && n != 3 {
			isOpened(t, root, n, 0, []int{1, 2, 3, 0}[:n], nil, false)
		}
	}
}

// P22: places and lengths that are not there go ahead of what the path and the
// chunk are; paths that are not as long as they must be are told too.
func TestOpensOfWrongPlaces(t *testing.T) {
	counts := []int{0, 1, 3, 4, 5, 201}
	for _, n := range []int{1, 3, 4, 5, 8, 9, 196, 197, 200} {
		for _, i := range wrongPlaces((n + 3) / 4) {
			for _, length := range counts {
				for path := range 8 {
					refusedOpens(t, n, i, make([]int, length), make([]uint64, path), api.ErrArg)
				}
			}
		}
	}
	for _, n := range []int{0, -1, -4, 201, 202, 5000, math.MaxInt, math.MaxInt - 3, math.MinInt} {
		for _, i := range []int{0, 1, 50, -1, math.MaxInt, math.MinInt} {
			for _, length := range counts {
				refusedOpens(t, n, i, make([]int, length), make([]uint64, 3), api.ErrArg)
			}
		}
	}
	for _, n := range lengths() {
		for i, chunk := range cut(rising(n)) {
			right, _ := tree.Path(rising(n), i)
			for _, path := range []int{0, 1, 2, 3, 4, 5, 6, 7, 200, 5000} {
				if path != len(right) {
					refusedOpens(t, n, i, chunk, make([]uint64, path), api.ErrForm)
				}
			}
		}
	}
}

// P22: where the leaf stands in the tree, by the digests alone.
func TestOpensByDigests(t *testing.T) {
	leaf := func(l ...int) uint64 {
		numbers, _ := digest.Numbers(l)
		n, _ := digest.Of(4, numbers)
		return n
	}
	a, b, c := leaf(1, 2, 3, 4), leaf(5, 6, 7, 8), leaf(9, 10)
	root := digest.Pair(10, digest.Pair(digest.Pair(a, b), c))
	isOpened(t, root, 10, 0, []int{1, 2, 3, 4}, []uint64{b, c}, true)
	isOpened(t, root, 10, 1, []int{5, 6, 7, 8}, []uint64{a, c}, true)
	isOpened(t, root, 10, 2, []int{9, 10}, []uint64{digest.Pair(a, b)}, true)
	isOpened(t, root, 9, 1, []int{5, 6, 7, 8}, []uint64{a, c}, false)
	isOpened(t, root, 10, 0, []int{5, 6, 7, 8}, []uint64{a, c}, false)
}
