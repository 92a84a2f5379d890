package tree_test

import (
	"math"
	"math/rand"
	"slices"
	"sync"
	"testing"

	"lessonbook/api"
	"lessonbook/digest"
	"lessonbook/tree"
)

const all = math.MaxUint64

// number is one of any size, often at the bounds of digest.Numbers.
func number(r *rand.Rand) int {
	edges := []int{0, 1, -1, api.One, api.Most, -api.Most, 1 << 32, -1 << 32, 1<<32 + 1, math.MaxInt, math.MinInt}
	if r.Intn(3) == 0 {
		return edges[r.Intn(len(edges))]
	}
	return r.Intn(2*api.Most+1) - api.Most
}

func list(r *rand.Rand, n int) []int {
	l := make([]int, n)
	for i := range l {
		l[i] = number(r)
	}
	return l
}

// rising is the list -100, -99, .. of n numbers.
func rising(n int) []int {
	l := make([]int, n)
	for i := range l {
		l[i] = i - 100
	}
	return l
}

// cutLeaves takes numbers off the front, four by four.
func cutLeaves(l []int) []uint64 {
	var out []uint64
	for len(l) > 0 {
		part := l[:min(4, len(l))]
		l = l[len(part):]
		numbers, _ := digest.Numbers(part)
		n, _ := digest.Of(4, numbers)
		out = append(out, n)
	}
	return out
}

// full pairs neighbours of a power of two of leaves, row by row, and tells
// what is left and what stood beside leaf i in each row.
func full(leaves []uint64, i int) (uint64, []uint64) {
	var path []uint64
	for len(leaves) > 1 {
		path = append(path, leaves[i^1])
		var row []uint64
		for k := 0; k < len(leaves); k += 2 {
			row = append(row, digest.Pair(leaves[k], leaves[k+1]))
		}
		leaves, i = row, i/2
	}
	return leaves[0], path
}

// fold pairs from the last on.
func fold(tops []uint64) uint64 {
	out := tops[len(tops)-1]
	for k := len(tops) - 2; k >= 0; k-- {
		out = digest.Pair(tops[k], out)
	}
	return out
}

// words is the tree of P9 and the path of P10, told another way: the leaves
// fall into powers of two, the greatest first, and these are paired from the
// last on.
func words(leaves []uint64, i int) (uint64, []uint64) {
	var tops, path []uint64
	mine := 0
	for size := 64; size > 0; size /= 2 {
		if len(leaves) < size {
			continue
		}
		inside := i >= 0 && i < size
		top, below := full(leaves[:size], max(0, min(i, size-1)))
		if inside {
			mine, path = len(tops), below
		}
		tops = append(tops, top)
		leaves, i = leaves[size:], i-size
	}
	if mine < len(tops)-1 {
		path = append(path, fold(tops[mine+1:]))
	}
	for k := mine - 1; k >= 0; k-- {
		path = append(path, tops[k])
	}
	return fold(tops), path
}

// P9, P10: numbers that were reckoned elsewhere, by the document's words.
func TestByNumbers(t *testing.T) {
	l := []int{-1, 1<<32 + 5, -1 << 40, 7, 0, 65536, -65536, api.Most, 3}
	a, b, c := uint64(1489990720151866599), uint64(1570156949030084534), uint64(1351115699886142809)
	if got, e := tree.Leaves(l); e != api.OK || !slices.Equal(got, []uint64{a, b, c}) {
		t.Errorf("Leaves = %v, %d", got, e)
	}
	if got, e := tree.Root(l); e != api.OK || got != 1311740314512170224 {
		t.Errorf("Root = %d, %d", got, e)
	}
	for i, want := range [][]uint64{{b, c}, {a, c}, {512198859141774146}} {
		if got, e := tree.Path(l, i); e != api.OK || !slices.Equal(got, want) {
			t.Errorf("Path %d = %v, %d, want %v", i, got, e, want)
		}
	}
	if got, e := tree.Leaves([]int{0}); e != api.OK || !slices.Equal(got, []uint64{42124030602085206}) {
		t.Errorf("Leaves of 0 = %v, %d", got, e)
	}
}

// P9: how many numbers there are, from one to all that are taken.
func TestRootByNumbers(t *testing.T) {
	for _, x := range []struct {
		n    int
		want uint64
	}{
		{1, 1118305039607070421},
		{3, 1810864705991774502},
		{4, 793000894805225879},
		{5, 200995926352802750},
		{8, 2295693489018826767},
		{9, 878991498054548365},
		{12, 1596266828403781292},
		{16, 1453513237441312532},
		{17, 688823613082811909},
		{20, 404345564101715511},
		{64, 674642154664250091},
		{65, 650236790307032073},
		{199, 978742267206476569},
		{200, 622964060948928303},
	} {
		if got, e := tree.Root(rising(x.n)); e != api.OK || got != x.want {
			t.Errorf("Root of %d numbers = %d, %d, want %d", x.n, got, e, x.want)
		}
	}
}

// P10: paths of unlike lengths in one tree.
func TestPathByNumbers(t *testing.T) {
	for _, x := range []struct {
		n, i int
		want []uint64
	}{
		{1, 0, nil},
		{4, 0, nil},
		{21, 0, []uint64{1294236374887560380, 1572367655699883488, 1854373740434940343}},
		{21, 4, []uint64{2073087470512993663, 1819240874397210430}},
		{21, 5, []uint64{275644934901402618, 1819240874397210430}},
		{200, 0, []uint64{1294236374887560380, 1572367655699883488, 1006854783478332261, 389301111720864998, 1415926033336208691, 1980555404405538268}},
		{200, 48, []uint64{1732211799978906722, 352022698086163332, 1691332888042586864}},
		{200, 49, []uint64{10323942629258914, 352022698086163332, 1691332888042586864}},
	} {
		if got, e := tree.Path(rising(x.n), x.i); e != api.OK || !slices.Equal(got, x.want) {
			t.Errorf("Path %d of %d numbers = %v, %d, want %v", x.i, x.n, got, e, x.want)
		}
	}
}

// P10: leaves and paths that no list was asked for.
func TestClimbByNumbers(t *testing.T) {
	for _, x := range []struct {
		i, n int
		leaf uint64
		path []uint64
		want uint64
	}{
		{0, 4, 5, nil, 92358478600620477},
		{0, 4, 5, []uint64{}, 92358478600620477},
		{0, 4, 0, nil, 1592013600252114973},
		{0, 1, all, nil, 1103883092245671710},
		{1, 9, 5, []uint64{7, 6}, 2108859260290826814},
		{2, 9, 5, []uint64{7}, 858089722258973796},
		{4, 20, 5, []uint64{7}, 1410742128386431358},
		{49, 200, 5, []uint64{6, 7, 8}, 532982932635194707},
	} {
		if got, e := tree.Climb(x.i, x.n, x.leaf, x.path); e != api.OK || got != x.want {
			t.Errorf("Climb %d of %d, %d, %v = %d, %d, want %d", x.i, x.n, x.leaf, x.path, got, e, x.want)
		}
	}
}

// P9: lists of every length that is taken.
func TestRootByWords(t *testing.T) {
	r := rand.New(rand.NewSource(9))
	for n := 1; n <= api.MaxList; n++ {
		l := list(r, n)
		leaves := cutLeaves(l)
		if got, e := tree.Leaves(l); e != api.OK || !slices.Equal(got, leaves) {
			t.Errorf("Leaves of %v = %v, %d, want %v", l, got, e, leaves)
		}
		top, _ := words(leaves, 0)
		if got, e := tree.Root(l); e != api.OK || got != digest.Pair(uint64(n), top) {
			t.Errorf("Root of %v = %d, %d", l, got, e)
		}
	}
}

// P10: from each chunk, by its path, to the root; however many chunks there
// are, with a last one of every length.
func TestPathByWords(t *testing.T) {
	r := rand.New(rand.NewSource(10))
	for count := 1; count <= 50; count++ {
		l := list(r, 4*count-count%4)
		leaves := cutLeaves(l)
		root, _ := tree.Root(l)
		for i := range leaves {
			_, want := words(leaves, i)
			path, e := tree.Path(l, i)
			if e != api.OK || !slices.Equal(path, want) {
				t.Errorf("Path %d of %v = %v, %d, want %v", i, l, path, e, want)
			}
			if got, e := tree.Climb(i, len(l), leaves[i], path); e != api.OK || got != root {
				t.Errorf("Climb %d of %d numbers = %d, %d, want %d", i, len(l), got, e, root)
			}
		}
	}
}

// P10: another leaf, another path, another place or another length is another
// root.
func TestClimbTellsApart(t *testing.T) {
	seen := map[uint64]string{}
	note := func(name string, i, n int, leaf uint64, path ...uint64) {
		t.Helper()
		got, e := tree.Climb(i, n, leaf, path)
		if e != api.OK || got >= api.P {
			t.Errorf("%s: %d, %d", name, got, e)
		}
		if other, ok := seen[got]; ok {
			t.Errorf("%s and %s: the same", name, other)
		}
		seen[got] = name
	}
	note("a list of 16", 1, 16, 5, 6, 7)
	note("another leaf", 1, 16, 4, 6, 7)
	note("another path, below", 1, 16, 5, 8, 7)
	note("another path, above", 1, 16, 5, 6, 8)
	note("another order", 1, 16, 5, 7, 6)
	note("another place", 0, 16, 5, 6, 7)
	note("a place beyond", 3, 16, 5, 6, 7)
	note("a number fewer", 1, 15, 5, 6, 7)
	note("a chunk fewer", 1, 12, 5, 6, 7)
	note("one chunk", 0, 4, 5)
	note("one shorter chunk", 0, 3, 5)
}

// P8, P10: of a leaf and of a path's numbers the rest by P is meant.
func TestClimbByP(t *testing.T) {
	for _, n := range []int{1, 4, 5, 9, 200} {
		for i := range (n + 3) / 4 {
			path, _ := tree.Path(rising(n), i)
			small := make([]uint64, len(path))
			for k := range small {
				small[k] = uint64(k)
				path[k] = uint64(k) + api.P
			}
			a, e := tree.Climb(i, n, 9+7*api.P, path)
			b, f := tree.Climb(i, n, 9, small)
			if e != api.OK || f != api.OK || a != b {
				t.Errorf("Climb %d of %d = %d, %d, of its rests %d, %d", i, n, a, e, b, f)
			}
		}
	}
}

// wrong asks what must be refused, and that nothing is told beside the error.
func wrong(t *testing.T, l []int, i int, want api.Errno) {
	t.Helper()
	if got, e := tree.Path(l, i); got != nil || e != want {
		t.Errorf("Path %d of %d numbers = %v, %d, want %d", i, len(l), got, e, want)
	}
}

// P9, P10: lists that are not taken, which goes ahead of a chunk that is not
// there.
func TestWrongLists(t *testing.T) {
	for _, x := range []struct {
		l    []int
		want api.Errno
	}{
		{nil, api.ErrArg},
		{[]int{}, api.ErrArg},
		{make([]int, 0, 300), api.ErrArg},
		{make([]int, 201), api.ErrLarge},
		{make([]int, 204), api.ErrLarge},
		{make([]int, 5000), api.ErrLarge},
	} {
		if got, e := tree.Leaves(x.l); got != nil || e != x.want {
			t.Errorf("Leaves of %d numbers = %v, %d", len(x.l), got, e)
		}
		if got, e := tree.Root(x.l); got != 0 || e != x.want {
			t.Errorf("Root of %d numbers = %d, %d", len(x.l), got, e)
		}
		for _, i := range []int{0, 1, -1, 50, 51, math.MaxInt, math.MinInt} {
			wrong(t, x.l, i, x.want)
		}
	}
}

// refused: does Climb refuse it, and tell nothing beside the error?
func refused(t *testing.T, i, n int, path []uint64, want api.Errno) {
	t.Helper()
	if got, e := tree.Climb(i, n, 1, path); got != 0 || e != want {
		t.Errorf("Climb %d of %d, a path of %d = %d, %d, want %d", i, n, len(path), got, e, want)
	}
}

// P10: chunks that are not there, which goes ahead of a path's length.
func TestWrongChunks(t *testing.T) {
	for _, x := range []struct{ n, chunks int }{{1, 1}, {3, 1}, {4, 1}, {5, 2}, {8, 2}, {9, 3}, {196, 49}, {197, 50}, {200, 50}} {
		for _, i := range []int{x.chunks, x.chunks + 1, -1, -2, math.MaxInt, math.MinInt} {
			wrong(t, rising(x.n), i, api.ErrArg)
			for length := range 8 {
				refused(t, i, x.n, make([]uint64, length), api.ErrArg)
			}
		}
		if _, e := tree.Path(rising(x.n), x.chunks-1); e != api.OK {
			t.Errorf("Path of the last chunk of %d numbers: %d", x.n, e)
		}
	}
}

// P10: lengths that no list has.
func TestWrongLengths(t *testing.T) {
	for _, n := range []int{0, -1, -4, 201, 202, 5000, math.MaxInt, math.MaxInt - 3, math.MinInt} {
		for _, i := range []int{0, 1, 50, -1, math.MaxInt, math.MinInt} {
			for length := range 8 {
				refused(t, i, n, make([]uint64, length), api.ErrArg)
			}
		}
	}
}

// P10: paths that are too long or too short for their chunk.
func TestWrongPaths(t *testing.T) {
	for n := 1; n <= api.MaxList; n++ {
		leaves := make([]uint64, (n+3)/4)
		for i := range leaves {
			_, path := words(leaves, i)
			for _, length := range []int{0, 1, 2, 3, 4, 5, 6, 7, 200, 5000} {
				if length != len(path) {
					refused(t, i, n, make([]uint64, length), api.ErrForm)
				}
			}
			if _, e := tree.Climb(i, n, 1, make([]uint64, len(path))); e != api.OK {
				t.Errorf("Climb %d of %d, a path of %d: %d", i, n, len(path), e)
			}
		}
	}
}

// spoil writes over a list, the room behind it included.
func spoil(l []uint64) {
	l = l[:cap(l)]
	for i := range l {
		l[i] = 77
	}
}

// P2: what is handed in stays as it was, the room behind it included, also
// when the answers are written over, their own room included.
func TestMemory(t *testing.T) {
	for _, n := range []int{0, 1, 4, 5, 9, 21, 199, 200, 201} {
		room := rising(240)
		l := room[:n]
		leaves, _ := tree.Leaves(l)
		path, _ := tree.Path(l, 0)
		root, e := tree.Root(l)
		keptLeaves, keptPath := slices.Clone(leaves), slices.Clone(path)
		spoil(leaves)
		if !slices.Equal(path, keptPath) {
			t.Errorf("%d numbers: Leaves and Path share memory", n)
		}
		spoil(path)
		if !slices.Equal(room, rising(240)) {
			t.Errorf("%d numbers: what was handed in is changed", n)
		}
		againLeaves, _ := tree.Leaves(l)
		againPath, _ := tree.Path(l, 0)
		againRoot, f := tree.Root(l)
		if !slices.Equal(againLeaves, keptLeaves) || !slices.Equal(againPath, keptPath) || againRoot != root || e != f {
			t.Errorf("%d numbers: asked again, another answer", n)
		}
	}
}

// P2: Climb leaves its path as it was, and the room behind it.
func TestClimbChangesNothing(t *testing.T) {
	for length := range 8 {
		room := []uint64{11, 12, 13, 14, 15, 16, 17, 18, 19}
		kept := slices.Clone(room)
		for i := range 50 {
			tree.Climb(i, 200, all, room[:length])
		}
		if !slices.Equal(room, kept) {
			t.Errorf("a path of %d is changed", length)
		}
	}
}

// P2: room behind a list is nothing to an answer.
func TestRoomIsNothing(t *testing.T) {
	for _, n := range []int{1, 5, 9, 198} {
		roomy, tight := rising(500)[:n], rising(n)
		a, e := tree.Root(roomy)
		b, f := tree.Root(tight)
		if a != b || e != f {
			t.Errorf("Root of %d numbers hangs on the room behind them", n)
		}
		path, e := tree.Path(roomy, 0)
		want, f := tree.Path(tight, 0)
		if !slices.Equal(path, want) || e != f {
			t.Errorf("Path of %d numbers hangs on the room behind them", n)
		}
	}
}

// P2: nothing is kept, so calls at the same time answer as calls alone.
func TestNothingIsKept(t *testing.T) {
	var group sync.WaitGroup
	for k := range 8 {
		group.Go(func() {
			r := rand.New(rand.NewSource(int64(k)))
			for range 60 {
				l := list(r, 1+r.Intn(40))
				leaves := cutLeaves(l)
				i := r.Intn(len(leaves))
				top, want := words(leaves, i)
				root, e := tree.Root(l)
				path, f := tree.Path(l, i)
				up, g := tree.Climb(i, len(l), leaves[i], path)
				if e != api.OK || f != api.OK || g != api.OK || root != digest.Pair(uint64(len(l)), top) || up != root || !slices.Equal(path, want) {
					t.Errorf("%v, chunk %d: %d, %v, %d", l, i, root, path, up)
				}
			}
		})
	}
	group.Wait()
}
