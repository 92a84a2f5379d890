package digest_test

import (
	"math"
	"math/big"
	"math/rand"
	"slices"
	"sync"
	"testing"

	"lessonbook/api"
	"lessonbook/digest"
)

const all = math.MaxUint64

// words is Of as P8 tells it, with numbers of any size.
func words(kind uint64, l []uint64) uint64 {
	m := [3]*big.Int{wide(kind), wide(uint64(len(l))), wide(1)}
	mixed(&m)
	for _, n := range l {
		m[0].Add(m[0], wide(n))
		mixed(&m)
	}
	return m[1].Uint64()
}

func wide(n uint64) *big.Int { return new(big.Int).SetUint64(n) }

func mixed(m *[3]*big.Int) {
	p := wide(api.P)
	for i := range 6 {
		sum := new(big.Int)
		for k := range m {
			m[k].Add(m[k], wide(uint64((i+1)*(k+1))))
			m[k].Exp(m[k], big.NewInt(17), p)
			sum.Add(sum, m[k])
		}
		for k := range m {
			m[k].Add(m[k], sum)
			m[k].Mod(m[k], p)
		}
	}
}

// number is one of any size, often at P or at a word's bounds.
func number(r *rand.Rand) uint64 {
	edges := []uint64{0, 1, 2, 3, api.P - 19, api.P - 1, api.P, api.P + 1, 8 * api.P, 8*api.P + 7, 1 << 32, 1 << 33, 1 << 61, 1 << 63, all - 1, all}
	if r.Intn(3) == 0 {
		return edges[r.Intn(len(edges))]
	}
	return r.Uint64() >> r.Intn(64)
}

func list(r *rand.Rand, n int) []uint64 {
	l := make([]uint64, n)
	for i := range l {
		l[i] = number(r)
	}
	return l
}

func upTo(n int) []uint64 {
	l := make([]uint64, n)
	for i := range l {
		l[i] = uint64(i)
	}
	return l
}

// of asks Of what it must not refuse.
func of(t *testing.T, kind uint64, l []uint64) uint64 {
	t.Helper()
	n, e := digest.Of(kind, l)
	if e != api.OK {
		t.Errorf("Of %d of %d numbers: %d", kind, len(l), e)
	}
	if n >= api.P {
		t.Errorf("Of %d of %v = %d: not below P", kind, l, n)
	}
	return n
}

// P8: numbers that were reckoned elsewhere, by the document's words.
func TestOfByNumbers(t *testing.T) {
	for _, x := range []struct {
		kind uint64
		l    []uint64
		want uint64
	}{
		{0, nil, 1261967354427800584},
		{0, []uint64{}, 1261967354427800584},
		{1, nil, 1691744269506570127},
		{1, []uint64{0}, 467919498792164030},
		{1, []uint64{0, 0}, 340944543484238339},
		{3, []uint64{1, 2}, 566406909406492110},
		{3, []uint64{2, 1}, 1237712488212256276},
		{2, []uint64{1, 2}, 1273849477292637175},
		{1, []uint64{api.P - 1}, 481831323465322310},
		{api.P - 1, []uint64{all}, 650503003918064372},
		{all, []uint64{1, 2, 3}, 2007064780349169641},
		{7, upTo(200), 1635946388702820408},
	} {
		if got := of(t, x.kind, x.l); got != x.want {
			t.Errorf("Of %d of %v = %d, want %d", x.kind, x.l, got, x.want)
		}
	}
}

// P8: lists of every length that is taken, with numbers of any size.
func TestOfByWords(t *testing.T) {
	r := rand.New(rand.NewSource(8))
	for n := range api.MaxList + 1 {
		kind, l := number(r), list(r, n)
		if got, want := of(t, kind, l), words(kind, l); got != want {
			t.Errorf("Of %d of %v = %d, want %d", kind, l, got, want)
		}
	}
	for range 2000 {
		kind, l := number(r), list(r, r.Intn(5))
		if got, want := of(t, kind, l), words(kind, l); got != want {
			t.Errorf("Of %d of %v = %d, want %d", kind, l, got, want)
		}
	}
}

// P8: the rest by P is meant, of the kind and of each number.
func TestRestByP(t *testing.T) {
	r := rand.New(rand.NewSource(9))
	for range 300 {
		kind, l := number(r), list(r, r.Intn(6))
		rest := slices.Clone(l)
		for i := range rest {
			rest[i] %= api.P
		}
		if a, b := of(t, kind, l), of(t, kind%api.P, rest); a != b {
			t.Errorf("Of %d of %v = %d, of its rests %d", kind, l, a, b)
		}
	}
	for k := range uint64(8) {
		if of(t, 5+k*api.P, []uint64{6 + k*api.P}) != of(t, 5, []uint64{6}) {
			t.Errorf("%d times P more is another digest", k)
		}
	}
}

// P8: the kind, the order, how many there are and each number are told apart.
func TestUnlikeLists(t *testing.T) {
	seen := map[uint64]string{}
	note := func(name string, n uint64) {
		t.Helper()
		if other, ok := seen[n]; ok {
			t.Errorf("%s and %s: the same", name, other)
		}
		seen[n] = name
	}
	for kind := range uint64(5) {
		for n := range 201 {
			note("noughts", of(t, kind, make([]uint64, n)))
		}
		note("1", of(t, kind, []uint64{1}))
		note("1, 2", of(t, kind, []uint64{1, 2}))
		note("2, 1", of(t, kind, []uint64{2, 1}))
		note("3, 0", of(t, kind, []uint64{3, 0}))
		note("0, 3", of(t, kind, []uint64{0, 3}))
		note("0, P - 1", of(t, kind, []uint64{0, api.P - 1}))
	}
}

// P8: 200 are taken, 201 are not, and nothing is told beside that.
func TestTooLong(t *testing.T) {
	for _, n := range []int{201, 202, 400, 5000} {
		if got, e := digest.Of(1, make([]uint64, n)); got != 0 || e != api.ErrLarge {
			t.Errorf("Of %d numbers: %d, %d", n, got, e)
		}
		if got, e := digest.Numbers(make([]int, n)); got != nil || e != api.ErrLarge {
			t.Errorf("Numbers of %d: %v, %d", n, got, e)
		}
	}
	for _, n := range []int{0, 1, 199, 200} {
		of(t, all, make([]uint64, n))
		if got, e := digest.Numbers(make([]int, n)); len(got) != n || e != api.OK {
			t.Errorf("Numbers of %d: %v, %d", n, got, e)
		}
	}
}

// P8: a pair is a list of two, and so is a word, of a kind of its own.
func TestPairAndWord(t *testing.T) {
	r := rand.New(rand.NewSource(10))
	for range 500 {
		a, b := number(r), number(r)
		if got, want := digest.Pair(a, b), of(t, 3, []uint64{a, b}); got != want {
			t.Errorf("Pair %d, %d = %d, want %d", a, b, got, want)
		}
		if got, want := digest.Word(a, b), of(t, 2, []uint64{a, b}); got != want {
			t.Errorf("Word %d, %d = %d, want %d", a, b, got, want)
		}
	}
	for _, x := range []struct{ a, b, pair, word uint64 }{
		{1, 2, 566406909406492110, 1273849477292637175},
		{0, 0, 195707874810356012, 1690707666293729855},
	} {
		if got := digest.Pair(x.a, x.b); got != x.pair {
			t.Errorf("Pair %d, %d = %d, want %d", x.a, x.b, got, x.pair)
		}
		if got := digest.Word(x.a, x.b); got != x.word {
			t.Errorf("Word %d, %d = %d, want %d", x.a, x.b, got, x.word)
		}
	}
	if got := digest.Pair(all, all); got != 622624837269283677 {
		t.Errorf("Pair of the greatest = %d", got)
	}
}

// P8: each number's bounds, and order is kept.
func TestNumbers(t *testing.T) {
	const bound = 1 << 32
	for _, x := range []struct {
		n    int
		want uint64
	}{
		{0, bound},
		{1, bound + 1},
		{-1, bound - 1},
		{api.Most, bound + api.Most},
		{-api.Most, bound - api.Most},
		{bound - 1, 2*bound - 1},
		{bound, 2 * bound},
		{bound + 1, 2 * bound},
		{-bound + 1, 1},
		{-bound, 0},
		{-bound - 1, 0},
		{math.MaxInt, 2 * bound},
		{math.MinInt, 0},
	} {
		got, e := digest.Numbers([]int{7, x.n, -7})
		if e != api.OK || !slices.Equal(got, []uint64{bound + 7, x.want, bound - 7}) {
			t.Errorf("Numbers of %d = %v, %d, want %d", x.n, got, e, x.want)
		}
	}
	for _, l := range [][]int{nil, {}} {
		if got, e := digest.Numbers(l); len(got) != 0 || e != api.OK {
			t.Errorf("Numbers of nothing = %v, %d", got, e)
		}
	}
}

// P2: what is handed in stays as it was, the room behind it included, also
// when the answer is written over, its own room included.
func TestMemory(t *testing.T) {
	for _, n := range []int{0, 1, 5, 199, 200, 201} {
		ints, digits := make([]int, 240), upTo(240)
		for i := range ints {
			ints[i] = i - 100
		}
		keptInts, keptDigits := slices.Clone(ints), slices.Clone(digits)
		digest.Of(4, digits[:n])
		got, e := digest.Numbers(ints[:n])
		answer := slices.Clone(got)
		for i := range got[:cap(got)] {
			got[:cap(got)][i] = 77
		}
		if !slices.Equal(ints, keptInts) || !slices.Equal(digits, keptDigits) {
			t.Errorf("%d numbers: what was handed in is changed", n)
		}
		again, e2 := digest.Numbers(ints[:n])
		if e != e2 || !slices.Equal(again, answer) {
			t.Errorf("%d numbers: asked again, Numbers = %v, %d, want %v, %d", n, again, e2, answer, e)
		}
	}
}

// P2: room behind a list is nothing to an answer.
func TestRoomIsNothing(t *testing.T) {
	l := make([]uint64, 3, 500)
	if of(t, 1, l) != of(t, 1, make([]uint64, 3)) {
		t.Error("Of hangs on the room behind its list")
	}
	if got, e := digest.Numbers(make([]int, 3, 500)); len(got) != 3 || e != api.OK {
		t.Errorf("Numbers = %v, %d", got, e)
	}
}

// P2: nothing is kept, so calls at the same time answer as calls alone.
func TestNothingIsKept(t *testing.T) {
	var group sync.WaitGroup
	for k := range 8 {
		group.Go(func() {
			r := rand.New(rand.NewSource(int64(k)))
			for range 60 {
				kind, l := number(r), list(r, r.Intn(8))
				got, e := digest.Of(kind, l)
				if e != api.OK || got != words(kind, l) {
					t.Errorf("Of %d of %v = %d, %d", kind, l, got, e)
				}
				if a, b := number(r), number(r); digest.Pair(a, b) != words(3, []uint64{a, b}) {
					t.Errorf("Pair %d, %d", a, b)
				}
			}
		})
	}
	group.Wait()
}
