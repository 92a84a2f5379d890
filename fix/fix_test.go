package fix_test

import (
	"math"
	"math/big"
	"math/rand"
	"sync"
	"testing"

	"lessonbook/api"
	"lessonbook/fix"
)

const (
	one  = api.One
	most = api.Most
)

// edges are the numbers at which an answer may turn: around 0, around One and
// its halves, around the bounds, and far beyond them.
func edges() []int {
	l := []int{math.MinInt, math.MinInt + 1, math.MaxInt - 1, math.MaxInt}
	for _, mid := range []int{0, one / 4, one / 2, one, 2 * one, 3 * one, 1 << 24, most / 2, most, 1 << 32, 1 << 47, 1 << 62} {
		for d := -3; d <= 3; d++ {
			l = append(l, mid+d, -mid+d)
		}
	}
	return l
}

// clamped is Clamp by the words of P3, in numbers that can't wrap round.
func clamped(n *big.Int) *big.Int {
	high := big.NewInt(most)
	low := new(big.Int).Neg(high)
	if n.Cmp(low) < 0 {
		return low
	}
	if n.Cmp(high) > 0 {
		return high
	}
	return n
}

func number(n int) *big.Int { return clamped(big.NewInt(int64(n))) }

// rounded finds the nearest whole number by asking each near one how far it is.
func rounded(n, d *big.Int) *big.Int {
	exact := new(big.Rat).SetFrac(n, d)
	start := new(big.Int).Quo(n, d)
	var best *big.Int
	var least *big.Rat
	for step := int64(-1); step <= 1; step++ {
		k := new(big.Int).Add(start, big.NewInt(step))
		far := new(big.Rat).Sub(exact, new(big.Rat).SetInt(k))
		far.Abs(far)
		if best == nil || far.Cmp(least) < 0 || far.Cmp(least) == 0 && k.Bit(0) == 0 {
			best, least = k, far
		}
	}
	return best
}

func told(n *big.Int) int { return int(clamped(n).Int64()) }

// checkPair holds every call on a and b against P3.
func checkPair(t *testing.T, a, b int) {
	t.Helper()
	x, y, by := number(a), number(b), big.NewInt(one)
	if got, want := fix.Clamp(a), told(x); got != want {
		t.Errorf("Clamp(%d) = %d, want %d", a, got, want)
	}
	if got, want := fix.Add(a, b), told(new(big.Int).Add(x, y)); got != want {
		t.Errorf("Add(%d, %d) = %d, want %d", a, b, got, want)
	}
	if got, want := fix.Sub(a, b), told(new(big.Int).Sub(x, y)); got != want {
		t.Errorf("Sub(%d, %d) = %d, want %d", a, b, got, want)
	}
	if got, want := fix.Mul(a, b), told(rounded(new(big.Int).Mul(x, y), by)); got != want {
		t.Errorf("Mul(%d, %d) = %d, want %d", a, b, got, want)
	}
	want, wantErr := 0, api.ErrArg
	if b != 0 {
		want, wantErr = told(rounded(new(big.Int).Mul(x, by), y)), api.OK
	}
	if got, err := fix.Div(a, b); got != want || err != wantErr {
		t.Errorf("Div(%d, %d) = %d, %d, want %d, %d", a, b, got, err, want, wantErr)
	}
}

// P3, and P1: each call answers, and rightly, at the edges and beyond them.
func TestEdges(t *testing.T) {
	for _, a := range edges() {
		for _, b := range edges() {
			checkPair(t, a, b)
		}
	}
}

// P3: ordinary numbers, small and great ones.
func TestManyNumbers(t *testing.T) {
	r := rand.New(rand.NewSource(1))
	for range 20000 {
		a := int(r.Int63()) >> r.Intn(63)
		b := int(r.Int63()) >> r.Intn(63)
		checkPair(t, a, b)
		checkPair(t, -a, b)
	}
}

func TestClamp(t *testing.T) {
	for _, x := range [][2]int{
		{0, 0}, {-7, -7}, {most, most}, {-most, -most},
		{most + 1, most}, {-most - 1, -most},
		{math.MaxInt, most}, {math.MinInt, -most},
	} {
		if got := fix.Clamp(x[0]); got != x[1] {
			t.Errorf("Clamp(%d) = %d, want %d", x[0], got, x[1])
		}
	}
}

// What is handed in is clamped ahead of reckoning, not only what is told.
func TestClampedFirst(t *testing.T) {
	if got := fix.Add(math.MaxInt, -most); got != 0 {
		t.Error("Add", got)
	}
	if got := fix.Sub(math.MinInt, -most); got != 0 {
		t.Error("Sub", got)
	}
	if got := fix.Mul(math.MaxInt, 1); got != 1<<15 {
		t.Error("Mul", got)
	}
	if got, err := fix.Div(math.MaxInt, math.MinInt); got != -one || err != api.OK {
		t.Error("Div", got, err)
	}
}

func TestMulRounds(t *testing.T) {
	for _, x := range [][3]int{
		{3 * one, one / 2, 3 * one / 2},
		{1, one/2 - 1, 0}, {1, one / 2, 0}, {1, one/2 + 1, 1},
		{3, one / 2, 2}, {5, one / 2, 2}, {7, one / 2, 4},
		{-1, one / 2, 0}, {-3, one / 2, -2}, {-5, one / 2, -2}, {-1, one/2 + 1, -1},
		{-3, -one / 2, 2}, {-5, -one / 2, 2},
		{most, one, most}, {most, -one, -most}, {most, one + 1, most}, {-most, -most, most},
	} {
		if got := fix.Mul(x[0], x[1]); got != x[2] {
			t.Errorf("Mul(%d, %d) = %d, want %d", x[0], x[1], got, x[2])
		}
	}
}

func TestDivRounds(t *testing.T) {
	for _, x := range [][3]int{
		{one, 2 * one, one / 2}, {one, 3 * one, 21845}, {2 * one, 3 * one, 43691},
		{1, 2 * one, 0}, {3, 2 * one, 2}, {5, 2 * one, 2},
		{-1, 2 * one, 0}, {-3, 2 * one, -2}, {3, -2 * one, -2}, {-3, -2 * one, 2}, {5, -2 * one, -2},
		{0, 5, 0}, {0, -5, 0},
		{most, 1, most}, {most, -1, -most}, {-most, 1, -most}, {most, most, one}, {1, most, 0},
	} {
		if got, err := fix.Div(x[0], x[1]); got != x[2] || err != api.OK {
			t.Errorf("Div(%d, %d) = %d, %d, want %d", x[0], x[1], got, err, x[2])
		}
	}
}

// P2: with an error the other result is 0.
func TestDivByNothing(t *testing.T) {
	for _, a := range edges() {
		if got, err := fix.Div(a, 0); got != 0 || err != api.ErrArg {
			t.Errorf("Div(%d, 0) = %d, %d", a, got, err)
		}
	}
}

type answers struct {
	clamp, add, sub, mul, div int
	err                       api.Errno
}

func ask(a, b int) answers {
	div, err := fix.Div(a, b)
	return answers{fix.Clamp(a), fix.Add(a, b), fix.Sub(a, b), fix.Mul(a, b), div, err}
}

// P2: an answer hangs on what was handed in alone, not on what was asked
// ahead of it, nor on what is asked at the same time.
func TestNothingIsKept(t *testing.T) {
	l := edges()
	first := make([]answers, len(l))
	for i, a := range l {
		first[i] = ask(a, l[len(l)-1-i])
	}
	var wait sync.WaitGroup
	for range 4 {
		wait.Add(1)
		go func() {
			defer wait.Done()
			for i := len(l) - 1; i >= 0; i-- {
				if got := ask(l[i], l[len(l)-1-i]); got != first[i] {
					t.Errorf("asked again: %v, at first %v", got, first[i])
				}
			}
		}()
	}
	wait.Wait()
}
