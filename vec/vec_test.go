package vec_test

import (
	"math"
	"math/rand"
	"reflect"
	"slices"
	"sync"
	"testing"

	"lessonbook/api"
	"lessonbook/fix"
	"lessonbook/vec"
)

const (
	one  = api.One
	most = api.Most
)

// number is one of any size, often at the bounds or beyond them.
func number(r *rand.Rand) int {
	switch r.Intn(6) {
	case 0:
		return []int{math.MinInt, math.MaxInt, most, -most, most + 1, -most - 1, 0}[r.Intn(7)]
	case 1:
		return int(r.Uint64())
	case 2:
		return r.Intn(2*most+1) - most
	}
	return r.Intn(64*one) - 32*one
}

func list(r *rand.Rand, n int) []int {
	l := make([]int, n)
	for i := range l {
		l[i] = number(r)
	}
	return l
}

// matrix is one that Check must take.
func matrix(r *rand.Rand, rows, cols int) api.Matrix {
	m := api.Matrix{Rows: rows, Cols: cols, A: list(r, rows*cols)}
	for i, n := range m.A {
		m.A[i] = fix.Clamp(n)
	}
	return m
}

// dot is Dot by the words of P4.
func dot(a, b []int) int {
	sum := 0
	for i := range a {
		sum = fix.Add(sum, fix.Mul(fix.Clamp(a[i]), fix.Clamp(b[i])))
	}
	return sum
}

func wantList(t *testing.T, what string, got []int, e api.Errno, want []int) {
	t.Helper()
	if e != api.OK || !slices.Equal(got, want) {
		t.Errorf("%s = %v, %d, want %v", what, got, e, want)
	}
}

// P4: ordinary lists and the edges of their length, held against the words.
func TestLists(t *testing.T) {
	r := rand.New(rand.NewSource(2))
	lengths := []int{0, 1, 2, 3, 4, 5, 50, 199, 200}
	for range 200 {
		for _, n := range lengths {
			a, b, by := list(r, n), list(r, n), number(r)
			var sum, times []int
			for i := range a {
				sum = append(sum, fix.Add(a[i], b[i]))
				times = append(times, fix.Mul(a[i], by))
			}
			if got, e := vec.Dot(a, b); e != api.OK || got != dot(a, b) {
				t.Errorf("Dot(%v, %v) = %d, %d", a, b, got, e)
			}
			got, e := vec.Sum(a, b)
			wantList(t, "Sum", got, e, sum)
			got, e = vec.Times(a, by)
			wantList(t, "Times", got, e, times)
		}
	}
}

func TestDot(t *testing.T) {
	for _, x := range []struct {
		a, b []int
		want int
	}{
		{nil, nil, 0},
		{nil, []int{}, 0},
		{[]int{one, 2 * one}, []int{3 * one, 4 * one}, 11 * one},
		// each product is rounded by itself: a half goes to 0, three halves to 2
		{[]int{1, 1}, []int{one / 2, one / 2}, 0},
		{[]int{3, 3}, []int{one / 2, one / 2}, 4},
		// sums are clamped on the way, from the first product on
		{[]int{most, most, -most}, []int{one, one, one}, 0},
		{[]int{-most, most, most}, []int{one, one, one}, most},
		{[]int{most, -most, most}, []int{one, one, one}, most},
		{[]int{-most, -most, 7}, []int{one, one, one}, -most + 7},
		// clamped first
		{[]int{math.MaxInt}, []int{1}, 1 << 15},
		{[]int{1}, []int{math.MinInt}, -1 << 15},
		{[]int{math.MaxInt, math.MinInt}, []int{one, one}, 0},
	} {
		if got, e := vec.Dot(x.a, x.b); e != api.OK || got != x.want {
			t.Errorf("Dot(%v, %v) = %d, %d, want %d", x.a, x.b, got, e, x.want)
		}
	}
}

func TestSumAndTimes(t *testing.T) {
	got, e := vec.Sum([]int{1, most, -most, math.MaxInt, math.MinInt, math.MaxInt}, []int{3, 4, -4, -most, math.MaxInt, math.MaxInt})
	wantList(t, "Sum", got, e, []int{4, most, -most, 0, 0, most})
	got, e = vec.Sum(nil, []int{})
	wantList(t, "Sum of nothing", got, e, nil)
	got, e = vec.Times([]int{2, -6, 1, 3, -3, math.MaxInt}, one/2)
	wantList(t, "Times", got, e, []int{1, -3, 0, 2, -2, 1 << 30})
	got, e = vec.Times([]int{1, -1, one}, math.MaxInt)
	wantList(t, "Times a great one", got, e, []int{1 << 15, -1 << 15, most})
	got, e = vec.Times(nil, one)
	wantList(t, "Times of nothing", got, e, nil)
}

// P5: the edges of each bound, and which error goes ahead.
func TestCheck(t *testing.T) {
	for _, x := range []struct {
		rows, cols int
		a          []int
		want       api.Errno
	}{
		{1, 1, []int{0}, api.OK},
		{4, 4, make([]int, 16), api.OK},
		{1, 4, make([]int, 4), api.OK},
		{4, 1, make([]int, 4), api.OK},
		{2, 1, []int{most, -most}, api.OK},
		{0, 1, nil, api.ErrArg},
		{1, 0, nil, api.ErrArg},
		{0, 0, nil, api.ErrArg},
		{5, 1, make([]int, 5), api.ErrArg},
		{1, 5, make([]int, 5), api.ErrArg},
		{-1, -1, []int{0}, api.ErrArg},
		{-1, 1, []int{0}, api.ErrArg},
		{math.MinInt, math.MaxInt, nil, api.ErrArg},
		{math.MaxInt, math.MaxInt, []int{1}, api.ErrArg},
		{0, 4, []int{most + 1}, api.ErrArg},
		{2, 2, make([]int, 3), api.ErrForm},
		{2, 2, make([]int, 5), api.ErrForm},
		{1, 1, nil, api.ErrForm},
		{1, 1, []int{}, api.ErrForm},
		{1, 1, make([]int, 201), api.ErrForm},
		{5, 1, make([]int, 201), api.ErrArg},
		{1, 1, []int{most + 1}, api.ErrForm},
		{1, 1, []int{-most - 1}, api.ErrForm},
		{1, 2, []int{0, math.MinInt}, api.ErrForm},
		{2, 1, []int{math.MaxInt, 0}, api.ErrForm},
	} {
		if got := vec.Check(api.Matrix{Rows: x.rows, Cols: x.cols, A: x.a}); got != x.want {
			t.Errorf("Check %d x %d with %d numbers: %d, want %d", x.rows, x.cols, len(x.a), got, x.want)
		}
	}
}

// P5: every size of a matrix, held against the words.
func TestMatrices(t *testing.T) {
	r := rand.New(rand.NewSource(3))
	for range 200 {
		for rows := 1; rows <= api.MaxSide; rows++ {
			for cols := 1; cols <= api.MaxSide; cols++ {
				checkMatrix(t, matrix(r, rows, cols), list(r, rows), list(r, cols))
			}
		}
	}
}

func checkMatrix(t *testing.T, m api.Matrix, high, wide []int) {
	t.Helper()
	var mul, back, outer []int
	for i := range m.Rows {
		var line []int
		for k := range m.Cols {
			line = append(line, m.A[i*m.Cols+k])
			outer = append(outer, fix.Mul(high[i], wide[k]))
		}
		mul = append(mul, dot(line, wide))
	}
	for k := range m.Cols {
		var line []int
		for i := range m.Rows {
			line = append(line, m.A[i*m.Cols+k])
		}
		back = append(back, dot(line, high))
	}
	got, e := vec.Mul(m, wide)
	wantList(t, "Mul", got, e, mul)
	got, e = vec.Back(m, high)
	wantList(t, "Back", got, e, back)
	o, e := vec.Outer(high, wide)
	wantList(t, "Outer", o.A, e, outer)
	if o.Rows != m.Rows || o.Cols != m.Cols || vec.Check(o) != api.OK {
		t.Errorf("Outer has %d x %d, want %d x %d", o.Rows, o.Cols, m.Rows, m.Cols)
	}
}

func TestSmallMatrix(t *testing.T) {
	m := api.Matrix{Rows: 2, Cols: 3, A: []int{one, 0, 2 * one, 0, -one, one / 2}}
	got, e := vec.Mul(m, []int{2, 4, 6})
	wantList(t, "Mul", got, e, []int{14, -1})
	got, e = vec.Back(m, []int{2, 4})
	wantList(t, "Back", got, e, []int{2, -4, 6})
	o, e := vec.Outer([]int{one, 2 * one}, []int{3, 4, 5})
	wantList(t, "Outer", o.A, e, []int{3, 4, 5, 6, 8, 10})
	// a column is added from its first row on
	got, e = vec.Back(api.Matrix{Rows: 3, Cols: 1, A: []int{most, most, -most}}, []int{one, one, one})
	wantList(t, "Back, clamped on the way", got, e, []int{0})
	got, e = vec.Mul(api.Matrix{Rows: 1, Cols: 3, A: []int{most, most, -most}}, []int{one, one, one})
	wantList(t, "Mul, clamped on the way", got, e, []int{0})
	got, e = vec.Mul(api.Matrix{Rows: 1, Cols: 1, A: []int{1}}, []int{math.MaxInt})
	wantList(t, "Mul, clamped first", got, e, []int{1 << 15})
}

// wrongLists: Dot and Sum must refuse these, and tell nothing beside the error.
func wrongLists(t *testing.T, a, b []int, want api.Errno) {
	t.Helper()
	if got, e := vec.Dot(a, b); got != 0 || e != want {
		t.Errorf("Dot of %d and %d numbers: %d, %d, want %d", len(a), len(b), got, e, want)
	}
	if got, e := vec.Sum(a, b); got != nil || e != want {
		t.Errorf("Sum of %d and %d numbers: %v, %d, want %d", len(a), len(b), got, e, want)
	}
}

// P4: wrong lists; a longer one goes ahead of one that is not as long.
func TestWrongLists(t *testing.T) {
	wrongLists(t, []int{1}, nil, api.ErrForm)
	wrongLists(t, nil, []int{1}, api.ErrForm)
	wrongLists(t, make([]int, 200), make([]int, 199), api.ErrForm)
	wrongLists(t, make([]int, 199), make([]int, 200), api.ErrForm)
	wrongLists(t, make([]int, 201), make([]int, 201), api.ErrLarge)
	wrongLists(t, make([]int, 201), nil, api.ErrLarge)
	wrongLists(t, nil, make([]int, 201), api.ErrLarge)
	wrongLists(t, make([]int, 200), make([]int, 201), api.ErrLarge)
	for _, n := range []int{201, 1000} {
		if got, e := vec.Times(make([]int, n), one); got != nil || e != api.ErrLarge {
			t.Errorf("Times of %d numbers: %v, %d", n, got, e)
		}
	}
}

// P4, P5: ErrLarge of the list ahead of Check, Check ahead of how long the
// list is.
func TestWrongMatrices(t *testing.T) {
	good := api.Matrix{Rows: 2, Cols: 3, A: make([]int, 6)}
	side := api.Matrix{Rows: 5, Cols: 3, A: make([]int, 15)}
	short := api.Matrix{Rows: 2, Cols: 3, A: make([]int, 5)}
	great := api.Matrix{Rows: 2, Cols: 3, A: []int{0, 0, 0, 0, 0, most + 1}}
	long := api.Matrix{Rows: 2, Cols: 3, A: make([]int, 300)}
	for _, x := range []struct {
		m         api.Matrix
		n         int
		mul, back api.Errno
	}{
		{good, 3, api.OK, api.ErrForm},
		{good, 2, api.ErrForm, api.OK},
		{good, 0, api.ErrForm, api.ErrForm},
		{good, 4, api.ErrForm, api.ErrForm},
		{good, 200, api.ErrForm, api.ErrForm},
		{good, 201, api.ErrLarge, api.ErrLarge},
		{side, 3, api.ErrArg, api.ErrArg},
		{side, 5, api.ErrArg, api.ErrArg},
		{side, 200, api.ErrArg, api.ErrArg},
		{side, 201, api.ErrLarge, api.ErrLarge},
		{api.Matrix{}, 0, api.ErrArg, api.ErrArg},
		{api.Matrix{}, 201, api.ErrLarge, api.ErrLarge},
		{short, 3, api.ErrForm, api.ErrForm},
		{short, 2, api.ErrForm, api.ErrForm},
		{short, 201, api.ErrLarge, api.ErrLarge},
		{great, 3, api.ErrForm, api.ErrForm},
		{great, 2, api.ErrForm, api.ErrForm},
		{great, 201, api.ErrLarge, api.ErrLarge},
		{long, 3, api.ErrForm, api.ErrForm},
		{long, 2, api.ErrForm, api.ErrForm},
	} {
		if got, e := vec.Mul(x.m, make([]int, x.n)); e != x.mul || (e != api.OK && got != nil) {
			t.Errorf("Mul of %v with %d numbers: %v, %d, want %d", x.m, x.n, got, e, x.mul)
		}
		if got, e := vec.Back(x.m, make([]int, x.n)); e != x.back || (e != api.OK && got != nil) {
			t.Errorf("Back of %v with %d numbers: %v, %d, want %d", x.m, x.n, got, e, x.back)
		}
	}
}

func TestOuterSizes(t *testing.T) {
	sizes := []int{0, 1, 4, 5, 200, 201, 500}
	for _, n := range sizes {
		for _, k := range sizes {
			want := api.OK
			if n < 1 || n > 4 || k < 1 || k > 4 {
				want = api.ErrForm
			}
			if n > 200 || k > 200 {
				want = api.ErrLarge
			}
			got, e := vec.Outer(make([]int, n), make([]int, k))
			if e != want || e != api.OK && !reflect.DeepEqual(got, api.Matrix{}) {
				t.Errorf("Outer of %d and %d numbers: %v, %d, want %d", n, k, got, e, want)
			}
		}
	}
}

// roomy is a list with room behind it, and all that lies there.
func roomy(l []int) (list, all []int) {
	all = append(slices.Clone(l), 101, 102, 103, 104, 105, 106, 107, 108)
	return all[:len(l)], all
}

// ask answers every call's list, and tells the rest in one more.
func ask(m api.Matrix, a, b []int) [][]int {
	sum, e1 := vec.Sum(a, b)
	times, e2 := vec.Times(a, 3*one)
	mul, e3 := vec.Mul(m, b)
	back, e4 := vec.Back(m, a)
	outer, e5 := vec.Outer(a, b)
	n, e6 := vec.Dot(a, b)
	rest := []int{n, outer.Rows, outer.Cols, int(vec.Check(m))}
	for _, e := range []api.Errno{e1, e2, e3, e4, e5, e6} {
		rest = append(rest, int(e))
	}
	return [][]int{sum, times, mul, back, outer.A, rest}
}

func cloned(lists [][]int) [][]int {
	var out [][]int
	for _, l := range lists {
		out = append(out, slices.Clone(l))
	}
	return out
}

// P2: what is handed in stays as it was, the room behind it included, also
// when every answer is written over, its own room included; and no answer
// shares memory with another one.
func TestMemory(t *testing.T) {
	r := rand.New(rand.NewSource(4))
	for n := 0; n <= 5; n++ {
		for _, twice := range []bool{false, true} {
			m := matrix(r, n, n)
			a, allA := roomy(list(r, n))
			b, allB := roomy(list(r, n))
			if twice {
				b, allB = a, allA
			}
			var allM []int
			m.A, allM = roomy(m.A)
			before := cloned([][]int{allA, allB, allM})
			got := ask(m, a, b)
			first := cloned(got)
			for i, l := range got {
				l = l[:cap(l)]
				for k := range l {
					l[k] = -99
				}
				for k := i + 1; k < len(got); k++ {
					if !slices.Equal(got[k], first[k]) {
						t.Errorf("answers %d and %d share memory", i, k)
					}
				}
			}
			if !reflect.DeepEqual(before, [][]int{allA, allB, allM}) {
				t.Errorf("%d numbers: what was handed in was changed, or is shared", n)
			}
			for i, l := range ask(m, a, b) {
				if !slices.Equal(l, first[i]) {
					t.Errorf("%d numbers: asked again: %v, at first %v", n, l, first[i])
				}
			}
		}
	}
}

// P2: nothing is kept from call to call, also where many ask at once.
func TestNothingIsKept(t *testing.T) {
	r := rand.New(rand.NewSource(5))
	m, a, b := matrix(r, 4, 4), list(r, 4), list(r, 4)
	first := ask(m, a, b)
	var wait sync.WaitGroup
	for worker := range 4 {
		wait.Add(1)
		go func() {
			defer wait.Done()
			own := rand.New(rand.NewSource(int64(worker)))
			for range 200 {
				n := own.Intn(6)
				ask(matrix(own, n, n), list(own, n), list(own, n))
				if got := ask(m, a, b); !reflect.DeepEqual(got, first) {
					t.Errorf("asked again: %v, at first %v", got, first)
				}
			}
		}()
	}
	wait.Wait()
}
