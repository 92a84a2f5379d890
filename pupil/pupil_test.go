package pupil_test

import (
	"math"
	"math/rand"
	"reflect"
	"slices"
	"sync"
	"testing"

	"lessonbook/api"
	"lessonbook/fix"
	"lessonbook/pupil"
)

const (
	one  = api.One
	most = api.Most
)

// number is one of any size, often at the bounds or beyond them.
func number(r *rand.Rand) int {
	switch r.Intn(8) {
	case 0:
		return []int{math.MinInt, math.MaxInt, most, -most, most + 1, -most - 1, 0}[r.Intn(7)]
	case 1:
		return int(r.Uint64())
	case 2:
		return r.Intn(2*most+1) - most
	}
	return r.Intn(8*one) - 4*one
}

func list(r *rand.Rand, n int) []int {
	l := make([]int, n)
	for i := range l {
		l[i] = number(r)
	}
	return l
}

func clamped(l []int) []int {
	out := make([]int, len(l))
	for i, n := range l {
		out[i] = fix.Clamp(n)
	}
	return out
}

// made is a pupil that Check must take.
func made(r *rand.Rand, in, hidden, out int) api.Pupil {
	return api.Pupil{
		W1: api.Matrix{Rows: hidden, Cols: in, A: clamped(list(r, hidden*in))},
		B1: clamped(list(r, hidden)),
		W2: api.Matrix{Rows: out, Cols: hidden, A: clamped(list(r, out*hidden))},
		B2: clamped(list(r, out)),
	}
}

func example(r *rand.Rand, in, out int) api.Example {
	return api.Example{In: list(r, in), Out: list(r, out)}
}

// zeros is a pupil of that shape with nothing in it but 0.
func zeros(in, hidden, out int) api.Pupil {
	return api.Pupil{
		W1: api.Matrix{Rows: hidden, Cols: in, A: make([]int, hidden*in)},
		B1: make([]int, hidden),
		W2: api.Matrix{Rows: out, Cols: hidden, A: make([]int, out*hidden)},
		B2: make([]int, out),
	}
}

// eachShape asks f of every number of inputs, hidden ones and outputs.
func eachShape(f func(in, hidden, out int)) {
	for in := 1; in <= api.MaxSide; in++ {
		for hidden := 1; hidden <= api.MaxSide; hidden++ {
			for out := 1; out <= api.MaxSide; out++ {
				f(in, hidden, out)
			}
		}
	}
}

func same(a, b api.Pupil) bool { return reflect.DeepEqual(a, b) }

// words is what P7 asks of a pupil and an example, by fix alone.
type words struct {
	h, y []int
	loss int
	grad api.Pupil
}

func byWords(m api.Pupil, x api.Example) words {
	in, hidden, out := m.W1.Cols, m.W1.Rows, m.W2.Rows
	var w words
	for i := range hidden {
		sum := 0
		for k := range in {
			sum = fix.Add(sum, fix.Mul(m.W1.A[i*in+k], x.In[k]))
		}
		w.h = append(w.h, max(0, fix.Add(sum, m.B1[i])))
	}
	for i := range out {
		sum := 0
		for k := range hidden {
			sum = fix.Add(sum, fix.Mul(m.W2.A[i*hidden+k], w.h[k]))
		}
		w.y = append(w.y, fix.Add(sum, m.B2[i]))
	}
	w.grad = zeros(in, hidden, out)
	for i := range out {
		d := fix.Sub(w.y[i], x.Out[i])
		w.loss = fix.Add(w.loss, fix.Mul(d, d))
		w.grad.B2[i] = d
		for k := range hidden {
			w.grad.W2.A[i*hidden+k] = fix.Mul(d, w.h[k])
		}
	}
	for k := range hidden {
		g := 0
		for i := range out {
			g = fix.Add(g, fix.Mul(m.W2.A[i*hidden+k], w.grad.B2[i]))
		}
		if w.h[k] == 0 {
			g = 0
		}
		w.grad.B1[k] = g
		for j := range in {
			w.grad.W1.A[k*in+j] = fix.Mul(g, x.In[j])
		}
	}
	return w
}

// P6: the order of the parts, in which no two numbers are the same.
func TestFlatAndShape(t *testing.T) {
	eachShape(func(in, hidden, out int) {
		m, n := zeros(in, hidden, out), 0
		var want []int
		for _, part := range [][]int{m.W1.A, m.B1, m.W2.A, m.B2} {
			for i := range part {
				n++
				part[i] = n
				want = append(want, n)
			}
		}
		got, e := pupil.Flat(m)
		if e != api.OK || !slices.Equal(got, want) {
			t.Errorf("Flat of %v = %v, %d", m, got, e)
		}
		back, e := pupil.Shape(in, hidden, out, want)
		if e != api.OK || !same(back, m) {
			t.Errorf("Shape %d, %d, %d = %v, %d, want %v", in, hidden, out, back, e, m)
		}
		for _, n := range []int{0, len(want) - 1, len(want) + 1, 200, 201} {
			if got, e := pupil.Shape(in, hidden, out, make([]int, n)); e != api.ErrForm || !same(got, api.Pupil{}) {
				t.Errorf("Shape %d, %d, %d of %d numbers: %v, %d", in, hidden, out, n, got, e)
			}
		}
	})
}

// P6: as many numbers, but for another pupil, make that other one.
func TestShapeGoesByItsSides(t *testing.T) {
	l := []int{1, 2, 3, 4, 5, 6, 7}
	got, e := pupil.Shape(1, 2, 1, l)
	want := api.Pupil{
		W1: api.Matrix{Rows: 2, Cols: 1, A: []int{1, 2}}, B1: []int{3, 4},
		W2: api.Matrix{Rows: 1, Cols: 2, A: []int{5, 6}}, B2: []int{7},
	}
	if e != api.OK || !same(got, want) {
		t.Errorf("Shape 1, 2, 1 = %v, %d", got, e)
	}
	got, e = pupil.Shape(4, 1, 1, l)
	want = api.Pupil{
		W1: api.Matrix{Rows: 1, Cols: 4, A: []int{1, 2, 3, 4}}, B1: []int{5},
		W2: api.Matrix{Rows: 1, Cols: 1, A: []int{6}}, B2: []int{7},
	}
	if e != api.OK || !same(got, want) {
		t.Errorf("Shape 4, 1, 1 = %v, %d", got, e)
	}
}

// P6: each side's bounds; they go ahead of the list.
func TestShapeSides(t *testing.T) {
	wrong := []int{0, -1, 5, 200, math.MinInt, math.MaxInt}
	lists := [][]int{nil, {}, {1, 2, 3, 4}, {most + 1}, make([]int, 7), make([]int, 300)}
	for _, n := range wrong {
		for _, l := range lists {
			for _, s := range [][3]int{{n, 1, 1}, {1, n, 1}, {1, 1, n}, {n, n, n}, {4, n, 4}} {
				if got, e := pupil.Shape(s[0], s[1], s[2], l); e != api.ErrArg || !same(got, api.Pupil{}) {
					t.Errorf("Shape %v of %d numbers: %v, %d", s, len(l), got, e)
				}
			}
		}
	}
}

// P6: each number's bounds, wherever it stands.
func TestShapeNumbers(t *testing.T) {
	for i := range 7 {
		for n, want := range map[int]api.Errno{
			most: api.OK, -most: api.OK,
			most + 1: api.ErrForm, -most - 1: api.ErrForm, math.MaxInt: api.ErrForm, math.MinInt: api.ErrForm,
		} {
			l := make([]int, 7)
			l[i] = n
			got, e := pupil.Shape(1, 2, 1, l)
			if e != want {
				t.Errorf("Shape with %d at %d: %d, want %d", n, i, e, want)
			}
			if e != api.OK && !same(got, api.Pupil{}) {
				t.Errorf("Shape with %d at %d tells %v beside its error", n, i, got)
			}
			if flat, _ := pupil.Flat(got); e == api.OK && !slices.Equal(flat, l) {
				t.Errorf("Flat of Shape of %v = %v", l, flat)
			}
		}
	}
}

// bent is a pupil with 2 inputs, 3 hidden ones and 2 outputs, bent by f.
func bent(f func(m *api.Pupil)) api.Pupil {
	m := zeros(2, 3, 2)
	f(&m)
	return m
}

// wrongPupils is each way in which a pupil is none, with its error.
func wrongPupils() map[string]struct {
	m    api.Pupil
	want api.Errno
} {
	type row = struct {
		m    api.Pupil
		want api.Errno
	}
	arg := func(f func(m *api.Pupil)) row { return row{bent(f), api.ErrArg} }
	form := func(f func(m *api.Pupil)) row { return row{bent(f), api.ErrForm} }
	return map[string]row{
		"nothing":            {api.Pupil{}, api.ErrArg},
		"no W1":              arg(func(m *api.Pupil) { m.W1 = api.Matrix{} }),
		"no W2":              arg(func(m *api.Pupil) { m.W2 = api.Matrix{} }),
		"W1 too wide":        arg(func(m *api.Pupil) { m.W1 = api.Matrix{Rows: 3, Cols: 5, A: make([]int, 15)} }),
		"W2 too high":        arg(func(m *api.Pupil) { m.W2 = api.Matrix{Rows: 5, Cols: 3, A: make([]int, 15)} }),
		"rows below 0":       arg(func(m *api.Pupil) { m.W1.Rows = math.MinInt }),
		"W1 short":           form(func(m *api.Pupil) { m.W1.A = m.W1.A[1:] }),
		"W2 short":           form(func(m *api.Pupil) { m.W2.A = m.W2.A[1:] }),
		"W1 great":           form(func(m *api.Pupil) { m.W1.A[5] = most + 1 }),
		"W2 small":           form(func(m *api.Pupil) { m.W2.A[5] = -most - 1 }),
		"W1's form first":    form(func(m *api.Pupil) { m.W1.A, m.W2.Rows = nil, 0 }),
		"W1's side first":    arg(func(m *api.Pupil) { m.W1.Rows, m.W2.A = 0, nil }),
		"W2's side, B1 none": arg(func(m *api.Pupil) { m.W2.Cols, m.B1 = 5, nil }),
		"W2's side, B1 long": arg(func(m *api.Pupil) { m.W2.Cols, m.B1 = 0, make([]int, 201) }),
		"W2 too narrow":      form(func(m *api.Pupil) { m.W2.Cols, m.W2.A = 2, make([]int, 4) }),
		"W2 too wide":        form(func(m *api.Pupil) { m.W2.Cols, m.W2.A = 4, make([]int, 8) }),
		"W2 lies across":     form(func(m *api.Pupil) { m.W2.Rows, m.W2.Cols = 3, 2 }),
		"B1 none":            form(func(m *api.Pupil) { m.B1 = nil }),
		"B1 short":           form(func(m *api.Pupil) { m.B1 = make([]int, 2) }),
		"B1 long":            form(func(m *api.Pupil) { m.B1 = make([]int, 4) }),
		"B1 far too long":    form(func(m *api.Pupil) { m.B1 = make([]int, 201) }),
		"B2 none":            form(func(m *api.Pupil) { m.B2 = []int{} }),
		"B2 short":           form(func(m *api.Pupil) { m.B2 = make([]int, 1) }),
		"B2 long":            form(func(m *api.Pupil) { m.B2 = make([]int, 3) }),
		"B2 far too long":    form(func(m *api.Pupil) { m.B2 = make([]int, 201) }),
		"B1 and B2 changed":  form(func(m *api.Pupil) { m.B1, m.B2 = m.B2, m.B1 }),
		"B1 great":           form(func(m *api.Pupil) { m.B1[2] = most + 1 }),
		"B1 small":           form(func(m *api.Pupil) { m.B1[0] = -most - 1 }),
		"B1 the greatest":    form(func(m *api.Pupil) { m.B1[1] = math.MaxInt }),
		"B2 great":           form(func(m *api.Pupil) { m.B2[1] = most + 1 }),
		"B2 small":           form(func(m *api.Pupil) { m.B2[0] = -most - 1 }),
		"B2 the smallest":    form(func(m *api.Pupil) { m.B2[1] = math.MinInt }),
	}
}

// P6, P7: every call refuses a wrong pupil by Check's error, ahead of what is
// wrong with the rest, and tells nothing beside it.
func TestWrongPupils(t *testing.T) {
	for name, x := range wrongPupils() {
		if e := pupil.Check(x.m); e != x.want {
			t.Errorf("%s: Check: %d, want %d", name, e, x.want)
		}
		if l, e := pupil.Flat(x.m); l != nil || e != x.want {
			t.Errorf("%s: Flat: %v, %d, want %d", name, l, e, x.want)
		}
		for _, n := range []int{0, 1, 2, 3, 5, 201} {
			if h, y, e := pupil.Forward(x.m, make([]int, n)); h != nil || y != nil || e != x.want {
				t.Errorf("%s: Forward: %v, %v, %d, want %d", name, h, y, e, x.want)
			}
			refused(t, name, x.m, api.Example{In: make([]int, n), Out: make([]int, 2)}, x.want)
			refused(t, name, x.m, api.Example{In: make([]int, 2), Out: make([]int, n)}, x.want)
		}
	}
}

func refused(t *testing.T, name string, m api.Pupil, x api.Example, want api.Errno) {
	t.Helper()
	if n, e := pupil.Loss(m, x); n != 0 || e != want {
		t.Errorf("%s: Loss: %d, %d, want %d", name, n, e, want)
	}
	if g, e := pupil.Grad(m, x); !same(g, api.Pupil{}) || e != want {
		t.Errorf("%s: Grad: %v, %d, want %d", name, g, e, want)
	}
}

// P6: the bounds themselves are taken.
func TestCheckTakes(t *testing.T) {
	eachShape(func(in, hidden, out int) {
		m := zeros(in, hidden, out)
		for _, part := range [][]int{m.W1.A, m.B1, m.W2.A, m.B2} {
			part[0] = -most
			part[len(part)-1] = most
		}
		if e := pupil.Check(m); e != api.OK {
			t.Errorf("Check of %v: %d", m, e)
		}
	})
}

// P7: lists that do not fit a right pupil: ErrForm, however long they are.
func TestListsThatDoNotFit(t *testing.T) {
	m := zeros(2, 3, 4)
	for _, n := range []int{0, 1, 2, 3, 4, 5, 200, 201, 1000} {
		if n != 2 {
			if h, y, e := pupil.Forward(m, make([]int, n)); h != nil || y != nil || e != api.ErrForm {
				t.Errorf("Forward of %d numbers: %v, %v, %d", n, h, y, e)
			}
			refused(t, "In", m, api.Example{In: make([]int, n), Out: make([]int, 4)}, api.ErrForm)
		}
		if n != 4 {
			refused(t, "Out", m, api.Example{In: make([]int, 2), Out: make([]int, n)}, api.ErrForm)
		}
	}
	refused(t, "both", m, api.Example{In: make([]int, 4), Out: make([]int, 2)}, api.ErrForm)
	refused(t, "none", m, api.Example{}, api.ErrForm)
	if h, y, e := pupil.Forward(m, make([]int, 2)); len(h) != 3 || len(y) != 4 || e != api.OK {
		t.Errorf("Forward: %v, %v, %d", h, y, e)
	}
}

func checkByWords(t *testing.T, m api.Pupil, x api.Example) {
	t.Helper()
	w := byWords(m, x)
	h, y, e := pupil.Forward(m, x.In)
	if e != api.OK || !slices.Equal(h, w.h) || !slices.Equal(y, w.y) {
		t.Errorf("Forward of %v, %v = %v, %v, %d, want %v, %v", m, x.In, h, y, e, w.h, w.y)
	}
	if n, e := pupil.Loss(m, x); e != api.OK || n != w.loss {
		t.Errorf("Loss of %v, %v = %d, %d, want %d", m, x, n, e, w.loss)
	}
	if g, e := pupil.Grad(m, x); e != api.OK || !same(g, w.grad) {
		t.Errorf("Grad of %v, %v = %v, %d, want %v", m, x, g, e, w.grad)
	}
	// what comes out as it should has no loss
	if n, e := pupil.Loss(m, api.Example{In: x.In, Out: y}); e != api.OK || n != 0 {
		t.Errorf("Loss of what comes out = %d, %d", n, e)
	}
}

// P7: every shape, with numbers of any size, held against the words.
func TestLearning(t *testing.T) {
	r := rand.New(rand.NewSource(6))
	for range 60 {
		eachShape(func(in, hidden, out int) {
			checkByWords(t, made(r, in, hidden, out), example(r, in, out))
		})
	}
}

// P7: a hidden one at 0 or below it teaches nothing; one just above it does.
func TestHiddenAtNought(t *testing.T) {
	m := zeros(1, 4, 1)
	m.W1.A = []int{one, one, one, one}
	m.B1 = []int{-one - 1, -one, -one + 1, 0}
	m.W2.A = []int{one, one, one, one}
	h, y, e := pupil.Forward(m, []int{one})
	if e != api.OK || !slices.Equal(h, []int{0, 0, 1, one}) || !slices.Equal(y, []int{one + 1}) {
		t.Errorf("Forward = %v, %v, %d", h, y, e)
	}
	g, e := pupil.Grad(m, api.Example{In: []int{2 * one}, Out: []int{one}})
	// with twice as much coming in, no hidden one is at 0
	if e != api.OK || slices.Contains(g.B1, 0) {
		t.Errorf("Grad = %v, %d", g, e)
	}
	g, e = pupil.Grad(m, api.Example{In: []int{one}, Out: []int{1}})
	want := api.Pupil{
		W1: api.Matrix{Rows: 4, Cols: 1, A: []int{0, 0, one, one}}, B1: []int{0, 0, one, one},
		W2: api.Matrix{Rows: 1, Cols: 4, A: []int{0, 0, 1, one}}, B2: []int{one},
	}
	if e != api.OK || !same(g, want) {
		t.Errorf("Grad = %v, %d, want %v", g, e, want)
	}
}

// P7: an output below 0 stays; only hidden ones do not.
func TestOutputBelowNought(t *testing.T) {
	m, e := pupil.Shape(1, 1, 1, []int{one, 0, -2 * one, -one})
	if e != api.OK {
		t.Fatal(e)
	}
	_, y, e := pupil.Forward(m, []int{one})
	if e != api.OK || !slices.Equal(y, []int{-3 * one}) {
		t.Errorf("Forward = %v, %d", y, e)
	}
	if n, e := pupil.Loss(m, api.Example{In: []int{one}, Out: []int{-one}}); e != api.OK || n != 4*one {
		t.Errorf("Loss = %d, %d", n, e)
	}
}

// P7: what is too great is clamped on the way, and so is an example's number.
func TestClampedOnTheWay(t *testing.T) {
	m, e := pupil.Shape(2, 1, 1, []int{one, one, -5, one, 0})
	if e != api.OK {
		t.Fatal(e)
	}
	for _, x := range []struct {
		in   []int
		h, y int
	}{
		{[]int{most, most}, most - 5, most - 5},
		{[]int{math.MaxInt, 0}, most - 5, most - 5},
		{[]int{math.MinInt, math.MaxInt}, 0, 0},
		{[]int{math.MinInt, 0}, 0, 0},
	} {
		h, y, e := pupil.Forward(m, x.in)
		if e != api.OK || !slices.Equal(h, []int{x.h}) || !slices.Equal(y, []int{x.y}) {
			t.Errorf("Forward of %v = %v, %v, %d", x.in, h, y, e)
		}
		checkByWords(t, m, api.Example{In: x.in, Out: []int{math.MinInt}})
	}
	if n, e := pupil.Loss(m, api.Example{In: []int{most, most}, Out: []int{math.MinInt}}); e != api.OK || n != most {
		t.Errorf("Loss = %d, %d", n, e)
	}
	g, e := pupil.Grad(m, api.Example{In: []int{most, most}, Out: []int{math.MinInt}})
	if e != api.OK || g.B2[0] != most {
		t.Errorf("Grad = %v, %d", g, e)
	}
}

// roomy is a list with room behind it, and all that lies there.
func roomy(l []int) (list, all []int) {
	all = append(slices.Clone(l), 101, 102, 103, 104, 105, 106, 107, 108)
	return all[:len(l)], all
}

// ask answers every call's lists, and tells the rest in one more.
func ask(m api.Pupil, x api.Example, l []int) [][]int {
	flat, e1 := pupil.Flat(m)
	shaped, e2 := pupil.Shape(m.W1.Cols, m.W1.Rows, m.W2.Rows, l)
	h, y, e3 := pupil.Forward(m, x.In)
	n, e4 := pupil.Loss(m, x)
	g, e5 := pupil.Grad(m, x)
	rest := []int{n, int(pupil.Check(m))}
	for _, e := range []api.Errno{e1, e2, e3, e4, e5} {
		rest = append(rest, int(e))
	}
	for _, w := range []api.Matrix{shaped.W1, shaped.W2, g.W1, g.W2} {
		rest = append(rest, w.Rows, w.Cols)
	}
	return [][]int{
		flat, h, y, shaped.W1.A, shaped.B1, shaped.W2.A, shaped.B2,
		g.W1.A, g.B1, g.W2.A, g.B2, rest,
	}
}

func cloned(lists [][]int) [][]int {
	var out [][]int
	for _, l := range lists {
		out = append(out, slices.Clone(l))
	}
	return out
}

// laid gives every list that is handed in room behind it, and answers all of
// that memory.
func laid(m *api.Pupil, x *api.Example, l *[]int) [][]int {
	var all [][]int
	for _, p := range []*[]int{&m.W1.A, &m.B1, &m.W2.A, &m.B2, &x.In, &x.Out, l} {
		var whole []int
		*p, whole = roomy(*p)
		all = append(all, whole)
	}
	return all
}

// P2: what is handed in stays as it was, the room behind it included, also
// when every answer is written over, its own room included; and no answer
// shares memory with another one.
func TestMemory(t *testing.T) {
	r := rand.New(rand.NewSource(7))
	eachShape(func(in, hidden, out int) {
		for _, right := range []bool{true, false} {
			m, x := made(r, in, hidden, out), example(r, in, out)
			l := clamped(list(r, hidden*in+hidden+out*hidden+out))
			if !right {
				m.B2[out-1], l[len(l)-1] = most+1, most+1
			}
			whole := laid(&m, &x, &l)
			checkMemory(t, m, x, l, whole)
		}
	})
}

func checkMemory(t *testing.T, m api.Pupil, x api.Example, l []int, whole [][]int) {
	t.Helper()
	before := cloned(whole)
	got := ask(m, x, l)
	first := cloned(got)
	for i, a := range got {
		a = a[:cap(a)]
		for k := range a {
			a[k] = -99
		}
		for k := i + 1; k < len(got); k++ {
			if !slices.Equal(got[k], first[k]) {
				t.Errorf("answers %d and %d share memory", i, k)
			}
		}
	}
	if !reflect.DeepEqual(before, whole) {
		t.Error("what was handed in was changed, or is shared")
	}
	for i, a := range ask(m, x, l) {
		if !slices.Equal(a, first[i]) {
			t.Errorf("asked again: %v, at first %v", a, first[i])
		}
	}
}

// P2: lists that are handed in may be one and the same memory.
func TestOneMemory(t *testing.T) {
	all := []int{one, -one, 2 * one, one / 2}
	m := api.Pupil{
		W1: api.Matrix{Rows: 2, Cols: 2, A: all}, B1: all[:2],
		W2: api.Matrix{Rows: 2, Cols: 2, A: all}, B2: all[2:],
	}
	x := api.Example{In: all[1:3], Out: all[:2]}
	checkByWords(t, m, x)
	checkMemory(t, m, x, slices.Repeat(all, 3), [][]int{all})
}

// P2: nothing is kept from call to call, also where many ask at once.
func TestNothingIsKept(t *testing.T) {
	r := rand.New(rand.NewSource(8))
	m, x, l := made(r, 4, 3, 2), example(r, 4, 2), clamped(list(r, 23))
	first := ask(m, x, l)
	var wait sync.WaitGroup
	for worker := range 4 {
		wait.Add(1)
		go func() {
			defer wait.Done()
			own := rand.New(rand.NewSource(int64(worker)))
			for range 200 {
				in, hidden, out := own.Intn(6), own.Intn(6), own.Intn(6)
				ask(made(own, in, hidden, out), example(own, in, out), list(own, own.Intn(41)))
				if got := ask(m, x, l); !reflect.DeepEqual(got, first) {
					t.Errorf("asked again: %v, at first %v", got, first)
				}
			}
		}()
	}
	wait.Wait()
}
