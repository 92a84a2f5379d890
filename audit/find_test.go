package audit_test

import (
	"math/bits"
	"math/rand"
	"slices"
	"testing"

	"lessonbook/api"
	"lessonbook/audit"
)

// pairOf are two journals whose chains are the same at the places of which that
// is said, and which are unlike in all else.
func pairOf(r *rand.Rand, same []bool) ([]api.Record, []api.Record) {
	a, b := make([]api.Record, len(same)), make([]api.Record, len(same))
	for i := range same {
		a[i] = api.Record{Step: i, Batch: []int{i}, Rate: 1, Root: r.Uint64(), Chain: r.Uint64()}
		b[i] = api.Record{Step: -i - 1, Rate: 2, Root: r.Uint64(), Chain: a[i].Chain}
		if !same[i] {
			b[i].Chain ^= 1 << r.Intn(64)
		}
	}
	return a, b
}

// partedAt are n places, the same up to place k.
func partedAt(n, k int) []bool {
	l := make([]bool, n)
	for i := range k {
		l[i] = true
	}
	return l
}

// findWords is Find of P19, told by the places between low and high.
func findWords(same []bool) (int, int) {
	if same[len(same)-1] {
		return len(same), 1
	}
	var halve func(low, high int) (int, int)
	halve = func(low, high int) (int, int) {
		if high <= low+1 {
			return high, 1
		}
		// Half of two more, less one: rounded down also of numbers below 0.
		m := (low+high+2)/2 - 1
		var place, asked int
		if same[m] {
			place, asked = halve(m, high)
		} else {
			place, asked = halve(low, m)
		}
		return place, asked + 1
	}
	return halve(-1, len(same)-1)
}

func find(t *testing.T, a, b []api.Record) (int, int) {
	t.Helper()
	place, asked, e := audit.Find(a, b)
	if e != api.OK {
		t.Fatalf("Find of %d and %d records: %d", len(a), len(b), e)
	}
	return place, asked
}

// P19: journals of eleven lengths, parted at every place or not at all: how
// many times is asked, reckoned elsewhere.
func TestFindByNumbers(t *testing.T) {
	r := rand.New(rand.NewSource(11))
	for _, asks := range [][]int{
		{1, 1},
		{2, 2, 1},
		{2, 3, 3, 1},
		{3, 3, 3, 3, 1},
		{3, 3, 3, 4, 4, 1},
		{4, 4, 4, 4, 4, 4, 4, 4, 1},
		{4, 4, 4, 4, 4, 4, 4, 5, 5, 1},
		{5, 5, 5, 5, 5, 5, 5, 5, 5, 5, 5, 5, 5, 5, 5, 5, 1},
		{6, 6, 6, 6, 6, 6, 6, 6, 6, 6, 6, 6, 6, 6, 6, 6, 6, 6, 6, 6, 6, 6, 6, 6, 6, 6, 6, 6, 6, 6, 6, 7, 7, 1},
		{6, 6, 6, 6, 6, 6, 6, 7, 7, 6, 6, 6, 7, 7, 6, 6, 6, 7, 7, 6, 6, 6, 7, 7, 6, 6, 6, 7, 7, 6, 6, 6, 7, 7, 6, 6, 6, 7, 7, 1},
		{6, 6, 6, 7, 7, 6, 6, 6, 7, 7, 6, 6, 6, 7, 7, 6, 6, 6, 7, 7, 6, 6, 6, 7, 7, 6, 6, 6, 7, 7, 6, 6, 6, 7, 7, 6, 6, 6, 7, 7, 1},
	} {
		n := len(asks) - 1
		for k, want := range asks {
			a, b := pairOf(r, partedAt(n, k))
			if place, asked := find(t, a, b); place != k || asked != want {
				t.Errorf("Find of %d records, parted at %d = %d, %d, want %d asks", n, k, place, asked, want)
			}
			if place, asked := find(t, b, a); place != k || asked != want {
				t.Errorf("Find of %d records, parted at %d, the other one first = %d, %d, want %d asks", n, k, place, asked, want)
			}
		}
	}
}

// P19: every length and place, told by the promise's words; one ask for
// the last place, and no more than each time half of what is left.
func TestFindByWords(t *testing.T) {
	r := rand.New(rand.NewSource(12))
	for n := 1; n <= api.MaxSteps; n++ {
		for k := range n + 1 {
			same := partedAt(n, k)
			a, b := pairOf(r, same)
			place, asked := find(t, a, b)
			if wantPlace, wantAsked := findWords(same); place != k || place != wantPlace || asked != wantAsked {
				t.Errorf("Find of %d records, parted at %d = %d, %d, want %d asks", n, k, place, asked, wantAsked)
			}
			if asked > 1+bits.Len(uint(n-1)) {
				t.Errorf("Find of %d records, parted at %d, asks %d times", n, k, asked)
			}
		}
	}
}

// P19: chains that come together again: the places that are asked are seen in
// what is told.
func TestFindOfAnyChains(t *testing.T) {
	r := rand.New(rand.NewSource(13))
	asked := func(same []bool) {
		a, b := pairOf(r, same)
		place, asks := find(t, a, b)
		if wantPlace, wantAsks := findWords(same); place != wantPlace || asks != wantAsks {
			t.Errorf("Find of %v = %d, %d, want %d, %d", same, place, asks, wantPlace, wantAsks)
		}
	}
	for n := 1; n <= 8; n++ {
		for mask := range 1 << n {
			same := make([]bool, n)
			for i := range same {
				same[i] = mask>>i&1 == 1
			}
			asked(same)
		}
	}
	for range 4000 {
		same := make([]bool, 1+r.Intn(api.MaxSteps))
		for i := range same {
			same[i] = r.Intn(2) == 0
		}
		asked(same)
	}
	// Asked are 7, 3, 1 and 0: reckoned elsewhere.
	a, b := pairOf(r, []bool{true, false, true, false, true, false, false, false})
	if place, asks := find(t, a, b); place != 1 || asks != 4 {
		t.Errorf("Find = %d, %d", place, asks)
	}
}

// P19: chains are the same only if they are, not if their rests by P are.
func TestFindOfRests(t *testing.T) {
	for _, x := range [][2]uint64{{0, api.P}, {1, api.P + 1}, {full, full % api.P}, {0, full}, {0, 1 << 63}} {
		a, b := []api.Record{{Chain: x[0]}}, []api.Record{{Chain: x[1]}}
		if place, asks := find(t, a, b); place != 0 || asks != 1 {
			t.Errorf("Find of %d and %d = %d, %d", x[0], x[1], place, asks)
		}
	}
}

// P19: nothing but the chains is looked at, also where all else is the same.
func TestFindLooksAtChains(t *testing.T) {
	r := rand.New(rand.NewSource(14))
	c := config(r)
	c.Steps = 9
	right := records(t, c, some(r, c), 9)
	for i := range right {
		for _, b := range bends() {
			l := copied(right)
			b.to(&l[i])
			if place, asks := find(t, right, l); place != 9 || asks != 1 {
				t.Errorf("Find, with %s at %d = %d, %d", b.name, i, place, asks)
			}
		}
		l := copied(right)
		for k := i; k < len(l); k++ {
			l[k].Chain++
		}
		if place, _ := find(t, right, l); place != i {
			t.Errorf("Find, with other chains from %d on = %d", i, place)
		}
	}
}

// P19: no records, too many, and not as many.
func TestWrongFinds(t *testing.T) {
	lengths := []int{0, 1, 2, 39, 40, 41, 42, 200, 1 << 16}
	for _, n := range lengths {
		for _, m := range lengths {
			if n == m && n >= 1 && n <= 40 {
				continue
			}
			a, b := make([]api.Record, n), make([]api.Record, m)
			if place, asks, e := audit.Find(a, b); place != 0 || asks != 0 || e != api.ErrForm {
				t.Errorf("Find of %d and %d records = %d, %d, %d", n, m, place, asks, e)
			}
		}
	}
	for _, l := range [][]api.Record{nil, {}} {
		if place, asks, e := audit.Find(nil, l); place != 0 || asks != 0 || e != api.ErrForm {
			t.Errorf("Find of none = %d, %d, %d", place, asks, e)
		}
	}
	a := make([]api.Record, 40)
	if place, asks := find(t, a, slices.Clone(a)); place != 40 || asks != 1 {
		t.Errorf("Find of 40 records that are the same = %d, %d", place, asks)
	}
	if place, asks := find(t, a, a); place != 40 || asks != 1 {
		t.Errorf("Find of 40 records and themselves = %d, %d", place, asks)
	}
}
