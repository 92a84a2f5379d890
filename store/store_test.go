package store_test

import (
	"math"
	"math/rand"
	"slices"
	"strings"
	"testing"

	"lessonbook/api"
	"lessonbook/store"
)

// open is a new store; it must be one.
func open(t *testing.T, room int) *store.Store {
	t.Helper()
	s, e := store.New(room)
	if e != api.OK || s == nil {
		t.Fatalf("New(%d) = %v, %d", room, s, e)
	}
	return s
}

// plain is a record of a step, with a line of 12 bytes, or of 13 from 10 on.
func plain(step int) api.Record {
	return api.Record{Step: step, Rate: 7, Root: 1, Chain: 2, Batch: []int{0, 5}}
}

// add appends records, which must be let in.
func add(t *testing.T, s *store.Store, l ...api.Record) {
	t.Helper()
	for _, r := range l {
		if e := s.Append(r); e != api.OK {
			t.Fatalf("Append(%+v) behind %q = %d", r, s.Bytes(), e)
		}
	}
}

// has: are these a store's bytes, and these steps its records'?
func has(t *testing.T, s *store.Store, bytes string, steps ...int) {
	t.Helper()
	if got := s.Bytes(); got != bytes {
		t.Errorf("Bytes = %q, not %q", got, bytes)
	}
	var got []int
	for _, r := range s.Records() {
		got = append(got, r.Step)
	}
	if !slices.Equal(got, steps) {
		t.Errorf("Records of %q are those of steps %v, not %v", bytes, got, steps)
	}
}

// synced is how many of its bytes are synced: a copy is asked, by a crash.
func synced(s *store.Store) int {
	other := *s
	other.Crash(0)
	return len(other.Bytes())
}

// isSynced: are just so many of its bytes synced?
func isSynced(t *testing.T, s *store.Store, want int) {
	t.Helper()
	if got := synced(s); got != want {
		t.Errorf("%d bytes of %q are synced, not %d", got, s.Bytes(), want)
	}
}

// isRepaired: are so many bytes gone, and is all that is left synced?
func isRepaired(t *testing.T, s *store.Store, gone int) {
	t.Helper()
	was := s.Bytes()
	if got := s.Repair(); got != gone {
		t.Errorf("Repair of %q = %d, not %d", was, got, gone)
	}
	if got := s.Bytes(); got != was[:len(was)-gone] {
		t.Errorf("Repair of %q leaves %q", was, got)
	}
	isSynced(t, s, len(was)-gone)
}

// P24: which rooms there are, and that a new store is empty.
func TestNew(t *testing.T) {
	for room := range api.MaxRoom + 1 {
		s := open(t, room)
		if s.Bytes() != "" || len(s.Records()) != 0 {
			t.Errorf("New(%d) has %q", room, s.Bytes())
		}
	}
	for _, room := range []int{-1, -2, 8193, 8194, 1 << 32, math.MaxInt, math.MinInt} {
		if s, e := store.New(room); s != nil || e != api.ErrArg {
			t.Errorf("New(%d) = %v, %d, not ErrArg", room, s, e)
		}
	}
}

// P24: each call of an empty store.
func TestEmptyStores(t *testing.T) {
	for _, s := range []*store.Store{open(t, 0), open(t, 1), open(t, 8192), {}} {
		s.Sync()
		has(t, s, "")
		for _, keep := range []int{-1, 0, 1, math.MinInt, math.MaxInt} {
			s.Crash(keep)
			has(t, s, "")
		}
		isRepaired(t, s, 0)
	}
}

// P24: a line stands behind all that was there, whatever its step.
func TestAppend(t *testing.T) {
	s := open(t, 100)
	add(t, s, api.Record{})
	has(t, s, "0 0 0 0\n", 0)
	add(t, s, plain(1))
	has(t, s, "0 0 0 0\n1 7 1 2 0 5\n", 0, 1)
	add(t, s, plain(7))
	has(t, s, "0 0 0 0\n1 7 1 2 0 5\n7 7 1 2 0 5\n", 0, 1)
	add(t, s, api.Record{Step: 2, Rate: 3})
	has(t, s, "0 0 0 0\n1 7 1 2 0 5\n7 7 1 2 0 5\n2 3 0 0\n", 0, 1)
	isSynced(t, s, 0)
	want := []api.Record{{}, plain(1)}
	for i, r := range s.Records() {
		if !same(r, want[i]) {
			t.Errorf("record %d = %+v, not %+v", i, r, want[i])
		}
	}
}

// P24: a store is full when a line would go beyond its room, not ahead of it.
func TestRoom(t *testing.T) {
	for room := range 40 {
		s := open(t, room)
		for i := range 5 {
			want := api.OK
			if 12*(i+1) > room {
				want = api.ErrFull
			}
			if e := s.Append(plain(i)); e != want {
				t.Errorf("room %d, line %d: %d, not %d", room, i, e, want)
			}
		}
		if got, want := len(s.Bytes()), room/12*12; got != want {
			t.Errorf("room %d: %d bytes, not %d", room, got, want)
		}
		// A shorter line may have room where a longer one had none.
		want := api.OK
		if room%12 < 8 {
			want = api.ErrFull
		}
		if e := s.Append(api.Record{}); e != want {
			t.Errorf("room %d, a short line: %d, not %d", room, e, want)
		}
	}
	var none store.Store
	if e := none.Append(api.Record{}); e != api.ErrFull || none.Bytes() != "" {
		t.Errorf("a store without room: %d, %q", e, none.Bytes())
	}
}

// P24: the greatest room, with the longest lines: a step is at most 99, so
// that more than 100 of them are never right.
func TestGreatestRoom(t *testing.T) {
	s := open(t, api.MaxRoom)
	full := lines[len(lines)-1].r
	for i := range 105 {
		full.Step = min(10+i, 99)
		add(t, s, full)
	}
	if e := s.Append(api.Record{}); e != api.ErrFull || len(s.Bytes()) != 8190 {
		t.Errorf("Append = %d, with %d bytes", e, len(s.Bytes()))
	}
	isRepaired(t, s, 8190)
	for i := range 100 {
		add(t, s, api.Record{Step: i})
	}
	if got := len(s.Records()); got != 100 {
		t.Errorf("%d records, not 100", got)
	}
	add(t, s, api.Record{Step: 99}, api.Record{})
	if got := len(s.Records()); got != 100 {
		t.Errorf("%d records, not 100", got)
	}
	isRepaired(t, s, 9+8)
}

// P24: room that was lost is there again.
func TestRoomAgain(t *testing.T) {
	s := open(t, 24)
	for range 5 {
		add(t, s, plain(0), plain(1))
		if e := s.Append(plain(2)); e != api.ErrFull {
			t.Errorf("a full store: %d", e)
		}
		s.Crash(-1)
		has(t, s, "")
	}
	add(t, s, plain(0), plain(5))
	isRepaired(t, s, 12)
	add(t, s, plain(1))
	has(t, s, "0 7 1 2 0 5\n1 7 1 2 0 5\n", 0, 1)
}

// P24: with an error nothing is changed, and ErrForm is told ahead of ErrFull.
func TestNotAppended(t *testing.T) {
	for _, room := range []int{24, 30, 36, 8192} {
		s := open(t, room)
		add(t, s, plain(0))
		s.Sync()
		add(t, s, plain(1))
		for _, x := range []struct {
			r    api.Record
			want api.Errno
		}{
			{api.Record{Step: -1}, api.ErrForm},
			{api.Record{Step: 100}, api.ErrForm},
			{api.Record{Step: 2, Rate: -1}, api.ErrForm},
			{api.Record{Step: 2, Rate: topRate + 1}, api.ErrForm},
			{api.Record{Step: 2, Root: topRoot + 1}, api.ErrForm},
			{api.Record{Step: 2, Chain: topRoot + 1}, api.ErrForm},
			{api.Record{Step: 2, Batch: make([]int, 9)}, api.ErrForm},
			{api.Record{Step: 2, Batch: make([]int, 10000)}, api.ErrForm},
			{api.Record{Step: 2, Batch: []int{0, 100}}, api.ErrForm},
			{api.Record{Step: 2, Batch: []int{-1, 0}}, api.ErrForm},
			{lines[len(lines)-1].r, api.ErrFull},
		} {
			if x.want == api.ErrFull && room == 8192 {
				continue
			}
			if e := s.Append(x.r); e != x.want {
				t.Errorf("Append(%+v) = %d, not %d", x.r, e, x.want)
			}
			has(t, s, "0 7 1 2 0 5\n1 7 1 2 0 5\n", 0, 1)
			isSynced(t, s, 12)
		}
	}
}

// P24: of what isn't synced a crash leaves so many bytes as are said.
func TestCrash(t *testing.T) {
	const all = "0 7 1 2 0 5\n1 7 1 2 0 5\n2 7 1 2 0 5\n"
	for sync := range 4 {
		for keep := -3; keep <= len(all)+3; keep++ {
			s := open(t, 50)
			for i := range 4 {
				if i == sync {
					s.Sync()
				}
				if i < 3 {
					add(t, s, plain(i))
				}
			}
			isSynced(t, s, 12*sync)
			s.Crash(keep)
			left := min(12*sync+max(keep, 0), len(all))
			has(t, s, all[:left], []int{0, 1, 2}[:left/12]...)
			isSynced(t, s, left)
			// What is left is synced: another crash takes nothing more.
			s.Crash(-1)
			has(t, s, all[:left], []int{0, 1, 2}[:left/12]...)
			isRepaired(t, s, left%12)
		}
	}
}

// P24: how many bytes a crash leaves may be said by any number.
func TestCrashFarOff(t *testing.T) {
	for _, x := range []struct{ keep, left int }{
		{math.MinInt, 12}, {math.MinInt + 1, 12}, {-1 << 32, 12}, {math.MaxInt, 24}, {math.MaxInt - 1, 24}, {1 << 32, 24},
	} {
		s := open(t, 50)
		add(t, s, plain(0))
		s.Sync()
		add(t, s, plain(1))
		s.Crash(x.keep)
		if got := len(s.Bytes()); got != x.left {
			t.Errorf("Crash(%d) leaves %d bytes, not %d", x.keep, got, x.left)
		}
		isSynced(t, s, x.left)
	}
}

// P24: Sync takes all bytes, those of no right line too, and leaves them.
func TestSync(t *testing.T) {
	s := open(t, 50)
	add(t, s, plain(4))
	s.Sync()
	isSynced(t, s, 12)
	add(t, s, plain(0))
	isSynced(t, s, 12)
	s.Crash(3)
	add(t, s, plain(1))
	isSynced(t, s, 15)
	s.Sync()
	s.Sync()
	isSynced(t, s, 27)
	has(t, s, "4 7 1 2 0 5\n0 71 7 1 2 0 5\n")
}

// P24: only lines from the first byte on, each with its place as its step, are
// right; what stands behind is gone, synced or not.
func TestRepair(t *testing.T) {
	for _, x := range []struct {
		steps []int
		right int
	}{
		{[]int{0}, 1}, {[]int{1}, 0}, {[]int{99}, 0}, {[]int{0, 0}, 1}, {[]int{0, 1}, 2}, {[]int{0, 2}, 1}, {[]int{1, 0}, 0}, {[]int{1, 1}, 0}, {[]int{1, 2, 3}, 0},
		{[]int{0, 1, 2, 3}, 4}, {[]int{0, 1, 2, 2, 3}, 3}, {[]int{0, 1, 3, 2}, 2}, {[]int{0, 2, 2, 3}, 1}, {[]int{0, 1, 0, 1, 2}, 2}, {[]int{0, 1, 2, 1, 4}, 3},
		{[]int{0, 1, 2, 3, 4, 5, 6, 7, 8, 9, 10, 11, 12}, 13}, {[]int{0, 1, 2, 3, 4, 5, 6, 7, 8, 9, 11, 11}, 10},
	} {
		for _, sync := range []bool{false, true} {
			s := open(t, 500)
			ends := []int{0}
			for _, step := range x.steps {
				add(t, s, plain(step))
				ends = append(ends, len(s.Bytes()))
			}
			if sync {
				s.Sync()
			}
			was := s.Bytes()
			has(t, s, was, x.steps[:x.right]...)
			isRepaired(t, s, len(was)-ends[x.right])
			has(t, s, was[:ends[x.right]], x.steps[:x.right]...)
			isRepaired(t, s, 0)
		}
	}
}

// P24: to ask for bytes and records changes nothing.
func TestAsking(t *testing.T) {
	s := open(t, 100)
	add(t, s, plain(0))
	s.Sync()
	add(t, s, plain(1), plain(9), plain(2))
	for range 3 {
		has(t, s, "0 7 1 2 0 5\n1 7 1 2 0 5\n9 7 1 2 0 5\n2 7 1 2 0 5\n", 0, 1)
		isSynced(t, s, 12)
	}
}

// P24: a line behind a torn one that wasn't repaired is no line of its own: it
// is read as the bytes stand.
func TestBehindTornLines(t *testing.T) {
	const one = "0 7 1 2 0 5\n"
	for _, x := range []struct {
		keep  int
		r     api.Record
		bytes string
		last  api.Record
		right bool
	}{
		{0, plain(1), "1 7 1 2 0 5\n", plain(1), true},
		{1, plain(1), "11 7 1 2 0 5\n", api.Record{}, false},
		{2, plain(1), "1 1 7 1 2 0 5\n", api.Record{Step: 1, Rate: 1, Root: 7, Chain: 1, Batch: []int{2, 0, 5}}, true},
		{2, plain(0), "1 0 7 1 2 0 5\n", api.Record{Step: 1, Rate: 0, Root: 7, Chain: 1, Batch: []int{2, 0, 5}}, true},
		{5, plain(2), "1 7 12 7 1 2 0 5\n", api.Record{Step: 1, Rate: 7, Root: 12, Chain: 7, Batch: []int{1, 2, 0, 5}}, true},
		{9, plain(1), "1 7 1 2 01 7 1 2 0 5\n", api.Record{}, false},
		{11, api.Record{Step: 1}, "1 7 1 2 0 51 0 0 0\n", api.Record{Step: 1, Rate: 7, Root: 1, Chain: 2, Batch: []int{0, 51, 0, 0, 0}}, true},
		{11, api.Record{Step: 1, Rate: 100}, "1 7 1 2 0 51 100 0 0\n", api.Record{}, false},
		{11, plain(1), "1 7 1 2 0 51 7 1 2 0 5\n", api.Record{Step: 1, Rate: 7, Root: 1, Chain: 2, Batch: []int{0, 51, 7, 1, 2, 0, 5}}, true},
		{12, plain(2), "1 7 1 2 0 5\n2 7 1 2 0 5\n", plain(2), true},
	} {
		s := open(t, 100)
		add(t, s, plain(0))
		s.Sync()
		add(t, s, plain(1))
		s.Crash(x.keep)
		add(t, s, x.r)
		l := s.Records()
		if s.Bytes() != one+x.bytes {
			t.Errorf("kept %d: %q, not %q", x.keep, s.Bytes(), one+x.bytes)
		}
		if x.right {
			if !same(l[len(l)-1], x.last) {
				t.Errorf("kept %d: the last record of %q is %+v, not %+v", x.keep, s.Bytes(), l[len(l)-1], x.last)
			}
			isRepaired(t, s, 0)
			continue
		}
		has(t, s, one+x.bytes, 0)
		isRepaired(t, s, len(x.bytes))
	}
}

// model is a store, done in another way: byte by byte, with lines read by form.
type model struct {
	bytes []byte
	mark  int
	room  int
}

func (m *model) append(line string) api.Errno {
	if m.room-len(m.bytes) < len(line) {
		return api.ErrFull
	}
	m.bytes = append(m.bytes, line...)
	return api.OK
}

func (m *model) crash(keep int) {
	for len(m.bytes) > m.mark && len(m.bytes)-m.mark > keep {
		m.bytes = m.bytes[:len(m.bytes)-1]
	}
	m.mark = len(m.bytes)
}

func (m *model) records() ([]api.Record, string) {
	var l []api.Record
	rest := string(m.bytes)
	for {
		r, n := readByForm(rest)
		if n == 0 || r.Step != len(l) {
			return l, rest
		}
		l, rest = append(l, r), rest[n:]
	}
}

func (m *model) repair() int {
	_, rest := m.records()
	m.bytes = []byte(strings.TrimSuffix(string(m.bytes), rest))
	m.mark = len(m.bytes)
	return len(rest)
}

// P24: any calls, one behind the other.
func TestManyCalls(t *testing.T) {
	r := rand.New(rand.NewSource(4))
	for range 400 {
		m := &model{room: r.Intn(700)}
		s := open(t, m.room)
		for range 60 {
			doOne(t, r, s, m)
			l, _ := m.records()
			if got := s.Records(); !slices.EqualFunc(got, l, same) || s.Bytes() != string(m.bytes) {
				t.Fatalf("%q with %v, not %q with %v", s.Bytes(), got, m.bytes, l)
			}
			isSynced(t, s, m.mark)
		}
	}
}

// doOne does one call with both a store and its model.
func doOne(t *testing.T, r *rand.Rand, s *store.Store, m *model) {
	t.Helper()
	switch r.Intn(12) {
	case 0:
		s.Sync()
		m.mark = len(m.bytes)
	case 1:
		keep := r.Intn(60) - 10
		s.Crash(keep)
		m.crash(keep)
	case 2:
		if got, want := s.Repair(), m.repair(); got != want {
			t.Fatalf("Repair = %d, not %d", got, want)
		}
	case 3:
		if e := s.Append(api.Record{Step: 100}); e != api.ErrForm {
			t.Fatalf("Append of a wrong record = %d", e)
		}
	default:
		x := record(r)
		if r.Intn(8) > 0 {
			x.Step = min(len(s.Records()), 99)
		}
		line, _ := store.Print(x)
		if got, want := s.Append(x), m.append(line); got != want {
			t.Fatalf("Append = %d, not %d", got, want)
		}
	}
}

// P24: a Store that is copied is one of its own.
func TestCopiedStores(t *testing.T) {
	s := open(t, 100)
	add(t, s, plain(0), plain(1))
	other := *s
	add(t, s, plain(2))
	add(t, &other, plain(7))
	has(t, s, "0 7 1 2 0 5\n1 7 1 2 0 5\n2 7 1 2 0 5\n", 0, 1, 2)
	has(t, &other, "0 7 1 2 0 5\n1 7 1 2 0 5\n7 7 1 2 0 5\n", 0, 1)
	other.Crash(0)
	isRepaired(t, s, 0)
	has(t, s, "0 7 1 2 0 5\n1 7 1 2 0 5\n2 7 1 2 0 5\n", 0, 1, 2)
	has(t, &other, "")
}
