package store_test

import (
	"math/rand"
	"slices"
	"sync"
	"testing"
	"unsafe"

	"lessonbook/api"
	"lessonbook/audit"
	"lessonbook/journal"
	"lessonbook/store"
)

// spoil writes over a list, the room behind it included.
func spoil(l []int) {
	l = l[:cap(l)]
	for i := range l {
		l[i] = 77
	}
}

// P2: a record that is handed in is not changed, the room behind its batch
// included, and not kept.
func TestBatchHandedIn(t *testing.T) {
	for n := range api.MaxBatch + 1 {
		room := slices.Repeat([]int{55}, n+4)
		r := api.Record{Step: 0, Rate: 1, Root: 2, Chain: 3, Batch: room[:n]}
		line, e := store.Print(r)
		s := open(t, 100)
		add(t, s, r)
		if e != api.OK || !slices.Equal(room, slices.Repeat([]int{55}, n+4)) {
			t.Errorf("a batch of %d is changed: %v", n, room)
		}
		spoil(r.Batch)
		if l := s.Records(); s.Bytes() != line || len(l) != 1 || !slices.Equal(l[0].Batch, slices.Repeat([]int{55}, n)) {
			t.Errorf("a batch of %d is kept: %q, %v", n, s.Bytes(), l)
		}
	}
}

// P2: records are new memory each time, and no two of them share any.
func TestRecordsAnswered(t *testing.T) {
	r := rand.New(rand.NewSource(5))
	s := open(t, 8192)
	var want []api.Record
	for i := range 60 {
		x := record(r)
		x.Step = i
		want = append(want, x)
		add(t, s, x)
	}
	bytes := s.Bytes()
	first, second := s.Records(), s.Records()
	for i := range first {
		spoil(first[i].Batch)
		if !slices.EqualFunc(first[i+1:], want[i+1:], same) || !slices.EqualFunc(second, want, same) {
			t.Fatalf("record %d shares its batch", i)
		}
	}
	first = first[:cap(first)]
	for i := range first {
		first[i] = api.Record{Step: 88}
	}
	if !slices.EqualFunc(second, want, same) || !slices.EqualFunc(s.Records(), want, same) || s.Bytes() != bytes {
		t.Error("records that were answered are kept")
	}
	isRepaired(t, s, 0)
}

// P2: a text that is answered is new memory too, and stays as it was.
func TestBytesAnswered(t *testing.T) {
	s := open(t, 100)
	add(t, s, plain(0), plain(4))
	first, second := s.Bytes(), s.Bytes()
	if unsafe.StringData(first) == unsafe.StringData(second) {
		t.Error("two answers share memory")
	}
	s.Repair()
	add(t, s, plain(1))
	s.Crash(3)
	if first != "0 7 1 2 0 5\n4 7 1 2 0 5\n" || second != first {
		t.Errorf("what was answered is changed: %q, %q", first, second)
	}
}

// P2: a record that was read is new memory each time.
func TestParsedAnswered(t *testing.T) {
	const text = "1 2 3 4 5 6 7\n"
	first, _, _ := store.Parse(text)
	spoil(first.Batch)
	if again, _, e := store.Parse(text); e != api.OK || !slices.Equal(again.Batch, []int{5, 6, 7}) {
		t.Errorf("Parse(%q), asked again: %v, %d", text, again, e)
	}
}

// P2: one store does not hang on another, nor on calls at the same time.
func TestAtTheSameTime(t *testing.T) {
	var group sync.WaitGroup
	shared := []int{1, 2, 3}
	for k := range 8 {
		group.Go(func() {
			s, _ := store.New(400 + k)
			for i := range 20 {
				r := api.Record{Step: i, Rate: k, Batch: shared}
				line, e := store.Print(r)
				got, n, f := store.Parse(line)
				if e != api.OK || f != api.OK || n != len(line) || !same(got, r) || s.Append(r) != api.OK {
					t.Errorf("%d: %q is read as %+v", k, line, got)
				}
			}
			s.Crash(150)
			s.Repair()
			for i, r := range s.Records() {
				if r.Step != i || r.Rate != k {
					t.Errorf("%d: record %d is %+v", k, i, r)
				}
			}
		})
	}
	group.Wait()
}

// course is a journal with the longest lines that a course can have.
func course(t *testing.T) (api.Config, []api.Example, []api.Record) {
	t.Helper()
	c := api.Config{In: 1, Hidden: 2, Out: 1, Seed: 3, Batch: api.MaxBatch, Steps: api.MaxSteps, Rate: 6554}
	var data []api.Example
	for i := range api.MaxData {
		data = append(data, api.Example{In: []int{i * api.One / 8}, Out: []int{i * api.One / 4}})
	}
	l, e := journal.Make(c, data, c.Steps)
	if e != api.OK {
		t.Fatalf("Make = %d", e)
	}
	return c, data, l
}

// P24: a whole journal has room in a store, and is read again as it was.
func TestJournalKept(t *testing.T) {
	c, data, l := course(t)
	s := open(t, api.MaxRoom)
	add(t, s, l...)
	got := s.Records()
	if !slices.EqualFunc(got, l, same) {
		t.Errorf("%d records are read otherwise than they were kept", len(got))
	}
	if n, e := audit.Whole(c, data, got); n != c.Steps || e != api.OK {
		t.Errorf("Whole = %d, %d", n, e)
	}
	isRepaired(t, s, 0)
}

// P24: a course that is stopped at any byte, repaired and gone on with has the
// journal that it would have had.
func TestStoppedAndGoneOnWith(t *testing.T) {
	_, _, l := course(t)
	whole := open(t, api.MaxRoom)
	add(t, whole, l...)
	for _, at := range []int{0, 17, len(l) - 1} {
		for keep := 0; ; keep++ {
			s := open(t, api.MaxRoom)
			add(t, s, l[:at]...)
			s.Sync()
			add(t, s, l[at:]...)
			s.Crash(keep)
			bytes, kept := s.Bytes(), s.Records()
			if len(kept) < at || !slices.EqualFunc(kept, l[:len(kept)], same) {
				t.Fatalf("stopped at %d, %d kept: %v", at, keep, kept)
			}
			if gone := s.Repair(); len(s.Bytes())+gone != len(bytes) || gone > 77 {
				t.Fatalf("stopped at %d, %d kept: %d are gone", at, keep, gone)
			}
			add(t, s, l[len(kept):]...)
			if s.Bytes() != whole.Bytes() || len(s.Records()) != len(l) {
				t.Fatalf("stopped at %d, %d kept: another journal", at, keep)
			}
			if len(bytes) == len(whole.Bytes()) {
				break
			}
		}
	}
}
