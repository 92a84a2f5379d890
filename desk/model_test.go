package desk_test

import (
	"math/rand"
	"slices"
	"strconv"
	"strings"
	"sync"
	"testing"
	"unsafe"

	"lessonbook/api"
	"lessonbook/audit"
	"lessonbook/desk"
	"lessonbook/journal"
	"lessonbook/optim"
	"lessonbook/pupil"
	"lessonbook/store"
	"lessonbook/train"
)

// model is a desk, done in another way: it is told what to do by calls, and
// keeps the bytes of its store by itself.
type model struct {
	c      api.Config
	data   []api.Example
	bytes  string
	synced int
}

func newModel() *model {
	return &model{c: configOf([11]int{1, 1, 1, 1, 1, 3, 6554, 0, 0, 0, 0})}
}

func configOf(n [11]int) api.Config {
	return api.Config{In: n[0], Hidden: n[1], Out: n[2], Seed: uint64(max(n[3], 0)), Batch: n[4], Steps: n[5], Rate: n[6], Decay: n[7], How: n[8], Keep: n[9], Clip: n[10]}
}

// wrong tells an error.
func wrong(e api.Errno) string { return "error " + strconv.Itoa(int(e)) }

// numbered tells a number, or its error.
func numbered(n int, e api.Errno) string {
	if e != api.OK {
		return wrong(e)
	}
	return strconv.Itoa(n)
}

// right are the records of the right beginning, and how many bytes it has.
func (m *model) right() ([]api.Record, int) {
	var l []api.Record
	for at := 0; ; {
		r, n, e := store.Parse(m.bytes[at:])
		if e != api.OK || r.Step != len(l) {
			return l, at
		}
		l, at = append(l, r), at+n
	}
}

func (m *model) config(n [11]int) string {
	if e := optim.Check(configOf(n)); e != api.OK {
		return wrong(e)
	}
	m.c = configOf(n)
	return "ok"
}

func (m *model) example(x api.Example) string {
	if len(m.data) == 16 {
		return "error 2"
	}
	m.data = append(m.data, x)
	return "ok"
}

func (m *model) step() string {
	l, _ := m.right()
	made, e := journal.Make(m.c, m.data, len(l)+1)
	if e != api.OK {
		return wrong(e)
	}
	line, _ := store.Print(made[len(l)])
	if len(m.bytes+line) > 4096 {
		return "error 6"
	}
	m.bytes += line
	return line[:len(line)-1]
}

func (m *model) sync() string {
	m.synced = len(m.bytes)
	return "ok"
}

func (m *model) crash(keep int) string {
	if keep < 0 {
		keep = 0
	}
	if keep < len(m.bytes)-m.synced {
		m.bytes = m.bytes[:m.synced+keep]
	}
	return m.sync()
}

func (m *model) repair() string {
	_, n := m.right()
	gone := len(m.bytes) - n
	m.bytes = m.bytes[:n]
	m.sync()
	return strconv.Itoa(gone)
}

func (m *model) audit() string {
	l, _ := m.right()
	return numbered(audit.Whole(m.c, m.data, l))
}

func (m *model) loss(i int) string {
	if i < 0 || i >= len(m.data) {
		return "error 4"
	}
	l, _ := m.right()
	states, e := train.Run(m.c, m.data, len(l))
	if e != api.OK {
		return wrong(e)
	}
	p, _ := pupil.Shape(m.c.In, m.c.Hidden, m.c.Out, states[len(l)].Weights)
	return numbered(pupil.Loss(p, m.data[i]))
}

// listed tells numbers, with a blank ahead of each.
func listed(l []int) string {
	text := ""
	for _, n := range l {
		text += " " + strconv.Itoa(n)
	}
	return text
}

func setup(n [11]int) string { return "config" + listed(n[:]) }

func exampleLine(x api.Example) string { return "data" + listed(x.In) + " /" + listed(x.Out) }

// course is what is told of a whole course, which must be as the model has it.
func course(t *testing.T, n [11]int, data []api.Example) string {
	t.Helper()
	m := newModel()
	turns := []turn{{setup(n), m.config(n)}}
	for _, x := range data {
		turns = append(turns, turn{exampleLine(x), m.example(x)})
	}
	for range n[5] + 1 {
		turns = append(turns, turn{"step", m.step()}, turn{"loss 0", m.loss(0)}, turn{"audit", m.audit()})
	}
	turns = append(turns, turn{"bytes", strconv.Itoa(len(m.bytes))})
	isTold(t, turns...)
	_, rest, _ := strings.Cut(desk.Run(join(turns)), "\n")
	return rest
}

// anyNumbers are n of them, mostly small ones.
func anyNumbers(r *rand.Rand, n int) []int {
	l := make([]int, n)
	for i := range l {
		l[i] = r.Intn(6*api.One) - 3*api.One
		if r.Intn(200) == 0 {
			l[i] = (api.Most + r.Intn(2)) * (2*r.Intn(2) - 1)
		}
	}
	return l
}

// anyExample fits the config, mostly.
func anyExample(r *rand.Rand, c api.Config) api.Example {
	if r.Intn(40) == 0 {
		return api.Example{In: anyNumbers(r, r.Intn(6)), Out: anyNumbers(r, r.Intn(6))}
	}
	return api.Example{In: anyNumbers(r, c.In), Out: anyNumbers(r, c.Out)}
}

// anyConfig has the sides that are asked for; one of its numbers may be wrong.
func anyConfig(r *rand.Rand, in, out int) [11]int {
	n := [11]int{in, 1 + r.Intn(4), out, r.Intn(1000) - 50, 1 + r.Intn(8), 1 + r.Intn(9), r.Intn(api.One), r.Intn(2), r.Intn(2), r.Intn(api.One + 1), r.Intn(2) * r.Intn(4*api.One)}
	if r.Intn(4) == 0 {
		n[r.Intn(11)] = []int{-1, 0, 5, 41, 9999999999}[r.Intn(5)]
	}
	return n
}

// anyTurn is a line of any kind, and what the model tells of it.
func anyTurn(r *rand.Rand, m *model) turn {
	switch r.Intn(24) {
	case 0:
		n := anyConfig(r, m.c.In, m.c.Out)
		return turn{setup(n), m.config(n)}
	case 1, 2:
		x := anyExample(r, m.c)
		return turn{exampleLine(x), m.example(x)}
	case 3, 4:
		return turn{"sync", m.sync()}
	case 5, 6:
		keep := r.Intn(150) - 10
		return turn{"crash " + strconv.Itoa(keep), m.crash(keep)}
	case 7, 8, 9:
		return turn{"repair", m.repair()}
	case 10, 11:
		return turn{"audit", m.audit()}
	case 12, 13:
		i := r.Intn(len(m.data)+2) - 1
		return turn{"loss " + strconv.Itoa(i), m.loss(i)}
	case 14, 15:
		return turn{"bytes", strconv.Itoa(len(m.bytes))}
	case 16:
		return turn{[]string{"crash 01", "step 1", "loss -0", "data 1", "config 1 1 1", "x"}[r.Intn(6)], "error 3"}
	case 17:
		return turn{[]string{"", "# step", "#step"}[r.Intn(3)], ""}
	}
	return turn{"step", m.step()}
}

// anyTurns are those of a new desk.
func anyTurns(r *rand.Rand) []turn {
	m := newModel()
	var turns []turn
	if r.Intn(4) > 0 {
		n := anyConfig(r, 1+r.Intn(4), 1+r.Intn(4))
		turns = append(turns, turn{setup(n), m.config(n)})
	}
	for range r.Intn(4) {
		x := anyExample(r, m.c)
		turns = append(turns, turn{exampleLine(x), m.example(x)})
	}
	for range r.Intn(95) {
		turns = append(turns, anyTurn(r, m))
	}
	return turns
}

// P25: any lines, one behind the other.
func TestAnyLines(t *testing.T) {
	r := rand.New(rand.NewSource(6))
	for range 250 {
		isTold(t, anyTurns(r)...)
	}
}

// P25: what is told of a text is the beginning of what is told of one that goes
// on, and a line that can't be read changes nothing of the others.
func TestBeginnings(t *testing.T) {
	r := rand.New(rand.NewSource(7))
	for range 6 {
		turns := anyTurns(r)
		all := desk.Run(join(turns))
		for n := range turns {
			got := desk.Run(join(turns[:n]))
			if !strings.HasPrefix(all, got) {
				t.Fatalf("%q begins otherwise: %q", join(turns[:n]), got)
			}
			isAnswer(t, join(slices.Insert(slices.Clone(turns), n, turn{said: "step x"})), got+"error 3\n"+all[len(got):])
		}
	}
}

// P25: a course that is stopped at any byte, repaired and gone on with has the
// journal that it would have had.
func TestStoppedAndGoneOnWith(t *testing.T) {
	begin := "config 1 2 1 7 3 4 6554 1 1 58982 0\n" + example + "\n" + another + "\n"
	whole := desk.Run(begin + strings.Repeat("step\n", 4))
	lines := strings.Split(strings.TrimPrefix(whole, "ok\nok\nok\n"), "\n")[:4]
	for synced := range 4 {
		ahead := len(strings.Join(lines[:synced], "\n")) + min(synced, 1)
		all := len(strings.Join(lines, "\n")) + 1
		for keep := 0; ahead+keep <= all; keep++ {
			script := begin + strings.Repeat("step\n", synced) + "sync\n" + strings.Repeat("step\n", 4-synced) + "crash " + strconv.Itoa(keep) + "\nrepair\n"
			left := ahead + keep
			gone, taken := left, 0
			for gone > len(lines[min(taken, 3)]) {
				gone -= len(lines[taken]) + 1
				taken++
			}
			want := "ok\nok\nok\n" + strings.Join(append(slices.Insert(slices.Clone(lines), synced, "ok"), "ok", strconv.Itoa(gone)), "\n") + "\n"
			script += strings.Repeat("step\n", 4-taken) + "audit\nbytes\nstep\n"
			want += strings.Join(append(slices.Clone(lines[taken:]), "4", strconv.Itoa(all), "error 1"), "\n") + "\n"
			isAnswer(t, script, want)
		}
	}
}

// P2: one text does not hang on another, nor on calls at the same time, and
// answers share no memory.
func TestAtTheSameTime(t *testing.T) {
	var group sync.WaitGroup
	for k := range 8 {
		group.Go(func() {
			turns := anyTurns(rand.New(rand.NewSource(int64(20 + k))))
			for range 3 {
				isTold(t, turns...)
			}
		})
	}
	group.Wait()
	for _, text := range []string{"bytes", "sync", "x", strings.Repeat("\n", 201)} {
		if a, b := desk.Run(text), desk.Run(text); unsafe.StringData(a) == unsafe.StringData(b) || a != b {
			t.Errorf("%q and %q share memory", a, b)
		}
	}
}

// P1: any bytes are answered, a line each.
func TestAnyBytes(t *testing.T) {
	r := rand.New(rand.NewSource(8))
	pieces := []string{"config", "data", "step", "sync", "crash", "repair", "audit", "loss", "bytes", "/", "#", "..", "-", "0", "1", "4", "65536", "-1", "9999999999", "x", "\x00", "\xff", "\t", " ", " ", " ", " ", " ", "\n", "\n", "\n", "config 1 1 1 1 1 3 6554 0 0 0 0\n", "data 1 / 2\n"}
	for range 3000 {
		text := ""
		for range r.Intn(60) {
			text += pieces[r.Intn(len(pieces))]
		}
		lines := 0
		for _, line := range strings.Split(text, "\n") {
			if line = strings.TrimLeft(line, " "); line != "" && line[0] != '#' {
				lines++
			}
		}
		got := desk.Run(text)
		if strings.Count(got, "\n") != lines || (lines > 0) != strings.HasSuffix(got, "\n") {
			t.Errorf("Run(%q) = %q: not %d lines", text, got, lines)
		}
	}
}
