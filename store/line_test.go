package store_test

import (
	"math"
	"math/rand"
	"reflect"
	"regexp"
	"runtime"
	"slices"
	"strconv"
	"strings"
	"testing"

	"lessonbook/api"
	"lessonbook/store"
)

// The bounds as the document tells them, not as the program reckons them.
const (
	topRate = 2147483647
	topRoot = 2305843009213693950
)

// lines: records, and what is printed of them, written out by hand.
var lines = []struct {
	r    api.Record
	line string
}{
	{api.Record{}, "0 0 0 0\n"},
	{api.Record{Batch: []int{}}, "0 0 0 0\n"},
	{api.Record{Batch: []int{0}}, "0 0 0 0 0\n"},
	{api.Record{Rate: 7, Root: 1, Chain: 2, Batch: []int{0, 5}}, "0 7 1 2 0 5\n"},
	{api.Record{Step: 1, Rate: 2, Root: 3, Chain: 4, Batch: []int{5, 6, 7, 8, 9, 10, 11, 12}}, "1 2 3 4 5 6 7 8 9 10 11 12\n"},
	{api.Record{Step: 9, Rate: 10, Root: 100, Chain: 1000, Batch: []int{10, 9}}, "9 10 100 1000 10 9\n"},
	{api.Record{Step: 39, Batch: []int{15, 15}}, "39 0 0 0 15 15\n"},
	{api.Record{Step: 99}, "99 0 0 0\n"},
	{api.Record{Rate: topRate}, "0 2147483647 0 0\n"},
	{api.Record{Root: topRoot}, "0 0 2305843009213693950 0\n"},
	{api.Record{Chain: topRoot}, "0 0 0 2305843009213693950\n"},
	{api.Record{Batch: []int{99}}, "0 0 0 0 99\n"},
	{
		api.Record{Step: 99, Rate: topRate, Root: topRoot, Chain: topRoot, Batch: []int{99, 99, 99, 99, 99, 99, 99, 99}},
		"99 2147483647 2305843009213693950 2305843009213693950 99 99 99 99 99 99 99 99\n",
	},
}

// same: have both the same numbers, an empty Batch taken as none?
func same(a, b api.Record) bool {
	return a.Step == b.Step && a.Rate == b.Rate && a.Root == b.Root && a.Chain == b.Chain && slices.Equal(a.Batch, b.Batch)
}

// isLine: is that line what is printed, and is it read as its record again,
// whatever stands behind it?
func isLine(t *testing.T, r api.Record, line string) {
	t.Helper()
	if got, e := store.Print(r); got != line || e != api.OK {
		t.Errorf("Print(%+v) = %q, %d, not %q", r, got, e, line)
	}
	for _, behind := range []string{"", "\n", " ", "0", "more", "1 2 3 4\n", line, "\x00\xff", strings.Repeat("9", 100)} {
		got, n, e := store.Parse(line + behind)
		if !same(got, r) || n != len(line) || e != api.OK {
			t.Errorf("Parse(%q) = %+v, %d, %d, not %+v", line+behind, got, n, e, r)
		}
	}
}

// isRefused: is a text no line, and is nothing told beside the error?
func isRefused(t *testing.T, text string) {
	t.Helper()
	r, n, e := store.Parse(text)
	if !reflect.DeepEqual(r, api.Record{}) || n != 0 || e != api.ErrForm {
		t.Errorf("Parse(%.200q) = %+v, %d, %d, not ErrForm alone", text, r, n, e)
	}
}

// form is a line as the document has it, but for how great its long numbers are.
var form = regexp.MustCompile(`\A(0|[1-9][0-9]?) (0|[1-9][0-9]{0,9}) (0|[1-9][0-9]{0,18}) (0|[1-9][0-9]{0,18})((?: (?:0|[1-9][0-9]?)){0,8})\n`)

// readByForm is Parse, done in another way; 0 bytes stand for ErrForm.
func readByForm(text string) (api.Record, int) {
	parts := form.FindStringSubmatch(text)
	if parts == nil {
		return api.Record{}, 0
	}
	var numbers []uint64
	for _, part := range append(parts[1:5:5], strings.Fields(parts[5])...) {
		n, err := strconv.ParseUint(part, 10, 64)
		if err != nil {
			return api.Record{}, 0
		}
		numbers = append(numbers, n)
	}
	if numbers[1] > topRate || numbers[2] > topRoot || numbers[3] > topRoot {
		return api.Record{}, 0
	}
	r := api.Record{Step: int(numbers[0]), Rate: int(numbers[1]), Root: numbers[2], Chain: numbers[3]}
	for _, n := range numbers[4:] {
		r.Batch = append(r.Batch, int(n))
	}
	return r, len(parts[0])
}

// isAsByForm: does Parse answer as the other way does? Told is whether there
// is a line.
func isAsByForm(t *testing.T, text string) bool {
	t.Helper()
	want, n := readByForm(text)
	if n == 0 {
		isRefused(t, text)
		return false
	}
	if got, m, e := store.Parse(text); !same(got, want) || m != n || e != api.OK {
		t.Errorf("Parse(%q) = %+v, %d, %d, not %+v, %d", text, got, m, e, want, n)
	}
	return true
}

// record: any that can be printed, each number often at the end of its bounds.
func record(r *rand.Rand) api.Record {
	var batch []int
	for range r.Intn(9) {
		batch = append(batch, upTo(r, 99))
	}
	return api.Record{Step: upTo(r, 99), Batch: batch, Rate: upTo(r, topRate), Root: uint64(upTo(r, topRoot)), Chain: uint64(upTo(r, topRoot))}
}

// upTo: a number from 0 to most, with any number of digits.
func upTo(r *rand.Rand, most int) int {
	switch r.Intn(4) {
	case 0:
		return most - r.Intn(2)
	case 1:
		return r.Intn(2)
	case 2:
		return r.Intn(most + 1)
	}
	n := most
	for range r.Intn(19) {
		n /= 10
	}
	return r.Intn(n + 1)
}

// P23: what a line is.
func TestLines(t *testing.T) {
	for _, x := range lines {
		isLine(t, x.r, x.line)
	}
}

// P23: each number from 0 to 99, as a step and at each place of a batch.
func TestPlaces(t *testing.T) {
	for n := range 100 {
		told := strconv.Itoa(n)
		isLine(t, api.Record{Step: n}, told+" 0 0 0\n")
		for k := range api.MaxBatch {
			batch := make([]int, k+1)
			batch[k] = n
			isLine(t, api.Record{Batch: batch}, "0 0 0 0"+strings.Repeat(" 0", k)+" "+told+"\n")
		}
	}
}

// P23: numbers with each number of digits.
func TestPowers(t *testing.T) {
	for n := uint64(1); n <= topRoot; n *= 10 {
		for _, x := range []uint64{n - 1, n, n + 1} {
			told := strconv.FormatUint(x, 10)
			isLine(t, api.Record{Root: x}, "0 0 "+told+" 0\n")
			isLine(t, api.Record{Chain: x}, "0 0 0 "+told+"\n")
			if x <= topRate {
				isLine(t, api.Record{Rate: int(x)}, "0 "+told+" 0 0\n")
			}
		}
	}
}

// P23: whatever can be printed is read again, and has a line as the other way
// takes it.
func TestPrintedAndRead(t *testing.T) {
	r := rand.New(rand.NewSource(1))
	for range 5000 {
		x := record(r)
		line, e := store.Print(x)
		if e != api.OK || len(line) > 78 {
			t.Fatalf("Print(%+v) = %q, %d", x, line, e)
		}
		isLine(t, x, line)
		if got, n := readByForm(line); !same(got, x) || n != len(line) {
			t.Errorf("Print(%+v) = %q, which is read as %+v", x, line, got)
		}
	}
}

// wrongInts and wrongRoots: numbers beyond each bound, and far beyond.
func wrongInts(most int) []int {
	return []int{-1, -2, -most, most + 1, most + 2, 10 * (most + 1), 1 << 32, math.MaxInt, math.MinInt}
}

var wrongRoots = []uint64{topRoot + 1, topRoot + 2, 2 * topRoot, 1 << 63, 1<<63 + 5, math.MaxUint64}

// P23: what Print does not let go.
func TestNotPrinted(t *testing.T) {
	refused := func(r api.Record) {
		t.Helper()
		if line, e := store.Print(r); line != "" || e != api.ErrForm {
			t.Errorf("Print(%+v) = %q, %d, not ErrForm", r, line, e)
		}
	}
	full := lines[len(lines)-1].r
	for _, x := range []api.Record{{}, {Step: 3, Rate: 4, Root: 5, Chain: 6, Batch: []int{7, 8, 9}}, full} {
		bend := func(change func(*api.Record)) {
			t.Helper()
			y := x
			y.Batch = slices.Clone(x.Batch)
			change(&y)
			refused(y)
		}
		for _, n := range wrongInts(99) {
			bend(func(r *api.Record) { r.Step = n })
			for k := range x.Batch {
				bend(func(r *api.Record) { r.Batch[k] = n })
			}
		}
		for _, n := range wrongInts(topRate) {
			bend(func(r *api.Record) { r.Rate = n })
		}
		for _, n := range wrongRoots {
			bend(func(r *api.Record) { r.Root = n })
			bend(func(r *api.Record) { r.Chain = n })
		}
		for _, n := range []int{9, 10, 100, 100000} {
			bend(func(r *api.Record) { r.Batch = make([]int, n) })
		}
	}
	refused(api.Record{Step: -1, Rate: -1, Root: topRoot + 1, Chain: topRoot + 1, Batch: make([]int, 9)})
}

// P23: texts that do not begin with a line.
func TestNotRead(t *testing.T) {
	for _, text := range []string{
		"", "\n", " ", " \n", "\n0 0 0 0\n", "\r\n", "0", "0\n", "0 0\n", "0 0 0\n", "0 0 0 \n", "0 0 0 0", "0 0 0 0 ", "0 0 0 0 1",
		" 0 0 0 0\n", "0 0 0 0 \n", "0  0 0 0\n", "0 0 0  0\n", "0 0 0 0  1\n", "0 0 0 0 1 \n", "0\t0 0 0\n", "0 0 0 0\t\n", "0 0 0 0\r\n", "0\n0 0 0\n", "0,0,0,0\n",
		"00 0 0 0\n", "0 00 0 0\n", "0 0 00 0\n", "0 0 0 00\n", "0 0 0 0 00\n", "01 0 0 0\n", "0 07 0 0\n", "0 0 01 0\n", "0 0 0 010\n", "0 0 0 0 5 05\n",
		"-1 0 0 0\n", "-0 0 0 0\n", "0 -0 0 0\n", "0 0 -0 0\n", "0 0 0 -1\n", "0 0 0 0 -0\n", "+0 0 0 0\n", "0 +1 0 0\n", "0 0 +1 0\n", "0 0 0 +1\n", "0 0 0 0 +1\n",
		"0x1 0 0 0\n", "0 1_0 0 0\n", "0 0 1e1 0\n", "0 0 0 1.0\n", "a 0 0 0\n", "0 0 0 0 a\n", "٠ 0 0 0\n", "0 0 0 0\x00\n", "0 0 0 0\x0b", "0 0 0 0\x0d",
		"100 0 0 0\n", "0 2147483648 0 0\n", "0 0 2305843009213693951 0\n", "0 0 0 2305843009213693951\n", "0 0 0 0 100\n", "0 0 0 0 1 2 100 3\n",
		"18446744073709551616 0 0 0\n", "18446744073709551615 0 0 0\n", "4294967296 0 0 0\n", "0 18446744073709551616 0 0\n", "0 4294967296 0 0\n", "0 9223372036854775808 0 0\n",
		"0 0 18446744073709551616 0\n", "0 0 18446744073709551617 0\n", "0 0 0 18446744073709551616\n", "0 0 0 0 18446744073709551616\n", "0 0 0 0 4294967297\n",
		"0 0 0 0 0 0 0 0 0 0 0 0 0\n", "0 0 0 0 1 2 3 4 5 6 7 8 9 10\n",
		"99 2147483647 2305843009213693950 2305843009213693950 99 99 99 99 99 99 99 990\n",
		"99 2147483647 2305843009213693950 2305843009213693950 99 99 99 99 99 99 99 99",
		"99 2147483647 2305843009213693950 2305843009213693950 99 99 99 99 99 99 99 99 \n",
		"99 2147483647 2305843009213693950 2305843009213693950 99 99 99 99 99 99 99 99 1\n",
	} {
		isRefused(t, text)
		isRefused(t, text+"x")
	}
}

// P23: a line is only read when its byte 10 is there.
func TestTornLines(t *testing.T) {
	for _, x := range lines {
		for n := range len(x.line) {
			isRefused(t, x.line[:n])
		}
	}
}

// P1, P23: long texts are refused too.
func TestLongTexts(t *testing.T) {
	for _, piece := range []string{"0", "9", " ", "0 ", " 0", "x", "\xff", "0 0 0 0 ", "-"} {
		for _, many := range []int{77, 78, 79, 80, 1000, 1 << 22} {
			text := strings.Repeat(piece, many)
			isRefused(t, text)
			isRefused(t, text+"\n")
			isRefused(t, "0 0 0 0 "+text+"\n")
		}
	}
	isLine(t, api.Record{}, "0 0 0 0\n")
	if r, n, e := store.Parse("1 2 3 4 5\n" + strings.Repeat("0 ", 1<<22)); !same(r, api.Record{Step: 1, Rate: 2, Root: 3, Chain: 4, Batch: []int{5}}) || n != 10 || e != api.OK {
		t.Errorf("ahead of a long text: %+v, %d, %d", r, n, e)
	}
}

// P1: what is refused costs no more memory for being long: all the text that
// may be handed in would else be made a list of as many words.
func TestLongTextsCheap(t *testing.T) {
	text := strings.Repeat(" ", 1<<20) + "\n"
	var before, behind runtime.MemStats
	runtime.ReadMemStats(&before)
	for range 10 {
		isRefused(t, text)
	}
	runtime.ReadMemStats(&behind)
	if used := behind.TotalAlloc - before.TotalAlloc; used > 1<<20 {
		t.Errorf("ten texts of 2^20 blanks took %d bytes", used)
	}
}

// P23: each text of up to nine of four bytes, among which are all that a short
// line can go wrong by.
func TestShortTexts(t *testing.T) {
	const bytes = "0 1\n"
	found := 0
	var each func(text []byte)
	each = func(text []byte) {
		if isAsByForm(t, string(text)) {
			found++
		}
		if len(text) == 9 {
			return
		}
		for i := range len(bytes) {
			each(append(text, bytes[i]))
		}
	}
	each(make([]byte, 0, 9))
	// 2^4 lines of eight bytes, each with nothing or one byte behind; and of
	// nine: one of four numbers has two digits.
	if want := 16 + 16*4 + 4*2*8; found != want {
		t.Errorf("%d of the short texts begin with a line, not %d", found, want)
	}
}

// P23: lines with one byte more, less or another.
func TestBentLines(t *testing.T) {
	r := rand.New(rand.NewSource(2))
	texts := []string{}
	for _, x := range lines {
		texts = append(texts, x.line)
	}
	for range 20 {
		line, _ := store.Print(record(r))
		texts = append(texts, line+"0 1")
	}
	right, wrong := 0, 0
	for _, text := range texts {
		for i := range len(text) {
			bent := []string{text[:i] + text[i+1:]}
			for b := range 256 {
				one := string([]byte{byte(b)})
				bent = append(bent, text[:i]+one+text[i+1:], text[:i]+one+text[i:])
			}
			for _, x := range bent {
				if isAsByForm(t, x) {
					right++
				} else {
					wrong++
				}
			}
		}
	}
	if right < 1000 || wrong < 1000 {
		t.Errorf("%d texts are right, %d wrong: too few to tell", right, wrong)
	}
}

// P23: texts of the words that stand at the end of the bounds, or beyond.
func TestWords(t *testing.T) {
	words := []string{
		"0", "1", "9", "10", "99", "100", "00", "01", "099", "", "-1", "-0", "+1",
		"2147483647", "2147483648", "4294967295", "4294967296", "9999999999", "10000000000",
		"2305843009213693950", "2305843009213693951", "9223372036854775807", "9223372036854775808", "9999999999999999999", "18446744073709551615", "18446744073709551616",
	}
	r := rand.New(rand.NewSource(3))
	right := 0
	for range 100000 {
		text := make([]string, 3+r.Intn(12))
		for i := range text {
			// Mostly a word that can stand there, so that some lines are right.
			text[i] = words[r.Intn(5)]
			if r.Intn(8) == 0 {
				text[i] = words[r.Intn(len(words))]
			}
		}
		if isAsByForm(t, strings.Join(text, " ")+"\n") {
			right++
		}
	}
	if right < 10000 {
		t.Errorf("%d texts are right: too few to tell", right)
	}
}
