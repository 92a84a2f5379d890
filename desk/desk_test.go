package desk_test

import (
	"fmt"
	"slices"
	"strconv"
	"strings"
	"testing"

	"lessonbook/api"
	"lessonbook/desk"
)

// turn is a line, and what is told of it; nothing, if it is not answered.
type turn struct{ said, told string }

// isAnswer: is that just what a text is answered? Where it isn't, the first
// line that is another one is told.
func isAnswer(t *testing.T, text, want string) {
	t.Helper()
	got := desk.Run(text)
	if got == want {
		return
	}
	a, b := strings.Split(got, "\n"), strings.Split(want, "\n")
	at := 0
	for at < min(len(a), len(b))-1 && a[at] == b[at] {
		at++
	}
	t.Errorf("Run(%.2000q), %d bytes, is answered by %d lines, not by %d; line %d is %.200q, not %.200q", text, len(text), len(a)-1, len(b)-1, at, a[at], b[at])
}

// isTold: are the lines, one behind the other, answered so? What stands about
// them (more blanks, lines without words, a last byte 10) changes nothing.
func isTold(t *testing.T, turns ...turn) {
	t.Helper()
	var said []string
	want := ""
	for _, x := range turns {
		said = append(said, x.said)
		if x.told != "" {
			want += x.told + "\n"
		}
	}
	isAnswer(t, strings.Join(said, "\n")+"\n", want)
	isAnswer(t, strings.Join(said, "\n"), want)
	if len(said) <= api.MaxScript/2 {
		isAnswer(t, "  "+strings.ReplaceAll(strings.Join(said, "   \n  # step\n "), " ", "  "), want)
	}
}

// times is the same turn, told n times.
func times(n int, said, told string) []turn { return slices.Repeat([]turn{{said, told}}, n) }

// The first steps of the course that a desk begins with, with one example, or
// two; reckoned elsewhere.
const (
	example    = "data 65536 / 131072"
	another    = "data 131072 / 262144"
	oneStep    = "0 6554 1687146225227360379 1560787542091057258 0"
	oneMore    = "1 6554 1063542078986457665 2191919344819431273 0"
	oneLast    = "2 6554 175758093668509326 1096884189222330937 0"
	twoStep    = "0 6554 1687146225227360379 585605263347491947 0"
	twoMore    = "1 6554 1444372270118958408 1808890147807593584 1"
	twoLast    = "2 6554 1581233537430261997 385688676154239192 1"
	firstSetup = "config 1 1 1 1 1 3 6554 0 0 0 0"
)

// P25: the course that a desk begins with, reckoned elsewhere.
func TestFirstCourse(t *testing.T) {
	isTold(t,
		turn{"bytes", "0"}, turn{"audit", "error 1"}, turn{"loss 0", "error 4"}, turn{"step", "error 1"}, turn{"repair", "0"},
		turn{example, "ok"}, turn{"loss 0", "554210"}, turn{"audit", "0"},
		turn{another, "ok"}, turn{"loss 0", "554210"}, turn{"loss 1", "1605091"}, turn{"loss 2", "error 4"},
		turn{"step", twoStep}, turn{"bytes", "48"}, turn{"audit", "1"}, turn{"loss 0", "431865"}, turn{"loss 1", "1421991"},
		turn{"step", twoMore}, turn{"sync", "ok"}, turn{"step", twoLast}, turn{"step", "error 1"},
		turn{"audit", "3"}, turn{"loss 0", "185401"}, turn{"loss 1", "932945"},
		turn{"bytes", "145"}, turn{"repair", "0"}, turn{"crash 0", "ok"}, turn{"bytes", "145"}, turn{"step", "error 1"},
	)
}

// P25: the text that README.md shows, reckoned elsewhere.
func TestShown(t *testing.T) {
	isTold(t,
		turn{example, "ok"}, turn{"step", oneStep}, turn{"sync", "ok"}, turn{"step", oneMore}, turn{"crash 3", "ok"},
		turn{"repair", "3"}, turn{"step", oneMore}, turn{"audit", "2"}, turn{"loss 0", "325698"},
	)
}

// P25: the config that a desk begins with is the one that can be told it.
func TestFirstConfig(t *testing.T) {
	const rest = example + "\n" + another + "\nstep\nstep\nloss 0\nstep\nloss 1\nstep\n"
	if a, b := desk.Run(rest), desk.Run(firstSetup+"\n"+rest); "ok\n"+a != b {
		t.Errorf("%s\nand\n%s", a, b)
	}
}

// P25: courses with momentum, decay and clipping, and with numbers at their
// bounds, reckoned elsewhere.
func TestOtherCourses(t *testing.T) {
	isTold(t,
		turn{"config 1 2 1 5 3 4 6554 1 1 58982 0", "ok"}, turn{example, "ok"}, turn{another, "ok"},
		turn{"step", "0 6554 181964385764481772 1050919768250886125 1 0 1"},
		turn{"step", "1 4916 1423175283162880147 2090131981013548346 0 1 0"}, turn{"loss 1", "35641"},
		turn{"step", "2 3277 34295056373006596 658643886808056044 0 1 0"},
		turn{"step", "3 1638 1613712204207978072 464333533608916822 1 1 0"}, turn{"step", "error 1"},
		turn{"audit", "4"}, turn{"loss 0", "209521"}, turn{"loss 1", "64391"}, turn{"bytes", "207"},
	)
	isTold(t,
		turn{"config 2 2 1 77 2 5 13107 1 0 65536 65536", "ok"},
		turn{"data 65536 -65536 / 32768", "ok"}, turn{"data 196608 7 / -65536", "ok"}, turn{"data -20000 40001 / 99999", "ok"},
		turn{"step", "0 13107 1585774676096776142 470338321912488552 0 2"},
		turn{"step", "1 10486 1837869061255020504 624135499679003768 1 1"},
		turn{"step", "2 7864 1867412801139004318 1739894541008684893 0 2"},
		turn{"step", "3 5243 1551849663534171968 1377494914742906346 0 1"},
		turn{"step", "4 2621 1060192443678249508 603200240218298482 2 0"}, turn{"step", "error 1"},
		turn{"loss 0", "34490"}, turn{"loss 1", "33801"}, turn{"loss 2", "130583"}, turn{"audit", "5"}, turn{"bytes", "254"},
	)
	isTold(t,
		turn{"config 2 2 1 9999999999 4 2 2147483647 0 1 65536 0", "ok"},
		turn{"data 2147483647 2147483647 / -2147483647", "ok"},
		turn{"data 2147483647 -2147483647 / 2147483647", "ok"}, turn{"data 65536 1 / 2147483647", "ok"},
		turn{"loss 0", "2147483647"}, turn{"step", "0 2147483647 51041693017172829 1081704017686120247 0 1 2 2"},
		turn{"loss 1", "1475"}, turn{"step", "1 2147483647 1551881774423116039 1275378807116084297 1 0 0 1"},
		turn{"loss 2", "0"}, turn{"audit", "2"}, turn{"bytes", "120"}, turn{"step", "error 1"},
	)
}

// P25: the greatest course, reckoned elsewhere: all of it has room.
func TestGreatestCourse(t *testing.T) {
	lines := []string{"config 4 4 4 12345 8 40 6554 1 1 58982 65536"}
	for i := range 16 {
		var in, out []string
		for k := range 4 {
			in = append(in, strconv.Itoa((i*7919+k*104729)%131072-65536))
			out = append(out, strconv.Itoa((i*15485863+k*32452843)%131072-65536))
		}
		lines = append(lines, "data "+strings.Join(in, " ")+" / "+strings.Join(out, " "))
	}
	lines = append(lines, slices.Repeat([]string{"step"}, 40)...)
	lines = append(lines, "audit", "loss 0", "loss 15", "loss 16", "bytes", "step", "data 1 / 2", "repair")
	got := strings.Split(desk.Run(strings.Join(lines, "\n")), "\n")
	if len(got) != len(lines)+1 {
		t.Fatalf("%d answers of %d lines: %q", len(got)-1, len(lines), got)
	}
	for at, want := range map[int]string{
		0: "ok", 1: "ok", 16: "ok",
		17: "0 6554 408647471507348243 900292162600540968 3 15 1 6 2 10 11 5",
		18: "1 6390 1033404972497425988 1642254031526769906 9 8 7 0 14 13 4 12",
		37: "20 3277 1658551972511872128 1542325864681308054 10 0 5 12 13 7 4 1",
		56: "39 164 87660572163737768 1193591600959597592 14 4 0 6 2 5 8 10",
		57: "40", 58: "49956", 59: "92781", 60: "error 4", 61: "2623", 62: "error 1", 63: "error 2", 64: "0", 65: "",
	} {
		if got[at] != want {
			t.Errorf("line %d is answered %q, not %q", at, got[at], want)
		}
	}
}

// P25, P12: each number of a config, at its bounds and beyond them; with an
// error the config is as it was.
func TestConfigBounds(t *testing.T) {
	const far = 9999999999
	for at, x := range []struct{ low, high int }{
		{1, 4}, {1, 4}, {1, 4}, {-far, far}, {1, 8}, {1, 40}, {0, api.Most}, {0, 1}, {0, 1}, {0, 65536}, {0, api.Most},
	} {
		right := [11]int{2, 3, 2, 9, 3, 7, 6554, 1, 1, 60000, 70000}
		for _, n := range []int{x.low, x.high, x.low - 1, x.high + 1, 0, 5, -1, -far, far, 1 << 31, 1 << 32, 1<<32 + 1, 1<<33 + 2} {
			right[at] = n
			want := "error 1"
			if x.low <= n && n <= x.high {
				want = "ok"
			} else if n < -far || n > far {
				want = "error 3"
			}
			isTold(t, turn{setup(right), want})
			if want == "ok" {
				continue
			}
			isTold(t, turn{example, "ok"}, turn{setup(right), want}, turn{"step", oneStep}, turn{setup(right), want}, turn{"step", oneMore})
		}
	}
}

// P25: each number of a config has its place: all that is told hangs on it.
func TestConfigPlaces(t *testing.T) {
	data := []api.Example{{In: []int{65536, -30000}, Out: []int{99999}}, {In: []int{-80000, 7}, Out: []int{1}}}
	base := [11]int{2, 3, 1, 9, 3, 7, 6554, 0, 1, 60000, 70000}
	seen := map[string]int{course(t, base, data): 1}
	for at, n := range map[int]int{1: 2, 3: 8, 4: 2, 5: 6, 6: 6555, 7: 1, 8: 0, 9: 60001, 10: 65536} {
		c := base
		c[at] = n
		seen[course(t, c, data)]++
	}
	if len(seen) != 10 {
		t.Errorf("%d answers, not 10", len(seen))
	}
	base[0], base[2] = 1, 4
	course(t, base, []api.Example{{In: []int{65536}, Out: []int{5, 6, 7, 99999}}})
}

// P25: a seed below 0 is 0; reckoned elsewhere.
func TestSeedBelowNothing(t *testing.T) {
	const line = "0 6554 2025534644576595135 969618388439587620 0"
	for _, seed := range []string{"0", "-1", "-2", "-9999999999", "-2147483648"} {
		isTold(t, turn{example, "ok"}, turn{"config 1 1 1 " + seed + " 1 3 6554 0 0 0 0", "ok"}, turn{"step", line}, turn{"loss 0", "122172"})
	}
}

// P25: a new config leaves examples and journal; a step is then one of the new
// course. Reckoned elsewhere.
func TestConfigChanged(t *testing.T) {
	isTold(t,
		turn{example, "ok"}, turn{"step", oneStep}, turn{"step", oneMore}, turn{"audit", "2"},
		turn{"config 1 1 1 2 1 3 6554 0 0 0 0", "ok"}, turn{"audit", "0"},
		turn{"step", "2 6554 1424212880037907369 1403480169329510253 0"}, turn{"audit", "0"}, turn{"step", "error 1"},
		turn{firstSetup, "ok"}, turn{"audit", "2"},
		// Now there are more records than steps.
		turn{"config 1 1 1 1 1 2 6554 0 0 0 0", "ok"},
		turn{"audit", "error 2"}, turn{"loss 0", "error 1"}, turn{"step", "error 1"}, turn{"loss 1", "error 4"},
		// Now the example does not fit.
		turn{"config 2 1 1 1 1 3 6554 0 0 0 0", "ok"},
		turn{"audit", "error 5"}, turn{"loss 0", "error 5"}, turn{"step", "error 5"}, turn{"loss 1", "error 4"},
		// Of both, the one that train tells first.
		turn{"config 1 1 2 1 1 1 6554 0 0 0 0", "ok"},
		turn{"audit", "error 5"}, turn{"loss 0", "error 5"}, turn{"step", "error 5"}, turn{"loss -1", "error 4"},
		turn{"bytes", "147"}, turn{"repair", "0"}, turn{"bytes", "147"},
	)
}

// P25: an example more is another course: its head is in all chains.
func TestExampleMore(t *testing.T) {
	isTold(t,
		turn{example, "ok"}, turn{"step", oneStep}, turn{"data 0 / 0", "ok"}, turn{"audit", "0"},
		turn{"step", "1 6554 510142506856869519 85435766274364279 1"}, turn{"audit", "0"}, turn{"loss 1", "7594"},
		turn{"data 2147483648 / 0", "ok"},
		turn{"step", "error 5"}, turn{"audit", "error 5"}, turn{"loss 0", "error 5"}, turn{"loss 2", "error 5"}, turn{"loss 3", "error 4"},
	)
}

// P25: any numbers are an example; whether it fits is asked by the course.
func TestExamplesThatDoNotFit(t *testing.T) {
	for _, x := range []string{
		"data /", "data 1 /", "data / 1", "data 1 2 / 3", "data 1 / 2 3", "data 1 2 3 4 5 / 1",
		"data 2147483648 / 1", "data 1 / -2147483648", "data 9999999999 / 1", "data 1 / -9999999999",
		"data " + strings.Repeat("1 ", 20000) + "/ 1",
	} {
		isTold(t, turn{x, "ok"}, turn{"step", "error 5"}, turn{"audit", "error 5"}, turn{"loss 0", "error 5"}, turn{"loss 1", "error 4"}, turn{"bytes", "0"})
		isTold(t, turn{example, "ok"}, turn{"step", oneStep}, turn{x, "ok"}, turn{"step", "error 5"}, turn{"loss 0", "error 5"}, turn{"bytes", "49"})
	}
}

// P25: there are 16 examples at most; what can't be read is told ahead of that.
func TestExamplesInAll(t *testing.T) {
	for _, x := range []string{example, "data /", "data 9999999999 / 1"} {
		turns := times(16, x, "ok")
		turns = append(turns, times(3, x, "error 2")...)
		turns = append(turns, turn{"data 1", "error 3"}, turn{"data 1 / x", "error 3"}, turn{"data 1 / 2", "error 2"}, turn{"data", "error 3"}, turn{"loss 16", "error 4"})
		isTold(t, turns...)
	}
	// Those that were refused are not of the course.
	turns := append(times(16, example, "ok"), turn{another, "error 2"})
	course := desk.Run(strings.Repeat(example+"\n", 16) + "step\nloss 15\n")
	_, course, _ = strings.Cut(course, "ok\n"+"0 ")
	step, rest, _ := strings.Cut("0 "+course, "\n")
	isTold(t, append(turns, turn{"step", step}, turn{"loss 15", strings.TrimSuffix(rest, "\n")})...)
}

// P25: an example that can't be read is none.
func TestExamplesNotRead(t *testing.T) {
	for _, x := range []string{
		"data", "data 1", "data 1 2", "data 1 2 3", "data 1/2", "data 1/ 2", "data 1 /2", "data1 / 2", "data/ 1 / 2", "data //", "data 1 // 2",
		"data 1 / 2 / 3", "data 1 / / 2", "data / /", "data / / 1", "data 1 / 2 /", "data x / 1", "data 1 / x", "data 1 x / 2", "data 1 / 2 x",
		"data -0 / 1", "data 1 / -0", "data 01 / 1", "data 1 / 00", "data +1 / 1", "data 1 / +1", "data 10000000000 / 1", "data 1 / -10000000000",
		"data 1 \\ 2", "data 1 / 2 # 3", "data 1 /\t2", "data ..", "data N .. / N ..",
	} {
		isTold(t, turn{x, "error 3"}, turn{"step", "error 1"}, turn{"loss 0", "error 4"}, turn{example, "ok"}, turn{"step", oneStep})
	}
}

// P25: which example the loss is of, and that there must be one, ahead of all
// but what can't be read.
func TestLossOfWhich(t *testing.T) {
	var turns []turn
	for i := range 16 {
		turns = append(turns, turn{fmt.Sprintf("data 0 / %d", 65536*i), "ok"})
	}
	turns = append(turns, turn{"config 1 1 1 1 1 3 0 0 0 0 0", "ok"})
	// With a rate of 0 each step leaves the pupil; its B2 is -62188, and its
	// H, for 0, is 49596.
	y := (49596*16123+32768)/65536 - 62188
	for _, after := range []string{"", "step", "step", "step"} {
		if after != "" {
			turns = append(turns, turn{after, strings.Split(desk.Run(join(turns)+after), "\n")[len(turns)]})
		}
		for _, i := range []int{0, 1, 7, 15} {
			d := y - 65536*i
			turns = append(turns, turn{fmt.Sprintf("loss %d", i), strconv.Itoa((d*d + 32768) / 65536)})
		}
	}
	for _, i := range []string{"16", "17", "-1", "-16", "2147483647", "4294967296", "9999999999", "-9999999999"} {
		turns = append(turns, turn{"loss " + i, "error 4"})
	}
	isTold(t, turns...)
}

// join is the text of turns, each with its byte 10.
func join(turns []turn) string {
	text := ""
	for _, x := range turns {
		text += x.said + "\n"
	}
	return text
}

// P25, P24: what a stop leaves, and what is gone on with.
func TestStops(t *testing.T) {
	for _, x := range []struct {
		keep string
		left int
		gone int
	}{
		{"-9999999999", 49, 0}, {"-4294967295", 49, 0}, {"-1", 49, 0}, {"0", 49, 0}, {"1", 50, 1}, {"3", 52, 3}, {"48", 97, 48}, {"49", 98, 0}, {"50", 98, 0},
		{"2147483648", 98, 0}, {"4294967296", 98, 0}, {"9999999999", 98, 0},
	} {
		records := "1"
		next := turn{"step", oneMore}
		if x.left == 98 {
			records = "2"
			next.told = oneLast
		}
		isTold(t, turn{example, "ok"}, turn{"step", oneStep}, turn{"sync", "ok"}, turn{"step", oneMore},
			turn{"crash " + x.keep, "ok"}, turn{"bytes", strconv.Itoa(x.left)}, turn{"audit", records},
			// What is left is synced.
			turn{"crash 0", "ok"}, turn{"bytes", strconv.Itoa(x.left)},
			turn{"repair", strconv.Itoa(x.gone)}, turn{"bytes", strconv.Itoa(x.left - x.gone)}, turn{"repair", "0"},
			turn{"crash -1", "ok"}, turn{"bytes", strconv.Itoa(x.left - x.gone)}, turn{"audit", records},
			next, turn{"crash 0", "ok"}, turn{"bytes", strconv.Itoa(x.left - x.gone)})
	}
}

// P25: a step behind a torn line that was not repaired is done again, and told,
// but no record of the store is more; at last there is no room. 29 bytes and 83
// lines of 49 are just the 4096 that there are.
func TestFull(t *testing.T) {
	for _, x := range []struct{ keep, lines, bytes int }{{1, 83, 4068}, {28, 83, 4095}, {29, 83, 4096}, {30, 82, 4048}, {48, 82, 4066}} {
		turns := []turn{{example, "ok"}, {"step", oneStep}, {fmt.Sprintf("crash %d", x.keep), "ok"}}
		turns = append(turns, times(x.lines, "step", oneStep)...)
		turns = append(turns, times(3, "step", "error 6")...)
		bytes := strconv.Itoa(x.bytes)
		turns = append(turns, turn{"bytes", bytes}, turn{"audit", "0"}, turn{"loss 0", "554210"}, turn{"repair", bytes}, turn{"bytes", "0"}, turn{"step", oneStep}, turn{"step", oneMore}, turn{"audit", "2"})
		isTold(t, turns...)
	}
	// What journal refuses is told ahead of there being no room.
	full := append([]turn{{example, "ok"}, {"step", oneStep}, {"crash 29", "ok"}}, times(83, "step", oneStep)...)
	isTold(t, append(full, turn{"data /", "ok"}, turn{"step", "error 5"})...)
}
