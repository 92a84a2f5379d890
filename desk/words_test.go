package desk_test

import (
	"math/rand"
	"regexp"
	"strconv"
	"strings"
	"testing"

	"lessonbook/desk"
)

// P25: what a text's lines are, and which of them are answered.
func TestLines(t *testing.T) {
	for text, want := range map[string]string{
		"":                             "",
		"\n":                           "",
		"\n\n\n":                       "",
		" ":                            "",
		"   \n  \n ":                   "",
		"bytes":                        "0\n",
		"bytes\n":                      "0\n",
		"bytes\n\n":                    "0\n",
		"\nbytes":                      "0\n",
		"\n\nbytes\n\nbytes\n":         "0\n0\n",
		"bytes\n ":                     "0\n",
		" bytes":                       "0\n",
		"bytes ":                       "0\n",
		"   bytes    ":                 "0\n",
		"crash 1":                      "ok\n",
		"  crash    1  ":               "ok\n",
		"crash\n1":                     "error 3\nerror 3\n",
		"#":                            "",
		"# bytes":                      "",
		"#bytes":                       "",
		"  #bytes":                     "",
		"##":                           "",
		"#\nbytes\n#":                  "0\n",
		"bytes #":                      "error 3\n",
		"bytes # no":                   "error 3\n",
		"bytes#":                       "error 3\n",
		"/#":                           "error 3\n",
		"bytes\r\n":                    "error 3\n",
		"bytes\t":                      "error 3\n",
		"\tbytes":                      "error 3\n",
		"\t":                           "error 3\n",
		"\t#":                          "error 3\n",
		"\r\n":                         "error 3\n",
		"\x00":                         "error 3\n",
		"\xff":                         "error 3\n",
		"\u00a0":                       "error 3\n",
		"bytes\u00a0":                  "error 3\n",
		"\u2028bytes":                  "error 3\n",
		"crash\t1":                     "error 3\n",
		"crash\v1":                     "error 3\n",
		"crash\u00a01":                 "error 3\n",
		"bytes bytes":                  "error 3\n",
		"sync\nx\nsync":                "ok\nerror 3\nok\n",
		"error 2":                      "error 3\n",
		"data 65536 / 131072\nbytes\n": "ok\n0\n",
	} {
		isAnswer(t, text, want)
	}
}

// P25: words are parted by the byte 32 alone, and lines by the byte 10.
func TestEachByte(t *testing.T) {
	for b := range 256 {
		apart, line := "error 3\n", "error 3\n0\n"
		switch b {
		case ' ':
			apart = "ok\n"
		case '\n':
			apart, line = "error 3\nerror 3\n", "0\n0\n"
		}
		isAnswer(t, "crash"+string([]byte{byte(b)})+"1", apart)
		if b != ' ' {
			isAnswer(t, "bytes"+string([]byte{byte(b)})+"\nbytes", line)
		}
	}
}

// P25: a first word is one of those that stand there, to the byte.
func TestFirstWords(t *testing.T) {
	for _, word := range []string{
		"config", "data", "step", "sync", "crash", "repair", "audit", "loss", "bytes",
	} {
		for _, wrong := range []string{strings.ToUpper(word), strings.ToUpper(word[:1]) + word[1:], word[1:], word[:len(word)-1], word + "s", "-" + word, word + ":", "\"" + word + "\""} {
			for _, rest := range []string{"", " 1", " 1 / 2", " 1 1 1 1 1 3 6554 0 0 0 0"} {
				isAnswer(t, wrong+rest, "error 3\n")
			}
		}
	}
	for _, wrong := range []string{"/", "..", "0", "1", "-1", "ok", "error", "records", "run", "N", "room", "head", "find", "quit", "help", "print", strings.Repeat("x", 65536)} {
		isAnswer(t, wrong, "error 3\n")
	}
}

// P25: how many words a line has; what is read wrong changes nothing.
func TestHowManyWords(t *testing.T) {
	for _, x := range []struct {
		word, number string
		count        int
		told         string
	}{
		{"config", "1", 11, "ok"}, {"crash", "0", 1, "ok"}, {"loss", "0", 1, "231553"},
		{"step", "1", 0, "error 1"}, {"sync", "1", 0, "ok"}, {"repair", "1", 0, "0"}, {"audit", "1", 0, "3"}, {"bytes", "1", 0, "146"},
	} {
		for n := range 25 {
			told := "error 3"
			if n == x.count {
				told = x.told
			}
			turns := []turn{{example, "ok"}, {"step", oneStep}, {"step", oneMore}, {"step", oneLast}}
			turns = append(turns, turn{x.word + strings.Repeat(" "+x.number, n), told})
			if told == "error 3" {
				turns = append(turns, turn{"bytes", "146"}, turn{"audit", "3"}, turn{"crash 1", "ok"}, turn{"bytes", "1"})
			}
			isTold(t, turns...)
		}
	}
	isTold(t, turn{"sync x", "error 3"}, turn{"step /", "error 3"}, turn{"bytes 0x", "error 3"}, turn{"repair -0", "error 3"})
}

// numberForm is a number as the document has it.
var numberForm = regexp.MustCompile(`\A(0|-?[1-9][0-9]{0,9})\z`)

// isNumber: is a word taken for a number where it should be, and only there?
// (A word has no blank, and no byte 10.)
func isNumber(t *testing.T, word string) {
	t.Helper()
	crash, loss, data := "error 3\n", "error 3\n", "error 3\n"
	if numberForm.MatchString(word) {
		crash, loss, data = "ok\n", "error 4\n", "ok\n"
	}
	isAnswer(t, "crash "+word, crash)
	isAnswer(t, "loss "+word, loss)
	if word != "/" {
		isAnswer(t, "data "+word+" / 1", data)
		isAnswer(t, "data 1 / 1 "+word, data)
	}
}

// P25: which words are numbers, written by hand.
func TestNumbers(t *testing.T) {
	for _, word := range []string{"0", "1", "9", "10", "-1", "-9", "-10", "1234567890", "-1234567890", "9999999999", "-9999999999", "2147483648", "4294967296", "1000000000", "-1000000000"} {
		isAnswer(t, "crash "+word, "ok\n")
		isNumber(t, word)
	}
	for _, word := range []string{
		"-", "--", "+", "--1", "-+1", "+1", "+0", "-0", "00", "-00", "01", "-01", "0000000001", "00000000000", "10000000000", "-10000000000", "99999999999", "-99999999999",
		"9223372036854775807", "-9223372036854775808", "9223372036854775808", "18446744073709551616", "18446744073709551617", strings.Repeat("1", 60000), strings.Repeat("0", 60000), "-" + strings.Repeat("9", 60000), strings.Repeat("-", 60000),
		"1.0", "1.", ".1", "1e3", "1,000", "1_000", "0x1", "0b1", "0o7", "1a", "a1", "x", "N", "1-", "1-1", "1/2", "/1", "\t1", "1\t", "1\r", "1\x00", "\x001", "\xff", "١", "１", "−1", "1\u00a0", "inf", "nan", "#", "#1", "..",
	} {
		isAnswer(t, "crash "+word, "error 3\n")
		isNumber(t, word)
	}
}

// P25: all words of up to four bytes that have some kinds of byte.
func TestShortWords(t *testing.T) {
	kinds := "019-+/x_\t"
	var each func(word string, left int)
	each = func(word string, left int) {
		if word != "" {
			isNumber(t, word)
		}
		if left == 0 {
			return
		}
		for _, b := range kinds {
			each(word+string(b), left-1)
		}
	}
	each("", 4)
}

// P25: words of many lengths with digits alone, some with a sign.
func TestLongWords(t *testing.T) {
	r := rand.New(rand.NewSource(1))
	for n := 1; n <= 25; n++ {
		for range 40 {
			word := []byte(strings.Repeat("0", n))
			for i := range word {
				word[i] = byte('0' + r.Intn(10))
			}
			isNumber(t, string(word))
			isNumber(t, "-"+string(word))
		}
	}
}

// P25: a number is read as it stands: it says which bytes a stop leaves.
func TestNumbersAsTheyStand(t *testing.T) {
	for keep := -3; keep < 60; keep++ {
		left := strconv.Itoa(min(max(keep, 0), 49))
		isTold(t, turn{example, "ok"}, turn{"step", oneStep}, turn{"crash " + strconv.Itoa(keep), "ok"}, turn{"bytes", left})
	}
}

// P25: a text has 200 lines at most, those that are not answered among them.
func TestMostLines(t *testing.T) {
	for _, x := range []struct{ line, told string }{{"bytes", "0\n"}, {"", ""}, {" ", ""}, {"#", ""}, {"x", "error 3\n"}, {"sync", "ok\n"}} {
		lines := func(n int) string { return strings.Repeat(x.line+"\n", n) }
		for _, n := range []int{1, 2, 199, 200} {
			isAnswer(t, lines(n), strings.Repeat(x.told, n))
			isAnswer(t, lines(n-1)+"bytes", strings.Repeat(x.told, n-1)+"0\n")
			isAnswer(t, lines(n-1)+" ", strings.Repeat(x.told, n-1))
		}
		for _, n := range []int{201, 202, 400, 10000} {
			isAnswer(t, lines(n), "error 2\n")
			isAnswer(t, lines(n-1)+"bytes", "error 2\n")
			isAnswer(t, lines(n-1)+" ", "error 2\n")
			isAnswer(t, lines(n-1)+"#", "error 2\n")
		}
	}
	isAnswer(t, strings.Repeat("\n", 65536), "error 2\n")
}

// P25: a text has 65536 bytes at most, whatever they are.
func TestMostBytes(t *testing.T) {
	fill := func(begin, b string, n int) string { return begin + strings.Repeat(b, n-len(begin)) }
	for _, x := range []struct{ begin, b, told string }{
		{"bytes", " ", "0\n"}, {"bytes\n#", "x", "0\n"}, {"bytes\n", " ", "0\n"}, {"", " ", ""}, {"", "#", ""}, {"", "x", "error 3\n"}, {"bytes\n", "\xff", "0\nerror 3\n"}, {"crash ", "1", "error 3\n"},
	} {
		for _, n := range []int{65535, 65536} {
			isAnswer(t, fill(x.begin, x.b, n), x.told)
			isAnswer(t, fill(x.begin, x.b, n-1)+"\n", x.told)
		}
		for _, n := range []int{65537, 65538, 131072, 1 << 20} {
			isAnswer(t, fill(x.begin, x.b, n), "error 2\n")
			isAnswer(t, fill(x.begin, x.b, n-1)+"\n", "error 2\n")
		}
	}
	// The greatest text with the most lines.
	long := strings.Repeat("bytes"+strings.Repeat(" ", 321)+"\n", 200)
	isAnswer(t, long, strings.Repeat("0\n", 200))
	if len(long) > 65536 {
		t.Errorf("%d bytes", len(long))
	}
}

// P25: a text that is too long does nothing of what it says.
func TestTooMuchIsToldAlone(t *testing.T) {
	isAnswer(t, example+"\nstep\n"+strings.Repeat("bytes\n", 198), "ok\n"+oneStep+"\n"+strings.Repeat("49\n", 198))
	isAnswer(t, example+"\nstep\n"+strings.Repeat("bytes\n", 199), "error 2\n")
	if got := desk.Run("bytes\n"); got != "0\n" {
		t.Errorf("behind them: %q", got)
	}
}
