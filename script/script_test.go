package script_test

import (
	"fmt"
	"math"
	"slices"
	"strings"
	"sync"
	"testing"

	"bakehouse/api"
	"bakehouse/chain"
	"bakehouse/lots"
	"bakehouse/script"
)

// text is the answer of a line that is no command.
const text = "bakehouse: text"

// looks at all that a script can see of a chain up to cycle 3.
func looks() []string {
	l := []string{"at", "supply", "bonus"}
	for o := range 6 {
		l = append(l, fmt.Sprint("has ", o))
		for b := range 3 {
			l = append(l, fmt.Sprintf("value %d %d", o, b), fmt.Sprintf("waits %d %d 0", o, b))
		}
	}
	for b := range 3 {
		l = append(l, fmt.Sprint("staked ", b), fmt.Sprint("turn ", b))
	}
	return l
}

func run(t *testing.T, seed uint64, lines ...string) []string {
	t.Helper()
	answers, err := script.Run(seed, lines)
	if err != nil || len(answers) != len(lines) {
		t.Fatalf("%d answers of %d lines, %v", len(answers), len(lines), err)
	}
	return answers
}

// want of lines, one by one: line, answer, line, answer.
func want(t *testing.T, seed uint64, pairs ...string) {
	t.Helper()
	var lines []string
	for i := 0; i < len(pairs); i += 2 {
		lines = append(lines, pairs[i])
	}
	for i, got := range run(t, seed, lines...) {
		if got != pairs[2*i+1] {
			t.Errorf("%d: %q: %q; want %q", i, lines[i], got, pairs[2*i+1])
		}
	}
}

// wantLast answers of a script; the lines ahead of them are not asked.
func wantLast(t *testing.T, seed uint64, lines []string, last ...string) {
	t.Helper()
	answers := run(t, seed, lines...)
	if got := answers[len(answers)-len(last):]; !slices.Equal(got, last) {
		t.Errorf("%q: %q; want %q", lines, got, last)
	}
}

// P130: what a new chain has, by each command that looks.
func TestNewChain(t *testing.T) {
	for _, seed := range []uint64{0, 1, 42, 1 << 63, math.MaxUint64} {
		want(t, seed, "at", "0 0", "supply", "60000", "bonus", "0",
			"has 0", "9000", "has 2", "9000", "has 3", "10000", "has 5", "10000", "has 6", "0", "has 9", "0",
			"staked 0", "1000", "staked 2", "1000", "staked 3", "0", "staked 9", "0",
			"value 0 0", "1000", "value 2 2", "1000", "value 0 1", "0", "value 5 0", "0", "value 0 3", "0", "value 6 0", "0", "value 9 9", "0",
			"waits 0 0 0", "0", "waits 9 9 9999999", "0")
	}
}

// P130: pay, who whom how much.
func TestPay(t *testing.T) {
	want(t, 1, "pay 3 5 37", "ok", "has 3", "9963", "has 5", "10037",
		"pay 3 3 9963", "ok", "has 3", "9963", "pay 3 0 0", "ok", "has 0", "9000",
		"pay 3 4 9964", "bakehouse: short", "pay 6 0 1", "bakehouse: bound", "pay 0 6 1", "bakehouse: bound", "pay 0 9 9999999", "bakehouse: bound", "pay 0 1 9999999", "bakehouse: short",
		"has 3", "9963", "has 0", "9000", "has 1", "9000", "supply", "60000")
}

// P130: stake, unstake, what waits, and free, by cycles.
func TestStakes(t *testing.T) {
	want(t, 1, "stake 4 1 500", "ok", "value 4 1", "500", "value 1 4", "0", "staked 1", "1500", "has 4", "9500",
		"stake 4 1 0", "bakehouse: bound", "stake 4 3 5", "bakehouse: none", "stake 6 1 5", "bakehouse: bound", "stake 4 1 9501", "bakehouse: short",
		"unstake 4 1 200", "ok", "value 4 1", "300", "waits 4 1 0", "200", "waits 4 1 1", "0", "waits 4 0 0", "0", "waits 1 1 0", "0",
		"unstake 4 1 301", "bakehouse: short", "unstake 4 3 1", "bakehouse: none", "unstake 6 1 1", "bakehouse: bound", "unstake 4 1 0", "bakehouse: bound",
		"free 4", "bakehouse: none", "free 6", "bakehouse: bound", "free 9", "bakehouse: bound",
		"cycle", "ok", "unstake 4 1 50", "ok", "waits 4 1 1", "50", "waits 4 1 0", "200", "free 4", "bakehouse: none",
		"cycle", "ok", "free 4", "bakehouse: none",
		"cycle", "ok", "free 4", "200", "free 4", "bakehouse: none", "has 4", "9700", "waits 4 1 0", "0",
		"cycle", "ok", "free 4", "50", "has 4", "9750")
}

// P130: evidence: owner, baker, cycle and number; what is slashed at the cycle's end.
func TestAccuse(t *testing.T) {
	want(t, 1, "accuse 3 0 0 1", "ok", "accuse 4 0 0 1", "bakehouse: exist", "accuse 4 0 0 2", "ok", "accuse 4 0 0 9999999", "ok", "accuse 4 1 0 1", "ok",
		"accuse 3 0 1 1", "bakehouse: old", "accuse 3 0 9999999 1", "bakehouse: old", "accuse 6 0 0 3", "bakehouse: bound", "accuse 3 3 0 3", "bakehouse: bound",
		"cycle", "ok", "accuse 3 0 0 1", "bakehouse: exist", "accuse 3 2 0 0", "ok", "accuse 3 2 1 0", "ok",
		"cycle", "ok", "cycle", "ok", "accuse 3 2 0 1", "bakehouse: old", "accuse 3 2 1 1", "ok")
	slashed := []string{"unstake 2 2 300", "accuse 3 2 0 1", "cycle", "waits 2 2 0", "has 3"}
	answers := run(t, 5, slashed...)
	if answers[3] != "150" || answers[4] == "10000" {
		t.Error(answers)
	}
	// Of an even number less goes; who brings it has less, too.
	slashed[1] = "accuse 3 2 0 2"
	if even := run(t, 5, slashed...); even[3] != "285" || even[4] == answers[4] || even[4] == "10000" {
		t.Error(even)
	}
}

// P130: bake tells who and how much; it is the one whose turn it was, in that round.
func TestBake(t *testing.T) {
	rounds := map[string]int{}
	for seed := range uint64(30) {
		for round := range 8 {
			c := chain.New(seed)
			k, err := c.Turn(round)
			if err != nil {
				t.Fatal(err)
			}
			turn := fmt.Sprint(k)
			want(t, seed, fmt.Sprint("turn ", round), turn, "at", "0 0", fmt.Sprint("bake ", round), turn+" 540", "at", "0 1", "supply", "60540", "staked "+turn, "1540", "value "+turn+" "+turn, "1540")
			rounds[turn]++
		}
	}
	for _, k := range []string{"0", "1", "2"} {
		if rounds[k] < 20 {
			t.Error(rounds)
		}
	}
	for _, round := range []string{"8", "9"} {
		want(t, 3, "bake "+round, "bakehouse: bound", "turn "+round, "bakehouse: bound", "at", "0 0", "supply", "60000")
	}
}

// P130: a cycle is what blocks of round 0 one by one are, as many as are left of it: 4 at its start, 1 at its last level.
func TestCycle(t *testing.T) {
	for seed := range uint64(20) {
		for ahead := range 12 {
			left := 4 - ahead%4
			lines := slices.Repeat([]string{"bake 3"}, ahead)
			byOne := run(t, seed, slices.Concat(lines, slices.Repeat([]string{"bake 0"}, left), looks())...)
			atOnce := run(t, seed, slices.Concat(lines, []string{"cycle"}, looks())...)
			if !slices.Equal(byOne[ahead+left:], atOnce[ahead+1:]) || atOnce[ahead] != "ok" {
				t.Fatalf("seed %d, %d ahead: %q; want %q", seed, ahead, atOnce[ahead:], byOne[ahead+left:])
			}
			if at := fmt.Sprint(ahead/4+1, " ", (ahead/4+1)*4); atOnce[ahead+1] != at {
				t.Errorf("%q; want %q", atOnce[ahead+1], at)
			}
		}
	}
	want(t, 2, "cycle", "ok", "at", "1 4", "bonus", "100", "cycle", "ok", "at", "2 8", "bonus", "200")
}

// P130: a whole script of nothing but cycles.
func TestManyCycles(t *testing.T) {
	lines := slices.Repeat([]string{"cycle"}, 99)
	wantLast(t, 4, append(lines, "at"), "ok", "99 396")
}

// P131: each error that a script can come to, by its text, and nothing is changed by any.
func TestErrors(t *testing.T) {
	ahead := []string{"stake 4 1 500", "unstake 4 1 200", "accuse 0 1 0 7", "bake 0"}
	was := run(t, 11, slices.Concat(ahead, looks())...)[len(ahead):]
	baker := strings.Fields(run(t, 11, ahead...)[3])[0]
	for line, told := range map[string]string{
		"pay 4 5 9501":              "bakehouse: short",
		"pay 4 9 1":                 "bakehouse: bound",
		"stake 4 9 500":             "bakehouse: none",
		"stake 5 " + baker + " 1":   "bakehouse: small",
		"stake 5 0 0":               "bakehouse: bound",
		"stake 5 0 10001":           "bakehouse: short",
		"unstake 5 1 1":             "bakehouse: short",
		"unstake 5 4 1":             "bakehouse: none",
		"free 4":                    "bakehouse: none",
		"free 7":                    "bakehouse: bound",
		"accuse 1 1 0 7":            "bakehouse: exist",
		"accuse 1 1 1 7":            "bakehouse: old",
		"accuse 1 7 0 7":            "bakehouse: bound",
		"bake 8":                    "bakehouse: bound",
		"turn 9":                    "bakehouse: bound",
		"pays 4 5 1":                text,
		"unstake 4 1 " + "00000001": text,
	} {
		lines := slices.Concat(ahead, []string{line}, looks())
		wantLast(t, 11, lines, append([]string{told}, was...)...)
	}
}

// forms of all commands: D a digit, N a number.
var forms = []string{
	"pay D D N", "stake D D N", "unstake D D N", "accuse D D N N", "free D", "bake D", "cycle", "turn D",
	"has D", "staked D", "value D D", "waits D D N", "supply", "bonus", "at",
}

// fill a form: its words, each a 1.
func fill(form string) []string {
	return strings.Split(strings.NewReplacer("D", "1", "N", "1").Replace(form), " ")
}

// wantTexts: none of these lines is a command, and none does anything.
func wantTexts(t *testing.T, lines ...string) {
	t.Helper()
	was := run(t, 6, looks()...)
	for part := range slices.Chunk(lines, api.MaxLines-len(was)) {
		answers := run(t, 6, append(slices.Clone(part), looks()...)...)
		for i, line := range part {
			if answers[i] != text {
				t.Errorf("%q: %q", line, answers[i])
			}
		}
		if !slices.Equal(answers[len(part):], was) {
			t.Errorf("%q: something was done", part)
		}
	}
}

// P130, P131: words that are no digit, and words that are no number, at each place of each command.
func TestWrongWords(t *testing.T) {
	never := []string{"", "-1", "+1", "-0", "x", "0x1", "1_0", "1e1", "1.", ".1", "00", "01", "0000001", "00000000", "12345678", "10000000", "99999999999999999999999", "１", "٣", "1\x00", "\x00", "\t1", "1\r", "\xff", "²", ":", "/", "D", "N"}
	manyDigits := []string{"10", "12", "99", "1234567", "9999999"}
	var lines []string
	for _, form := range forms {
		for i, kind := range strings.Split(form, " ") {
			wrong := slices.Clone(never)
			switch {
			case i == 0:
				wrong = []string{"", "x", "1", strings.ToUpper(kind), kind + "s", kind[1:], kind + "\n", kind + "\t", "\ufeff" + kind}
			case kind == "D":
				wrong = append(wrong, manyDigits...)
			}
			for _, word := range wrong {
				words := fill(form)
				words[i] = word
				lines = append(lines, strings.Join(words, " "))
			}
		}
	}
	wantTexts(t, lines...)
}

// P130, P131: a word too many or too few, and blanks that are not one between.
func TestWrongShapes(t *testing.T) {
	lines := []string{"", " ", "  ", "\n", "D", "1", "1 1 1", "ok", "text", "cycles", "at at", "paystake 1 1 1", strings.Repeat(" ", 10000), strings.Repeat("pay", 10000)}
	for _, form := range forms {
		words := fill(form)
		line := strings.Join(words, " ")
		lines = append(lines, " "+line, line+" ", line+" 1", line+"\n", line+"\r", line+";", line+" "+line, line+" "+strings.Repeat("1 ", 1000))
		if len(words) > 1 {
			lines = append(lines, strings.Join(words[:len(words)-1], " "), words[0], words[0]+" ", strings.Join(words, "  "), strings.Join(words, "\t"), strings.Join(words, "\u00a0"), strings.Join(words, ","), strings.Join(words, ""), strings.Join(words[1:], " "))
			for i := 1; i < len(words); i++ {
				lines = append(lines, strings.Join(words[:i], " ")+"  "+strings.Join(words[i:], " "))
			}
		}
	}
	wantTexts(t, lines...)
}

// P130: each command with the least and the most of each word is one.
func TestWholeForms(t *testing.T) {
	for _, form := range forms {
		for _, digit := range []string{"0", "1", "5", "8", "9"} {
			for _, n := range []string{"0", "1", "9", "10", "100", "999999", "1000000", "1048576", "1048577", "9999999"} {
				line := strings.NewReplacer("D", digit, "N", n).Replace(form)
				if got := run(t, 1, line)[0]; got == text || got == "" {
					t.Errorf("%q: %q", line, got)
				}
			}
		}
	}
}

// P130, P131: a number of seven digits is read whole, and its digits in their order.
func TestNumbers(t *testing.T) {
	want(t, 1, "pay 3 4 1234", "ok", "has 3", "8766", "pay 3 4 8767", "bakehouse: short", "pay 3 4 8766", "ok", "has 3", "0", "has 4", "20000",
		"pay 4 3 20001", "bakehouse: short", "pay 4 3 1020000", "bakehouse: short", "pay 4 3 20000", "ok", "has 3", "20000")
}

// P131: a line that is none does not end a script.
func TestGoesOn(t *testing.T) {
	want(t, 1, "what", text, "bake", text, "", text, "pay 3 4 1", "ok", "what", text, "has 4", "10001")
}

// P130, P3: no lines, no answers; up to MaxLines, whatever they are; more are not run.
func TestMaxLines(t *testing.T) {
	run(t, 1)
	run(t, 1, []string{}...)
	for _, n := range []int{1, 99, 100} {
		for i, answer := range run(t, 1, make([]string, n)...) {
			if answer != text {
				t.Errorf("%d of %d: %q", i, n, answer)
			}
		}
		wantLast(t, 1, append(slices.Repeat([]string{"pay 3 4 1"}, n-1), "has 4"), fmt.Sprint(9999+n))
	}
	for _, n := range []int{101, 102, 200, 5000} {
		for _, line := range []string{"", "at", "pay 3 4 1"} {
			answers, err := script.Run(1, slices.Repeat([]string{line}, n))
			if len(answers) != 0 || err != api.ErrBound {
				t.Errorf("%d lines: %q %v", n, answers, err)
			}
		}
	}
}

// P3, P4: lines are only read, none behind their length; answers are new memory.
func TestOwnMemory(t *testing.T) {
	whole := []string{"at", "bake 0", "supply", "bake 0", "at"}
	was := slices.Clone(whole)
	a := run(t, 2, whole[:3]...)
	b := run(t, 2, whole[:3]...)
	for i := range a {
		a[i] = "spoilt"
	}
	_ = append(a, "spoilt")
	if b[0] != "0 0" || b[2] != "60540" || !slices.Equal(whole, was) {
		t.Error(b, whole)
	}
	want(t, 2, "at", "0 0", "supply", "60000")
}

func lotsOf(t *testing.T, seed uint64) func(int) int {
	l := lots.New(seed)
	return func(n int) int {
		k, err := l.Below(n)
		if err != nil {
			t.Fatal(err)
		}
		return k
	}
}

// told is an answer by hand: an error's text, or a line of numbers.
func told(err error, n ...any) string {
	if err != nil {
		return err.Error()
	}
	if len(n) == 0 {
		return "ok"
	}
	return strings.TrimSpace(fmt.Sprintln(n...))
}

func bakeByHand(c *chain.Chain, round int) string {
	k, err := c.Turn(round)
	if err != nil {
		return told(err)
	}
	n, err := c.Bake(k, round)
	return told(err, k, n)
}

func cycleByHand(t *testing.T, c *chain.Chain) string {
	t.Helper()
	for now := c.Cycle(); c.Cycle() == now; {
		k, err := c.Turn(0)
		if err != nil {
			t.Fatal(err)
		}
		if _, err := c.Bake(k, 0); err != nil {
			t.Fatal(err)
		}
	}
	return "ok"
}

// byHand: what a command tells, by the chain's own calls.
func byHand(t *testing.T, c *chain.Chain, name string, n [4]int) string {
	t.Helper()
	switch name {
	case "pay":
		return told(c.Pay(n[0], n[1], n[2]))
	case "stake":
		return told(c.Stake(n[0], n[1], n[2]))
	case "unstake":
		return told(c.Unstake(n[0], n[1], n[2]))
	case "accuse":
		return told(c.Accuse(n[0], api.Evidence{Baker: n[1], Cycle: n[2], Number: n[3]}))
	case "free":
		k, err := c.Free(n[0])
		return told(err, k)
	case "bake":
		return bakeByHand(c, n[0])
	case "cycle":
		return cycleByHand(t, c)
	case "turn":
		k, err := c.Turn(n[0])
		return told(err, k)
	}
	return lookByHand(c, name, n)
}

func lookByHand(c *chain.Chain, name string, n [4]int) string {
	switch name {
	case "has":
		return told(nil, c.Has(n[0]))
	case "staked":
		return told(nil, c.Stakes().Staked(n[0]))
	case "value":
		return told(nil, c.Stakes().Value(n[0], n[1]))
	case "waits":
		return told(nil, c.Stakes().Waits(n[0], n[1], n[2]))
	case "supply":
		return told(nil, c.Supply())
	case "bonus":
		return told(nil, c.Bonus())
	}
	return told(nil, c.Cycle(), c.Level())
}

// makeNumbers of a command: mostly of those that come to pass.
func makeNumbers(below func(int) int, name string, now int) [4]int {
	n := [4]int{below(6), below(3), below(1500), below(3)}
	switch name {
	case "bake", "turn":
		n[0] = below(8)
	case "waits", "accuse":
		n[2] = max(0, now-below(4))
	}
	switch below(12) {
	case 0:
		n[0] = below(10)
	case 1:
		n[1] = below(10)
	case 2:
		n[2] = below(10000000)
	case 3:
		n[3] = below(10000000)
	}
	return n
}

// makeLine of a form.
func makeLine(form string, n [4]int) string {
	words := strings.Split(form, " ")
	for i := range words[1:] {
		words[i+1] = fmt.Sprint(n[i])
	}
	return strings.Join(words, " ")
}

// makeScript: lines, and what they should tell.
func makeScript(t *testing.T, below func(int) int, seed uint64, size int) (lines, answers []string) {
	t.Helper()
	c := chain.New(seed)
	for range size {
		form := forms[below(len(forms))]
		name, _, _ := strings.Cut(form, " ")
		n := makeNumbers(below, name, c.Cycle())
		lines = append(lines, makeLine(form, n))
		answers = append(answers, byHand(t, c, name, n))
	}
	return lines, answers
}

// P130, P131: each line tells what the chain's own calls tell.
func TestManyScripts(t *testing.T) {
	below := lotsOf(t, 130)
	seen := map[string]int{}
	for seed := range uint64(400) {
		lines, answers := makeScript(t, below, seed, 100)
		for i, got := range run(t, seed, lines...) {
			if got != answers[i] {
				t.Fatalf("seed %d, %d: %q: %q; want %q", seed, i, lines[i], got, answers[i])
			}
			name, _, _ := strings.Cut(lines[i], " ")
			seen[name]++
			if strings.HasPrefix(got, "bakehouse: ") {
				name += got[len("bakehouse:"):]
				seen[name]++
			}
		}
	}
	for _, name := range []string{"pay bound", "pay short", "stake bound", "stake short", "stake none", "unstake none", "unstake bound", "unstake short", "accuse bound", "accuse old", "accuse exist", "free bound", "free none", "bake bound", "turn bound"} {
		if seen[name] < 10 {
			t.Errorf("%s: %d times", name, seen[name])
		}
		kind, _, _ := strings.Cut(name, " ")
		if seen[kind]-seen[name] < 10 {
			t.Errorf("%s: %d of %d times", name, seen[name], seen[kind])
		}
	}
}

// P132, P2: the same lines make the same answers, whatever else is run meanwhile.
func TestSameAnswers(t *testing.T) {
	below := lotsOf(t, 132)
	var group sync.WaitGroup
	for i := range uint64(16) {
		lines, answers := makeScript(t, below, i/2, 100)
		group.Go(func() {
			for range 20 {
				got, err := script.Run(i/2, lines)
				if err != nil || !slices.Equal(got, answers) {
					t.Error(i, err)
				}
			}
		})
	}
	group.Wait()
}

// P132: the answers of a script's first lines are those that they have alone.
func TestFirstLines(t *testing.T) {
	lines, answers := makeScript(t, lotsOf(t, 7), 7, 100)
	for n := range lines {
		if got := run(t, 7, lines[:n]...); !slices.Equal(got, answers[:n]) {
			t.Fatal(n, got)
		}
	}
}

// P130: other seeds have other turns.
func TestOtherSeed(t *testing.T) {
	lines := slices.Repeat([]string{"bake 0"}, 40)
	if slices.Equal(run(t, 1, lines...), run(t, 2, lines...)) {
		t.Error("the same")
	}
}

// P1: any bytes at all.
func TestAnyBytes(t *testing.T) {
	below := lotsOf(t, 1)
	for range 300 {
		lines := make([]string, 100)
		for i := range lines {
			line := []byte(strings.Join(fill(forms[below(len(forms))]), " "))
			for range below(4) {
				line[below(len(line))] = byte(below(256))
			}
			lines[i] = string(line[:below(len(line)+1)])
		}
		run(t, 1, lines...)
	}
}
