package tool

import (
	"math/rand"
	"slices"
	"strconv"
	"strings"
	"testing"
)

const someTable = "table 100 10 id:int,n:int?,b:bytes?"

func run(lines ...string) []string {
	out := string(Main([]byte(strings.Join(lines, "\n"))))
	return strings.Split(strings.TrimSuffix(out, "\n"), "\n")
}

// last answers what is said behind the table's line to these.
func last(lines ...string) []string {
	return run(append([]string{someTable}, lines...)...)[1:]
}

func check(t *testing.T, got []string, want ...string) {
	t.Helper()
	if !slices.Equal(got, want) {
		t.Errorf("%q, not %q", got, want)
	}
}

func TestDo(t *testing.T) {
	check(t, run(
		"do rollback",
		someTable,
		"do insert 1,10,x61;insert 2,null,null;scan id,n,b where true",
		"do update n+=5 where id = 1;agg - count,sum(n) where true",
		"do insert 1,0,x",
		"do",
		"do rollback;rollback",
		"do nothing",
		"do ",
		"do scan id where true;",
		"do delete where null n",
		"state",
		"check",
	),
		"bad",
		"ok",
		"0 begin", "0 op 0 n 1", "0 op 1 n 1", "0 op 2 n 0 [1,10,x61] [2,null,null]", "0 commit 2",
		"0 begin", "0 op 0 n 1", "0 op 1 n 0 [2,15]", "0 commit 3",
		"0 begin", "0 op 0 error 1", "0 abort 1",
		"0 begin", "0 commit 4",
		"0 begin", "0 op 0 error 3", "0 abort 3",
		"bad",
		"bad",
		"bad",
		"0 begin", "0 op 0 n 1", "0 commit 5",
		"now 5 delta 3 groups 0 versions 3", "[1,15,x61]",
		"yes",
	)
}

func TestDoOfABusyClient(t *testing.T) {
	check(t, last("begin 0", "do rollback", "step 0", "step 0", "do rollback"), "yes", "no", "yes", "yes", "0 begin", "0 op 0 error 3", "0 abort 3")
	// One that waits stays busy.
	check(t, last("begin 1 insert 1,1,x", "step 1", "step 1", "do scan id where true", "do", "log", "run", "check"),
		"yes", "yes", "yes", "0 begin", "0 op 0 n 0 [1]", "no", "1 begin", "1 op 0 n 1", "0 begin", "0 op 0 n 0 [1]", "end", "rounds 3", "yes")
}

func TestBeginAndStep(t *testing.T) {
	many := strings.Repeat("rollback;", 15) + "rollback"
	check(t, last(
		"begin 0 scan id where true", "begin 0 scan id where true", "begin 7", "begin 8", "begin 999999999",
		"step 0", "step 0", "step 0", "step 0", "step 0", "step 1", "step 8",
		"begin 1 "+many, "begin 2 "+many+";rollback", "begin 2 "+many+";roll", "begin 2 ", "begin", "begin x", "begin -1", "begin 01", "begin 2  rollback", "step", "step ", "step 7 7", "step 0x",
		"log",
	),
		"yes", "no", "yes", "no", "no",
		"yes", "yes", "yes", "yes", "no", "no", "no",
		"yes", "no", "bad", "bad", "bad", "bad", "bad", "bad", "bad", "bad", "bad", "bad", "bad",
		"0 begin", "7 begin", "0 op 0 n 0", "0 commit 2", "1 begin", "end",
	)
}

func TestCare(t *testing.T) {
	check(t, last(
		"care 1 64", "do insert 1,1,x;insert 2,2,x;insert 3,3,x", "care 1 2", "care 1 2", "care 1 2", "state", "care 2 0", "care 2 0", "state",
		"do delete where id <= 2", "care 3 1", "settle", "settle", "state", "care 0 1", "care 4 1", "care 999999999 1", "care 1", "care 1 2 3", "care 1 -2", "care", "care x 1",
	),
		"no", "0 begin", "0 op 0 n 1", "0 op 1 n 1", "0 op 2 n 1", "0 commit 2", "yes", "yes", "no",
		"now 2 delta 0 groups 2 versions 3", "[1,1,x]", "[2,2,x]", "[3,3,x]", "yes", "no",
		"now 2 delta 0 groups 1 versions 3", "[1,1,x]", "[2,2,x]", "[3,3,x]",
		"0 begin", "0 op 0 n 2", "0 commit 3", "yes", "settled 1", "settled 0",
		"now 3 delta 0 groups 1 versions 1", "[3,3,x]", "no", "no", "no", "bad", "bad", "bad", "bad", "bad",
	)
}

func TestRounds(t *testing.T) {
	check(t, last("run", "rounds 0", "rounds 999999999", "begin 0 insert 1,1,x", "begin 3 insert 2,1,x", "rounds 2", "log", "run", "log", "rounds", "rounds -1", "rounds 1 1", "run 1", "run "),
		"rounds 0", "ok", "ok", "yes", "yes", "ok", "0 begin", "3 begin", "0 op 0 n 1", "3 op 0 n 1", "end",
		"rounds 2", "0 begin", "3 begin", "0 op 0 n 1", "3 op 0 n 1", "0 commit 2", "3 commit 3", "end", "bad", "bad", "bad", "bad", "bad")
}

func TestTable(t *testing.T) {
	check(t, run(
		"table 1 0 id:int", "do insert 1", "do insert 2", "table 2 0 id:int", "state", "log", "check", "do insert 1;insert 2", "care 1 64",
		"table 0 0 id:int", "table 1 0 id:int?", "table 1 id:int", "table 1 0", "table", "table 01 0 id:int", "table 1 0 id:int ", "table  1 0 id:int", "table 1 a id:int", "table 1234567890 0 id:int", "table 123456789 0 id:int", "table a 0 id:int",
		"state",
	),
		"ok", "0 begin", "0 op 0 n 1", "0 commit 2", "0 begin", "0 op 0 error 4", "0 abort 4", "ok", "now 1 delta 0 groups 0 versions 0", "end", "yes", "0 begin", "0 op 0 n 1", "0 op 1 n 1", "0 commit 2", "no",
		"ok", "bad", "bad", "bad", "bad", "bad", "bad", "bad", "bad", "bad", "ok", "bad",
		"now 1 delta 0 groups 0 versions 0",
	)
}

func TestAheadOfTable(t *testing.T) {
	for _, line := range []string{"begin 0", "step 0", "care 1 1", "rounds 1", "run", "settle", "do", "do rollback", "log", "state", "check", "what", " ", "table"} {
		check(t, run(line), "bad")
	}
}

func TestBad(t *testing.T) {
	for _, line := range []string{"what", " ", " log", "log ", "Log", "logs", "state 1", "check ", "check yes", "settle 1", "end", "do\r", "log\r", "\tlog", "begin\t0", "dorollback", "# log"} {
		check(t, last(line), "bad")
	}
}

func TestLines(t *testing.T) {
	for in, want := range map[string]string{
		"":                                   "",
		"\n":                                 "",
		"\n\n\n":                             "",
		"check":                              "bad\n",
		"check\n":                            "bad\n",
		"\n\ncheck\n\n\ncheck":               "bad\nbad\n",
		strings.Repeat("check\n", 1000):      strings.Repeat("bad\n", 1000),
		strings.Repeat("check\n", 1001):      strings.Repeat("bad\n", 1000),
		strings.Repeat("check\n", 999) + "x": strings.Repeat("bad\n", 1000),
		"table 1 1 id:int\nrun\n":            "ok\nrounds 0\n",
		"table 1 1 id:int\nstate\nlog":       "ok\nnow 1 delta 0 groups 0 versions 0\nend\n",
	} {
		if got := string(Main([]byte(in))); got != want {
			t.Errorf("%q: %q", in[:min(len(in), 50)], got[:min(len(got), 50)])
		}
	}
	if got := Main(nil); len(got) != 0 {
		t.Error(got)
	}
}

// TestEmptyLinesAreNotCounted: only lines that are answered are among the 1,000.
func TestEmptyLinesAreNotCounted(t *testing.T) {
	const table, answer = "table 100 10 id:int\n", "ok\n"
	many := strings.Repeat("\n", 1<<24)
	for i, x := range []struct{ in, want string }{
		{table + strings.Repeat("check\n\n", 1005), answer + strings.Repeat("yes\n", 999)},
		{table + strings.Repeat("\n\n\ncheck\n", 999), answer + strings.Repeat("yes\n", 999)},
		{strings.Repeat("\n", 1000) + table + "\n" + strings.Repeat("check\n", 998) + "\n\ncheck", answer + strings.Repeat("yes\n", 999)},
		{strings.Repeat("what\n\n", 999) + table + "\ncheck", strings.Repeat("bad\n", 999) + answer},
		{strings.Repeat("what\n\n", 1000) + table + "\ncheck", strings.Repeat("bad\n", 1000)},
		{many, ""},
		{many + table + many + "check" + many + "check", answer + "yes\nyes\n"},
	} {
		if got := string(Main([]byte(x.in))); got != x.want {
			t.Error(i, len(got), len(x.want))
		}
	}
}

func someOp(rnd *rand.Rand) string {
	where := " where id " + []string{"=", "!=", "<", "<=", ">", ">="}[rnd.Intn(6)] + " " + strconv.Itoa(rnd.Intn(7))
	if rnd.Intn(5) == 0 {
		where = []string{" where true", " where null n", " where not(or(null b,n > 3))"}[rnd.Intn(3)]
	}
	switch rnd.Intn(10) {
	case 0, 1, 2:
		return "insert " + strconv.Itoa(rnd.Intn(7)) + "," + []string{"null", "5", "-1"}[rnd.Intn(3)] + "," + []string{"null", "x61", "x"}[rnd.Intn(3)]
	case 3:
		return "update n=7,b=null" + where
	case 4:
		return "update n+=" + []string{"1", "9223372036854775800"}[rnd.Intn(20)/19] + where
	case 5, 6:
		return "delete" + where
	case 7:
		return "agg b count,sum(n),min(id),max(b)" + where
	case 8:
		if rnd.Intn(5) == 0 {
			return "rollback"
		}
	}
	return "scan b,id,n" + where
}

// script is lines that work at one table; those of care are told by themselves, too.
func script(rnd *rand.Rand, table string) (whole, plain []string) {
	whole, plain = []string{table}, []string{table}
	for range 200 {
		var ops []string
		for range 1 + rnd.Intn(4) {
			ops = append(ops, someOp(rnd))
		}
		client := strconv.Itoa(rnd.Intn(8))
		line := "step " + client
		switch rnd.Intn(9) {
		case 0, 1, 2:
			line = "begin " + client + " " + strings.Join(ops, ";")
		case 3:
			line = "do " + strings.Join(ops, ";")
		case 4:
			line = "rounds " + strconv.Itoa(rnd.Intn(3))
		case 5, 6:
			whole = append(whole, "care "+strconv.Itoa(1+rnd.Intn(3))+" "+strconv.Itoa(rnd.Intn(20)))
			continue
		}
		whole, plain = append(whole, line), append(plain, line)
	}
	return append(whole, "run", "log"), append(plain, "run", "log")
}

// logOf answers what is said to the last line, which is log, and whether all was over by then.
func logOf(out []string) string {
	i := len(out) - 1
	for !strings.HasPrefix(out[i], "rounds ") {
		i--
	}
	return strings.Join(out[i+1:], "\n")
}

// TestWholeScripts: W1, W2 and W3.
func TestWholeScripts(t *testing.T) {
	commits := 0
	for seed := range int64(120) {
		rnd := rand.New(rand.NewSource(seed))
		whole, plain := script(rnd, "table 1000 100 id:int,n:int?,b:bytes?")
		out := run(append(whole, "check", "settle", "state")...)
		log := logOf(out[:slices.Index(out, "end")+1])
		if log != logOf(run(plain...)) {
			t.Fatal(seed, "the care is seen")
		}
		commits += strings.Count(log, "commit")
		rest := out[slices.Index(out, "end")+1:]
		if rest[0] != "yes" {
			t.Fatal(seed, rest[0])
		}
		words := strings.Fields(rest[2])
		if rows := strconv.Itoa(len(rest) - 3); words[len(words)-1] != rows {
			t.Fatal(seed, rest[1:3], rows)
		}
	}
	if commits < 1000 {
		t.Error(commits)
	}
}

// TestLittleRoom: W1 holds where room is wanting, too.
func TestLittleRoom(t *testing.T) {
	full := 0
	for seed := range int64(120) {
		whole, _ := script(rand.New(rand.NewSource(seed)), "table "+strconv.Itoa(int(seed)%9)+" "+strconv.Itoa(int(seed)%4)+" id:int,n:int?,b:bytes?")
		out := run(append(whole, "check")...)
		if out[len(out)-1] != "yes" {
			t.Fatal(seed)
		}
		full += strings.Count(logOf(out), "abort 4")
	}
	if full == 0 {
		t.Error("there always was room")
	}
}

// TestAnyBytes: W5.
func TestAnyBytes(t *testing.T) {
	rnd := rand.New(rand.NewSource(28))
	answers := " ok yes no bad end now settled rounds begin op commit abort "
	for range 400 {
		whole, _ := script(rnd, someTable)
		in := []byte(strings.Join(whole, "\n"))
		for range 1 + rnd.Intn(60) {
			i := rnd.Intn(len(in))
			switch rnd.Intn(4) {
			case 0:
				in[i] = byte(rnd.Intn(256))
			case 1:
				in = slices.Delete(in, i, min(len(in), i+rnd.Intn(5)+1))
			case 2:
				in = slices.Insert(in, i, in[rnd.Intn(len(in))], '\n')
			case 3:
				in[i] = "0;,\n() ="[rnd.Intn(8)]
			}
		}
		kept := slices.Clone(in)
		out := string(Main(in))
		if !slices.Equal(in, kept) || out != string(Main(in)) {
			t.Fatal("not the same")
		}
		for _, line := range strings.Split(strings.TrimSuffix(out, "\n"), "\n") {
			words := strings.Fields(line)
			if len(words) == 0 || line[0] != '[' && !strings.Contains(answers, " "+words[0]+" ") && !strings.Contains(answers, " "+words[min(1, len(words)-1)]+" ") {
				t.Fatalf("%q", line)
			}
		}
	}
}
